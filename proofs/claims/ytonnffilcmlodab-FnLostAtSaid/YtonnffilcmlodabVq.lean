/- Hops: impl.ArriveChance. No condition. -/
import Derived.Test.YtonnffilcmlodabVp
import Derived.Deep.RegionWith
namespace Go.Proofs.Ytonnffilcmlodab
open Go.RowKit

theorem slice_fromF (g n c j : Nat) (h : j ≤ n) (hc : n ≤ c) :
    ∃ o, (∀ W, (Instr.slice 32 (.slice (some ⟨g, 0, none⟩) n c) (some (.int .i64 (j : Int))) none none).run Try.prog W = .ok (.slice (some ⟨g, o, none⟩) (n - j) (c - j)) W) ∧ (j < n → o = j * 2) := by
  have h1 : (0 : Int) ≤ (j : Int) := by omega
  have h2 : (j : Int) ≤ (n : Int) := by omega
  by_cases e : j = c
  · refine ⟨0, fun W => ?_, fun hlt => by omega⟩
    have h3 : ¬ n < c := by omega
    subst e
    go_simp
  · refine ⟨j * 2, fun W => ?_, fun _ => rfl⟩
    have h4 : ¬ c = j := fun h => e h.symm
    go_simp
theorem slice_uptoF (b o n c j : Nat) (h : j ≤ c) (W : World) :
    (Instr.slice 32 (.slice (some ⟨b, o, none⟩) n c) none (some (.int .i64 (j : Int))) none).run Try.prog W = .ok (.slice (some ⟨b, o, none⟩) j c) W := by
  have h1 : (0 : Int) ≤ (j : Int) := by omega
  have h2 : (j : Int) ≤ (c : Int) := by omega
  go_simp
theorem prodQ_pass (u d : Nat) (zs : List Int) (hd : 0 < d) : prodQ (red u d) (passL zs) = red (u * prL zs) (d * 10 ^ zs.length) := fold_mul zs u d hd
theorem passL_len (zs : List Int) : (passL zs).length = zs.length := by simp [passL]
theorem passL_take (zs : List Int) (k : Nat) : (passL zs).take k = passL (zs.take k) := by simp [passL, List.map_take]
theorem passL_get {zs : List Int} {k : Nat} (hk : k < zs.length) : (passL zs)[k]'(by rw [passL_len]; exact hk) = red (10 - (zs[k]).toNat) 10 := by simp [passL]
theorem fit_pass {u d : Nat} {zs : List Int} (hd : 0 < d) (hu : u ≤ 1000000) (hd6 : d ≤ 1000000) (hl : zs.length ≤ 5) : Fit (red u d) (passL zs) := by
  intro k hk
  have hk' : k < zs.length := by rw [passL_len] at hk; exact hk
  rw [passL_take, passL_get hk', prodQ_pass _ _ _ hd, List.length_take, Nat.min_eq_left (by omega)]
  have hT : 10 ^ k ≤ 10000 := Nat.pow_le_pow_right (show 1 ≤ 10 by omega) (show k ≤ 4 by omega)
  have hT0 := ten_pos k
  have hP : prL (zs.take k) ≤ 10 ^ k := by have := prL_le (zs.take k); rw [List.length_take, Nat.min_eq_left (by omega)] at this; exact this
  have h1 := red_le (u * prL (zs.take k)) (d * 10 ^ k)
  have h2 := red_pos (u := u * prL (zs.take k)) (d := d * 10 ^ k) (Nat.mul_pos hd hT0)
  have h3 := red_le (10 - (zs[k]).toNat) 10
  have h4 := red_pos (u := 10 - (zs[k]).toNat) (d := 10) (by omega)
  have h5 : u * prL (zs.take k) ≤ 1000000 * 10000 := Nat.mul_le_mul hu (by omega)
  have h6 : d * 10 ^ k ≤ 1000000 * 10000 := Nat.mul_le_mul hd6 hT
  refine ⟨?_, ?_, Nat.mul_pos h2 h4⟩
  · have : (red (u * prL (zs.take k)) (d * 10 ^ k)).1 * (red (10 - (zs[k]).toNat) 10).1 ≤ (1000000 * 10000) * 10 := Nat.mul_le_mul (by omega) (by omega)
    omega
  · have : (red (u * prL (zs.take k)) (d * 10 ^ k)).2 * (red (10 - (zs[k]).toNat) 10).2 ≤ (1000000 * 10000) * 10 := Nat.mul_le_mul (by omega) (by omega)
    omega
theorem own_cutQ {w : World} {B g : Nat} {L : List (Nat × Nat)} (h : Own w 0 B (some ⟨g, 0, none⟩) (flatQ L)) {j o : Nat} (ho : j < L.length → o = j * 2) : Own w 0 B (some ⟨g, o, none⟩) (flatQ (L.drop j)) := by
  by_cases hj : j < L.length
  · rw [ho hj]
    have h1 := h.drop (j * 2)
    rw [Nat.zero_add] at h1
    have e : (flatQ L).drop (j * 2) = flatQ (L.drop j) := by
      have := flatQ_append (L.take j) (L.drop j)
      rw [List.take_append_drop] at this
      rw [this, List.drop_append_of_le_length (by rw [flatQ_length, List.length_take]; omega), List.drop_of_length_le (by rw [flatQ_length, List.length_take]; omega), List.nil_append]
    rw [e] at h1; exact h1
  · exact .inl (by rw [List.drop_of_length_le (by omega)]; rfl)
theorem row_of_ownQ {w : World} {base g n c : Nat} {L : List (Nat × Nat)} (h : w.ownsRow base 26 2 (.slice (some ⟨g, 0, none⟩) n c) n (flatQ L)) (hn : n = L.length) : Own w 0 w.heap.size (some ⟨g, 0, none⟩) (flatQ L) := by
  have hl := (h.lt g rfl).2
  refine .inr ⟨g, 0, rfl, by omega, hl, fun j u hu => ?_, fun h => absurd h (by omega)⟩
  rw [Nat.zero_add, h.cellAt j (by have := (List.getElem?_eq_some_iff.1 hu).1; rw [flatQ_length] at this; omega)]
  exact hu

set_option maxRecDepth 100000 in
set_option maxHeartbeats 4000000 in
theorem impArrive_any (A : Option Addr) (c : Nat) (zs : List Int) (w : World) (hr : Ints w w.heap.size A zs) (hl : zs.length ≤ 9000000000000000000) :
    Calls Try.prog 9 #[.slice A zs.length c] w fun e w' => e = .returned (.tuple #[frV (arrQ zs), .bool (hopsB zs)]) ∧ Below w.heap.size w w' := by
  have HB1 := Lib.hid (show Below w.heap.size w (w.alloc (.cells #[.int .i64 0, .int .i64 0] 26)) from (Below.refl _ _).alloc (Nat.le_refl _) _)
  have HX := Lib.hid (FBox.new w (.int .i64 0) (.int .i64 0))
  have hrW : Ints (w.alloc (.cells #[.int .i64 0, .int .i64 0] 26)) (w.alloc (.cells #[.int .i64 0, .int .i64 0] 26)).heap.size A zs := (hr.below HB1.out).more HB1.out.size
  have HV := Lib.hid (areHops_any A c zs (w.alloc (.cells #[.int .i64 0, .int .i64 0] 26)) hrW hl)
  by_cases hv : hopsB zs = true
  · obtain ⟨h0, h1, h5⟩ := hops_of hv
    have HA := Lib.hid (arrQ_yes hv)
    rw [hv] at HV ⊢
    rw [HA.out]
    have HPS := Lib.hid (passesOf_any A c zs _ hrW h5 h0)
    obtain ⟨W, hW⟩ : ∃ W, w.alloc (.cells #[.int .i64 0, .int .i64 0] 26) = W := ⟨_, rfl⟩
    rw [hW] at HB1 HX HV HPS
    obtain ⟨z0, rest, rfl⟩ : ∃ z0 rest, zs = z0 :: rest := by
      cases zs with
      | nil => simp at h1
      | cons z0 rest => exact ⟨z0, rest, rfl⟩
    have HAR := Lib.hid (show prodQ (red (10 - z0.toNat) 10) (passL rest) = arr (z0 :: rest) from arr_is)
    have HFT := Lib.hid (fit_pass (u := 10 - z0.toNat) (d := 10) (zs := rest) (by omega) (by omega) (by omega) (by simp at h5; omega))
    have hl5 : rest.length + 1 ≤ 5 := by simpa using h5
    have HPL := Lib.hid (show passL (z0 :: rest) = red (10 - z0.toNat) 10 :: passL rest from rfl)
    have HPN := Lib.hid (passL_len rest)
    simp only [List.length_cons] at HV HPS ⊢
    obtain ⟨p, hp⟩ : ∃ p, red (10 - z0.toNat) 10 = p := ⟨_, rfl⟩
    rw [hp] at HAR HFT
    obtain ⟨p1, p2⟩ := p
    have HPP := Lib.hid hp
    obtain ⟨r, hre⟩ : ∃ r, arr (z0 :: rest) = r := ⟨_, rfl⟩
    rw [hre] at HAR ⊢
    obtain ⟨r1, r2⟩ := r
    unfold frV
    dsimp only
    clear hv h0 hr hrW hl h1 h5 hp hre
    go_enter Try.func9, Try.ntmps9
    go_wp2_with (go_at_call 30; (with_reducible refine HV.out.mono ?_); rintro e w' ⟨rfl, rfl⟩)
    clear hW HV
    refine HPS.out.mono ?_
    rintro e w2 ⟨c2, g, rfl, ho2, hb2⟩
    obtain ⟨hg1, hg2⟩ := ho2.lt g rfl
    have hcap := own_cap ho2
    have hrow := row_of_ownQ ho2 (by rw [HPL.out]; simp [HPN.out])
    rw [HPL.out] at hrow
    obtain ⟨oo, hfr, hoo⟩ := slice_fromF g (rest.length + 1) c2 1 (by omega) hcap
    have hrow2 := own_cutQ hrow (j := 1) (o := oo) (fun h => hoo (by simp [HPN.out] at h ⊢; omega))
    simp only [List.drop_succ_cons, List.drop_zero] at hrow2
    have q0 := ho2.cellAt 0 (by omega)
    have q1 := ho2.cellAt 1 (by omega)
    rw [HPL.out, flatQ_cons] at q0 q1
    rw [HPP.out] at q0 q1
    have q0' : w2.cell? ⟨g, 0, none⟩ = some (.int .i64 (p1 : Int)) := q0
    have q1' : w2.cell? ⟨g, 1, none⟩ = some (.int .i64 (p2 : Int)) := q1
    have HROW := Lib.hid hrow2
    have hn1 : rest.length + 1 - 1 = rest.length := by omega
    rw [hn1] at hfr
    have HCALL := Lib.hid (fun X (hX : Below w2.heap.size w2 X) => productOf_any p1 p2 (some ⟨g, oo, none⟩) rest.length (c2 - 1) (passL rest) X ((HROW.out.below hX).more hX.size) HPN.out.symm (by rw [HPN.out]; omega) HFT.out)
    rw [HAR.out] at HCALL
    unfold frV at HCALL
    dsimp only at HCALL
    have HBX := Lib.hid hb2
    have hx2 := HX.out.keep hb2 HX.out.lt
    have HX2 := Lib.hid hx2
    obtain ⟨y0, y1, k0, k1, f0, f1, hwz⟩ := hx2
    have HWZ := Lib.hid hwz
    have hf1 : ∀ (X : World), (Instr.slice 32 (.slice (some ⟨g, 0, none⟩) (rest.length + 1) c2) (some (.int .i64 1)) none none).run Try.prog X = .ok (.slice (some ⟨g, oo, none⟩) rest.length (c2 - 1)) X := hfr
    have hI0 : (0 : Int) < ((rest.length + 1 : Nat) : Int) := by omega
    clear ho2 hb2 hrow hrow2 q0 q1 hfr hoo hcap hwz k0 k1 f0 f1
    go_wp2_with fail
    go_region_with (go_at_call 32; (refine (HCALL.out _ (by first | exact Below.refl _ _ | exact below_drewF (Below.refl _ _))).mono ?_); rintro e w5 ⟨rfl, hb5⟩; have hb6 : Below w2.heap.size w2 w5 := Below.trans (by first | exact Below.refl _ _ | exact below_drewF (Below.refl _ _)) hb5; have HB6 := Lib.hid hb6; obtain ⟨y2, y3, k0, k1, f0, f1, _⟩ := HX2.out.keep hb6 HWZ.out; clear hb5 hb6)
    all_goals
      go_wp2
      have hcs := cellsF_set (x := .int .i64 (r1 : Int)) (y := .int .i64 (r2 : Int)) k0 k1
      have hbb := ((HB1.out.trans ((HBX.out.trans (HB6.out.mono HBX.out.size)).mono HB1.out.size)).setCell (p := ⟨w.heap.size, 0, none⟩) (by show w.heap.size ≤ w.heap.size; omega) (.int .i64 (r1 : Int))).setCell (p := ⟨w.heap.size, 1, none⟩) (by show w.heap.size ≤ w.heap.size; omega) (.int .i64 (r2 : Int))
      refine bodyPost_ret (results_cell2 rfl rfl rfl (loadFc (by simpa using hcs.1) (by simpa using hcs.2))) rfl ?_
      exact ⟨rfl, by first | exact hbb | exact below_drewF hbb⟩
  · have hv' : hopsB zs = false := by simpa using hv
    have HA := Lib.hid (arrQ_no hv')
    rw [hv'] at HV ⊢
    rw [HA.out]
    clear hv hv' hr hrW
    obtain ⟨W, hW⟩ : ∃ W, w.alloc (.cells #[.int .i64 0, .int .i64 0] 26) = W := ⟨_, rfl⟩
    rw [hW] at HB1 HX HV
    obtain ⟨z1, z2, k0, k1, f0, f1, _⟩ := HX.out
    go_enter Try.func9, Try.ntmps9
    go_wp2_with (go_at_call 30; (with_reducible refine HV.out.mono ?_); rintro e w' ⟨rfl, rfl⟩)
    have hcs := cellsF_set (x := .int .i64 0) (y := .int .i64 0) k0 k1
    have hbb := (HB1.out.setCell (p := ⟨w.heap.size, 0, none⟩) (by show w.heap.size ≤ w.heap.size; omega) (.int .i64 0)).setCell (p := ⟨w.heap.size, 1, none⟩) (by show w.heap.size ≤ w.heap.size; omega) (.int .i64 0)
    refine bodyPost_ret (results_cell2 rfl rfl rfl (loadFc hcs.1 hcs.2)) rfl ?_
    exact ⟨rfl, hbb⟩
end Go.Proofs.Ytonnffilcmlodab
