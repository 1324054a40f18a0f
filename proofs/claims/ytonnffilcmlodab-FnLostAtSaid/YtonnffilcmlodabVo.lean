/- Hops: what each one lets by; ArriveChance on both sides. No condition. -/
import Derived.Test.YtonnffilcmlodabVn
namespace Go.Proofs.Ytonnffilcmlodab
open Go.RowKit

def tabQ (n : Nat) (f : Nat → Nat × Nat) : List (Nat × Nat) := (List.range n).map f
theorem tabQ_len (n : Nat) (f : Nat → Nat × Nat) : (tabQ n f).length = n := by simp [tabQ]
theorem tabQ_congr {n : Nat} {f g : Nat → Nat × Nat} (h : ∀ i, i < n → f i = g i) : tabQ n f = tabQ n g := List.map_congr_left fun i hi => h i (List.mem_range.1 hi)
theorem tabQ_get {n i : Nat} {f : Nat → Nat × Nat} (h : i < n) : (tabQ n f)[i]'(by rw [tabQ_len]; exact h) = f i := by simp [tabQ]
theorem flatQ_set (rs : List (Nat × Nat)) (k : Nat) (v : Nat × Nat) : flatQ (rs.set k v) = ((flatQ rs).set (k * 2) (.int .i64 (v.1 : Int))).set (k * 2 + 1) (.int .i64 (v.2 : Int)) := by
  induction rs generalizing k with
  | nil => simp [flatQ]
  | cons r rs ih =>
    cases k with
    | zero => rfl
    | succ k =>
      simp only [List.set_cons_succ, flatQ_cons, ih]
      rw [show (k + 1) * 2 = k * 2 + 1 + 1 by omega]
      rfl
theorem tabQ_set {n k : Nat} {f g : Nat → Nat × Nat} {v : Nat × Nat} (h : ∀ j, j < n → g j = if j = k then v else f j) : (tabQ n f).set k v = tabQ n g := by
  refine List.ext_getElem (by simp [tabQ]) (fun i h1 h2 => ?_)
  have h3 : i < n := by rw [tabQ_len] at h2; exact h2
  have e1 := tabQ_get (f := f) h3
  have e2 := tabQ_get (f := g) h3
  rw [e2, List.getElem_set, e1, h i h3]
  by_cases e : k = i
  · rw [if_pos e, if_pos e.symm]
  · rw [if_neg e, if_neg (fun x => e x.symm)]
/-- The first k hops. -/
def passTo (zs : List Int) (k : Nat) : List (Nat × Nat) := tabQ zs.length fun i => if i < k then red (10 - (zs.getD i 0).toNat) 10 else (0, 0)
theorem getD_getF {zs : List Int} {k : Nat} (hk : k < zs.length) : zs.getD k 0 = zs[k] := by rw [List.getD_eq_getElem?_getD, List.getElem?_eq_getElem hk]; rfl
theorem passTo_end (zs : List Int) : passTo zs zs.length = passL zs := by
  unfold passTo passL
  refine List.ext_getElem (by simp [tabQ_len]) (fun i h1 h2 => ?_)
  have hi : i < zs.length := by simpa using h2
  have e1 := tabQ_get (n := zs.length) (f := fun i => if i < zs.length then red (10 - (zs.getD i 0).toNat) 10 else (0, 0)) hi
  rw [e1, if_pos hi, List.getElem_map, getD_getF hi]
theorem passTo_set {zs : List Int} {k : Nat} (hk : k < zs.length) : (passTo zs k).set k (red (10 - (zs[k]).toNat) 10) = passTo zs (k + 1) := by
  unfold passTo
  exact tabQ_set fun j _ => by
    by_cases e : j = k
    · subst e; rw [if_pos (by omega), if_pos rfl, getD_getF hk]
    · rw [if_neg e]
      by_cases h : j < k
      · rw [if_pos h, if_pos (by omega)]
      · rw [if_neg h, if_neg (by omega)]
theorem made2 {n : Nat} (h : n ≤ 5) : (madeCells #[Value.int .i64 0, Value.int .i64 0] (n * 2)).toList = flatQ (tabQ n fun _ => (0, 0)) := by
  rcases (show n = 0 ∨ n = 1 ∨ n = 2 ∨ n = 3 ∨ n = 4 ∨ n = 5 by omega) with rfl | rfl | rfl | rfl | rfl | rfl <;> kernel_rfl
theorem Try.infoFr : (Try.prog.info? 26).map (fun i => (i.zero, i.size, i.bytes)) = some (some (.agg #[.int .i64 0, .int .i64 0]), 2, 16) := by kernel_rfl
theorem own_storeQ {w : World} {base g n c : Nat} {L : List (Nat × Nat)} (hown : w.ownsRow base 26 2 (.slice (some ⟨g, 0, none⟩) n c) n (flatQ L)) (k : Nat) (v : Nat × Nat) :
    ((w.setCell ⟨g, k * 2, none⟩ (.int .i64 (v.1 : Int))).setCell ⟨g, k * 2 + 1, none⟩ (.int .i64 (v.2 : Int))).ownsRow base 26 2 (.slice (some ⟨g, 0, none⟩) n c) n (flatQ (L.set k v)) ∧ w.grownBy ((w.setCell ⟨g, k * 2, none⟩ (.int .i64 (v.1 : Int))).setCell ⟨g, k * 2 + 1, none⟩ (.int .i64 (v.2 : Int))) (some g) := by
  have h1 := hown.stored (k * 2) (.int .i64 (v.1 : Int))
  have h2 := h1.1.stored (k * 2 + 1) (.int .i64 (v.2 : Int))
  rw [← flatQ_set] at h2
  exact ⟨h2.1, grown_trans h1.2 h2.2⟩
theorem own_keepF {w w' : World} {base n : Nat} {e : TypeId} {v : Value} {size : Nat} {xs : List Value} (h : w.ownsRow base e size v n xs) (hb : Below w.heap.size w w') : w'.ownsRow base e size v n xs := by
  refine ⟨h.1, ?_⟩
  rcases h.2 with hn | ⟨k, cap, cur, rfl, hb2, hgg, rest⟩
  · exact .inl hn
  · exact .inr ⟨k, cap, cur, rfl, hb2, by rw [hb.block k (Array.getElem?_eq_some_iff.1 hgg).1]; exact hgg, rest⟩

set_option maxRecDepth 100000 in
set_option maxHeartbeats 4000000 in
theorem passesOf_any (A : Option Addr) (c : Nat) (zs : List Int) (w : World) (hr : Ints w w.heap.size A zs) (h5 : zs.length ≤ 5) (hz : ∀ z ∈ zs, 0 ≤ z ∧ z ≤ 10) :
    Calls Try.prog 31 #[.slice A zs.length c] w fun e w' => ∃ c' g, e = .returned (.slice (some ⟨g, 0, none⟩) zs.length c') ∧ w'.ownsRow w.heap.size 26 2 (.slice (some ⟨g, 0, none⟩) zs.length c') zs.length (flatQ (passL zs)) ∧ Below w.heap.size w w' := by
  obtain ⟨i0, hi0, hz0, hz1, hz2⟩ := info_parts Try.infoFr
  have HZ := Lib.hid hz
  have HR := Lib.hid hr
  clear hz
  go_enter Try.func31, Try.ntmps31
  go_wp2_with (at_make; refine wpList_make_full _ rfl (.tmp 7) (.tmp 7) _ rfl w.heap.size 26 i0 (.agg #[.int .i64 0, .int .i64 0]) 2 Try.underlying32 hi0 hz0 hz1 _ _ _ _ zs.length rfl rfl rfl rfl (by rw [hz2]; omega) (by unfold maxLen; omega) (Nat.le_refl _) ?_)
  intro w1 hown hg
  have hb1 : Below w.heap.size w w1 := (Below.refl _ _).grown hg (Nat.le_refl _) (by simp)
  have HST := Lib.hid (show w1.ownsRow w.heap.size 26 2 (.slice (some ⟨w.heap.size, 0, none⟩) zs.length zs.length) zs.length (flatQ (passTo zs 0)) by
    have h1 := hown
    rw [made2 h5] at h1
    exact h1)
  have HB1 := Lib.hid hb1
  clear hown hg hb1
  go_wp2
  go_loopw [11] (fun i wr => ∃ k : Nat, k ≤ zs.length ∧ i = .int .i64 k ∧ wr.ownsRow w.heap.size 26 2 (.slice (some ⟨w.heap.size, 0, none⟩) zs.length zs.length) zs.length (flatQ (passTo zs k)) ∧ Below w.heap.size w wr) (fun i _ => zs.length - (intOf i).toNat)
  case atStart => exact ⟨0, by omega, rfl, HST.out, HB1.out⟩
  case round =>
    obtain ⟨k, hk, rfl, hown, hbr⟩ := hrel
    clear HST HB1
    have HBR := Lib.hid hbr
    have HO := Lib.hid hown
    have hbz := hbr.size
    by_cases hlt : k < zs.length
    · obtain ⟨b, o, rfl, hb, hc⟩ := (HR.out.below hbr).open (by simp; omega)
      have hcell := ints_at hc hlt
      have HPS := Lib.hid (passTo_set hlt)
      have hzb := HZ.out _ (List.getElem_mem hlt)
      obtain ⟨z, hz⟩ : ∃ z, zs[k] = z := ⟨_, rfl⟩
      rw [hz] at hcell HPS hzb
      obtain ⟨y, rfl⟩ : ∃ y : Nat, z = y := ⟨z.toNat, by omega⟩
      have hy10 : y ≤ 10 := by omega
      rw [Int.toNat_natCast] at HPS
      have e10 : (10 : Int) - (y : Int) = ((10 - y : Nat) : Int) := by omega
      have HRD := Lib.hid (fun X => reduced_any (10 - y) 10 X (by omega) (by omega) (by omega))
      obtain ⟨t, ht⟩ : ∃ t, 10 - y = t := ⟨_, rfl⟩
      rw [ht] at e10 HRD HPS
      obtain ⟨r, hr⟩ : ∃ r, red t 10 = r := ⟨_, rfl⟩
      rw [hr] at HRD HPS
      obtain ⟨r1, r2⟩ := r
      unfold frV at HRD
      dsimp only at HRD
      have hkI : (k : Int) < zs.length := by omega
      clear hc hz hr ht hown hbr hzb
      go_wp2_with fail
      refine (HRD.out _).mono ?_
      rintro e w5 ⟨rfl, hb5⟩
      have ho5 := own_keepF HO.out hb5
      have hst := own_storeQ ho5 k (r1, r2)
      rw [HPS.out] at hst
      have k0 := ho5.cellAt (k * 2) (by omega)
      have k1 := ho5.cellAt (k * 2 + 1) (by omega)
      have f0 := ho5.frozenAt (k * 2)
      have f1 := ho5.frozenAt (k * 2 + 1)
      rw [List.getElem?_eq_getElem (by rw [flatQ_length]; unfold passTo; rw [tabQ_len]; omega)] at k0 k1
      generalize (flatQ (passTo zs k))[k * 2]'_ = v0 at k0
      generalize (flatQ (passTo zs k))[k * 2 + 1]'_ = v1 at k1
      have HW := Lib.hid (And.intro hst.1 ((HBR.out.trans (hb5.mono hbz)).grown hst.2 (Nat.le_trans hbz hb5.size) (fun i hi => by injection hi with hi; omega)))
      clear hst ho5 hb5
      go_wp2
      go_roundw
      case rel => exact ⟨k + 1, by omega, by go_num, HW.out.1, HW.out.2⟩
      case measure => simp [intOf]; omega
    · have hke : k = zs.length := by omega
      have HF := Lib.hid (show wr.ownsRow w.heap.size 26 2 (.slice (some ⟨w.heap.size, 0, none⟩) zs.length zs.length) zs.length (flatQ (passL zs)) by rw [← passTo_end, ← hke]; rw [← hke] at hown; rw [hke] at hown ⊢; exact hke ▸ hown)
      clear hown hke
      go_wp2
      go_ret
      exact ⟨zs.length, _, rfl, HF.out, HBR.out⟩
end Go.Proofs.Ytonnffilcmlodab
