/- Coaches, plain: what the laws say. No condition. -/
import Derived.Test.YtimbkclhkepgfaaKi
namespace Go.Proofs.Ytimbkclhkepgfaa
open Go.RowKit

section
variable {rs : List (List Int)} {s τ : Int}
theorem earl_parts (h : tripB rs s τ = true) : Times (earlV rs s τ) ∧ Rep (earlV rs s τ) (fun v x => Go (rs.map cp) v x s τ) := by
  rw [earlV_yes h]
  obtain ⟨hv, sn, tn, rfl, rfl, h4, h60⟩ := trip_parts h
  have hok := cp_ok hv
  refine ⟨earlT_times (sortC_ok hok) (by omega), fun v x h0 h1 => (earlT_rep (sortC_ok hok) (sortC_sorted _) (by omega) (by omega) v x h0 h1).trans ?_⟩
  exact ⟨Go_mono (fun c hc => sortC_mem.1 hc), Go_mono (fun c hc => sortC_mem.2 hc)⟩
theorem late_parts (h : tripB rs s τ = true) : Times (lateV rs s τ) ∧ RepL (lateV rs s τ) (fun u x => Go (rs.map cp) s τ u x) := by
  rw [lateV_yes h]
  obtain ⟨hv, sn, tn, rfl, rfl, h4, h60⟩ := trip_parts h
  have hok := cp_ok hv
  have hokr : ∀ c ∈ (sortC (rs.map cp)).reverse, c.Ok := fun c hc => sortC_ok hok c (List.mem_reverse.1 hc)
  refine ⟨lateT_times hokr (by omega), fun v x h0 h1 hx => (lateT_rep hokr (List.pairwise_reverse.2 (sortC_sorted _)) (by omega) (by omega) v x h0 h1 hx).trans ?_⟩
  exact ⟨Go_mono (fun c hc => sortC_mem.1 (List.mem_reverse.1 hc)), Go_mono (fun c hc => List.mem_reverse.2 (sortC_mem.2 hc))⟩
theorem with_parts {k : Int} (h : (tripB rs s τ && inR k 0 10) = true) : Times (withV rs s τ k) ∧ Rep (withV rs s τ k) (G (rs.map cp) s τ k.toNat) := by
  rw [withV_yes h]
  simp only [Bool.and_eq_true] at h
  obtain ⟨hv, sn, tn, rfl, rfl, h4, h60⟩ := trip_parts h.1
  exact ⟨withT_times (cp_ok hv) (by omega) _, withT_rep (cp_ok hv) (by omega) (by omega) _⟩
theorem trip_bd (h : tripB rs s τ = true) : 0 ≤ s ∧ s ≤ 4 ∧ 0 ≤ τ ∧ τ ≤ 60 ∧ coachesB rs = true := by
  obtain ⟨hv, sn, tn, rfl, rfl, h4, h60⟩ := trip_parts h
  exact ⟨by omega, by omega, by omega, by omega, hv⟩
theorem trip_mk (h : coachesB rs = true) (h1 : 0 ≤ s) (h2 : s ≤ 4) (h3 : 0 ≤ τ) (h4 : τ ≤ 60) : tripB rs s τ = true := by
  rw [tripB, h, show inR s 0 4 = true from inR_iff.2 ⟨h1, h2⟩, show inR τ 0 60 = true from inR_iff.2 ⟨h3, h4⟩]; rfl
theorem go_G10 (hv : coachesB rs = true) {v x : Int} (h : Go (rs.map cp) v x s τ) : G (rs.map cp) s τ 10 v x := by
  have h1 : Go (sortC (rs.map cp)) v x s τ := Go_mono (fun c hc => sortC_mem.2 hc) h
  have h2 := go_len (sortC_ok (cp_ok hv)) (sortC_sorted _) h1
  refine G_mono (fun c hc => sortC_mem.1 hc) ?_ h2
  rw [sortC_length, List.length_map]
  exact coaches_len hv
/-- Coach by coach is ride by ride. -/
theorem with_all (h : tripB rs s τ = true) : withV rs s τ 10 = earlV rs s τ := by
  obtain ⟨_, _, _, _, hv⟩ := trip_bd h
  have h1 := with_parts (k := 10) (show (tripB rs s τ && inR 10 0 10) = true by rw [h]; rfl)
  have h2 := earl_parts h
  exact rep_eq h1.1 h2.1 h1.2 (fun v x a b => (h2.2 v x a b).trans ⟨go_G10 hv, G_go⟩)
/-- In time exactly if one has left in time. -/
theorem earl_late (h : tripB rs s τ = true) {v t : Int} (hv0 : 0 ≤ v) (hv4 : v ≤ 4) (ht0 : 0 ≤ t) (ht : t ≤ 60) : (0 ≤ tA (earlV rs s τ) v ∧ tA (earlV rs s τ) v ≤ t) ↔ τ ≤ tA (lateV rs v t) s := by
  obtain ⟨a, b, c, d, hv⟩ := trip_bd h
  have h1 := (earl_parts h).2 v t hv0 hv4
  have h2 := (late_parts (trip_mk (s := v) (τ := t) hv hv0 hv4 ht0 ht)).2 s τ a b c
  exact h1.trans h2.symm
theorem earl_start (h : tripB rs s τ = true) : tA (earlV rs s τ) s = τ := by
  obtain ⟨a, b, c, d, hv⟩ := trip_bd h
  have h1 := (earl_parts h).2 s τ a b
  have h2 := h1.2 (.stay (Int.le_refl _))
  have h3 := (earl_parts h).2 s (tA (earlV rs s τ) s) a b
  have h4 := Go_time (cp_ok hv) (h3.1 ⟨h2.1, Int.le_refl _⟩)
  omega
theorem late_end (h : tripB rs s τ = true) : tA (lateV rs s τ) s = τ := by
  obtain ⟨a, b, c, d, hv⟩ := trip_bd h
  have h2 := ((late_parts h).2 s τ a b c).2 (.stay (Int.le_refl _))
  have h3 := ((late_parts h).2 s (tA (lateV rs s τ) s) a b (by omega)).1 (Int.le_refl _)
  have h4 := Go_time (cp_ok hv) h3
  omega
theorem late_le (h : tripB rs s τ = true) {v : Int} (h0 : 0 ≤ v) (h1 : v ≤ 4) : tA (lateV rs s τ) v ≤ τ := by
  obtain ⟨a, b, c, d, hv⟩ := trip_bd h
  by_cases hn : 0 ≤ tA (lateV rs s τ) v
  · have h3 := ((late_parts h).2 v (tA (lateV rs s τ) v) h0 h1 hn).1 (Int.le_refl _)
    exact Go_time (cp_ok hv) h3
  · omega
/-- Later is no earlier. -/
theorem late_more (h : tripB rs s τ = true) (h' : tripB rs s (τ + 1) = true) {v : Int} (h0 : 0 ≤ v) (h1 : v ≤ 4) : tA (lateV rs s τ) v ≤ tA (lateV rs s (τ + 1)) v := by
  have hm := ((late_parts h').1.at v).1
  by_cases hn : 0 ≤ tA (lateV rs s τ) v
  · have h3 := ((late_parts h).2 v (tA (lateV rs s τ) v) h0 h1 hn).1 (Int.le_refl _)
    exact ((late_parts h').2 v _ h0 h1 hn).2 (Go_later (by omega) h3)
  · omega
/-- Who comes later is no earlier. -/
theorem earl_wait (h : tripB rs s τ = true) (h' : tripB rs s (τ + 1) = true) {v : Int} (h0 : 0 ≤ v) (h1 : v ≤ 4) (hp : 0 ≤ tA (earlV rs s (τ + 1)) v) : 0 ≤ tA (earlV rs s τ) v ∧ tA (earlV rs s τ) v ≤ tA (earlV rs s (τ + 1)) v := by
  have h3 := ((earl_parts h').2 v _ h0 h1).1 ⟨hp, Int.le_refl _⟩
  exact ((earl_parts h).2 v _ h0 h1).2 (Go_sooner (by omega) h3)
theorem earl_more {qs : List (List Int)} (hq : ∀ r ∈ qs, r ∈ rs) (h : tripB rs s τ = true) (h' : tripB qs s τ = true) {v : Int} (h0 : 0 ≤ v) (h1 : v ≤ 4) (hp : 0 ≤ tA (earlV qs s τ) v) : 0 ≤ tA (earlV rs s τ) v ∧ tA (earlV rs s τ) v ≤ tA (earlV qs s τ) v := by
  have h3 := ((earl_parts h').2 v _ h0 h1).1 ⟨hp, Int.le_refl _⟩
  refine ((earl_parts h).2 v _ h0 h1).2 (Go_mono (fun c hc => ?_) h3)
  obtain ⟨r, hr, rfl⟩ := List.mem_map.1 hc
  exact List.mem_map.2 ⟨r, hq r hr, rfl⟩
theorem late_fewer {qs : List (List Int)} (hq : ∀ r ∈ qs, r ∈ rs) (h : tripB rs s τ = true) (h' : tripB qs s τ = true) {v : Int} (h0 : 0 ≤ v) (h1 : v ≤ 4) : tA (lateV qs s τ) v ≤ tA (lateV rs s τ) v := by
  have hm := ((late_parts h).1.at v).1
  by_cases hn : 0 ≤ tA (lateV qs s τ) v
  · have h3 := ((late_parts h').2 v _ h0 h1 hn).1 (Int.le_refl _)
    refine ((late_parts h).2 v _ h0 h1 hn).2 (Go_mono (fun c hc => ?_) h3)
    obtain ⟨r, hr, rfl⟩ := List.mem_map.1 hc
    exact List.mem_map.2 ⟨r, hq r hr, rfl⟩
  · omega
/-- More rides are no later. -/
theorem with_more {k : Int} (h : (tripB rs s τ && inR k 0 10) = true) (h' : (tripB rs s τ && inR (k + 1) 0 10) = true) {v : Int} (h0 : 0 ≤ v) (h1 : v ≤ 4) (hp : 0 ≤ tA (withV rs s τ k) v) : 0 ≤ tA (withV rs s τ (k + 1)) v ∧ tA (withV rs s τ (k + 1)) v ≤ tA (withV rs s τ k) v := by
  have h3 := ((with_parts h).2 v _ h0 h1).1 ⟨hp, Int.le_refl _⟩
  simp only [Bool.and_eq_true] at h
  have hk := (inR_iff.1 h.2).1
  exact ((with_parts h').2 v _ h0 h1).2 (G_mono (fun c hc => hc) (by omega) h3)
theorem with_none (h : (tripB rs s τ && inR 0 0 10) = true) {v : Int} (h0 : 0 ≤ v) (h1 : v ≤ 4) (hne : v ≠ s) : tA (withV rs s τ 0) v < 0 := by
  by_cases hp : 0 ≤ tA (withV rs s τ 0) v
  · have h3 := ((with_parts h).2 v _ h0 h1).1 ⟨hp, Int.le_refl _⟩
    exact absurd h3.1 hne
  · omega
theorem with_start {k : Int} (h : (tripB rs s τ && inR k 0 10) = true) : tA (withV rs s τ k) s = τ := by
  have h' := h
  simp only [Bool.and_eq_true] at h'
  obtain ⟨a, b, c, d, hv⟩ := trip_bd h'.1
  have h2 := ((with_parts h).2 s τ a b).2 (G_mono (n := 0) (fun c hc => hc) (Nat.zero_le _) ⟨rfl, Int.le_refl _⟩)
  have h3 := ((with_parts h).2 s _ a b).1 ⟨h2.1, Int.le_refl _⟩
  have h4 := Go_time (cp_ok hv) (G_go h3)
  omega
end
theorem earl_nil {rs : List (List Int)} {s τ : Int} (h : (earlV rs s τ).length ≠ 0) : tripB rs s τ = true := by
  by_cases ht : tripB rs s τ = true
  · exact ht
  · exact absurd (by rw [earlV_no (by simpa using ht)]; rfl) h
theorem late_nil {rs : List (List Int)} {s τ : Int} (h : (lateV rs s τ).length ≠ 0) : tripB rs s τ = true := by
  by_cases ht : tripB rs s τ = true
  · exact ht
  · exact absurd (by rw [lateV_no (by simpa using ht)]; rfl) h
theorem with_nil {rs : List (List Int)} {s τ k : Int} (h : (withV rs s τ k).length ≠ 0) : (tripB rs s τ && inR k 0 10) = true := by
  by_cases ht : (tripB rs s τ && inR k 0 10) = true
  · exact ht
  · exact absurd (by rw [withV_no (by simpa using ht)]; rfl) h
theorem earlV_len (h : List (List Int)) (s t : Int) : (earlV h s t).length ≤ 5 := by
  unfold earlV
  split
  · rename_i ht
    obtain ⟨hv, sn, tn, rfl, rfl, h4, h60⟩ := trip_parts ht
    rw [(earlT_times (sortC_ok (cp_ok hv)) ⟨by omega, by omega⟩).len]; exact Nat.le_refl _
  · simp
theorem lateV_len (h : List (List Int)) (s t : Int) : (lateV h s t).length ≤ 5 := by
  unfold lateV
  split
  · rename_i ht
    obtain ⟨hv, sn, tn, rfl, rfl, h4, h60⟩ := trip_parts ht
    rw [(lateT_times (fun c hc => sortC_ok (cp_ok hv) c (List.mem_reverse.1 hc)) ⟨by omega, by omega⟩).len]; exact Nat.le_refl _
  · simp
theorem withV_len (h : List (List Int)) (s t k : Int) : (withV h s t k).length ≤ 5 := by
  unfold withV
  split
  · rename_i ht
    simp only [Bool.and_eq_true] at ht
    obtain ⟨hv, sn, tn, rfl, rfl, h4, h60⟩ := trip_parts ht.1
    rw [(withT_times (cp_ok hv) ⟨by omega, by omega⟩ _).len]; exact Nat.le_refl _
  · simp
end Go.Proofs.Ytimbkclhkepgfaa
