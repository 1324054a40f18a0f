/- Coaches: the three functions of impl that travel. No condition. -/
import Derived.Test.YtimbkclhkepgfaaKh
import Derived.Test.YtimbkclhkepgfaaK8
import Derived.Test.YtimbkclhkepgfaaK9
namespace Go.Proofs.Ytimbkclhkepgfaa
open Go.RowKit

theorem Go_perm {ds cs : List Coach} (h : ds.Perm cs) {b t a τ : Int} : Go ds b t a τ ↔ Go cs b t a τ :=
  ⟨Go_mono (fun _ hc => h.mem_iff.1 hc), Go_mono (fun _ hc => h.mem_iff.2 hc)⟩
theorem sortC_mem_perm {cs ds : List Coach} (h : ds.Perm cs) {b t a τ : Int} : Go ds b t a τ ↔ Go (sortC cs) b t a τ :=
  ⟨Go_mono (fun _ hc => sortC_mem.2 (h.mem_iff.1 hc)), Go_mono (fun _ hc => h.mem_iff.2 (sortC_mem.1 hc))⟩
theorem earl_same {cs ds : List Coach} (hok : ∀ c ∈ cs, c.Ok) (hp : ds.Perm cs) (hs : ds.Pairwise (fun a b => a.lv ≤ b.lv)) {s τ : Nat} (h4 : s ≤ 4) (h60 : τ ≤ 60) :
    ds.foldl (fun t c => takeE t t c) (onlyT s τ) = earlT (sortC cs) s τ := by
  have hokd : ∀ c ∈ ds, c.Ok := fun c hc => hok c (hp.mem_iff.1 hc)
  have r1 := earlT_rep (s := (s : Int)) (τ := (τ : Int)) hokd hs (by omega) (by omega)
  have r2 := earlT_rep (s := (s : Int)) (τ := (τ : Int)) (sortC_ok hok) (sortC_sorted cs) (by omega) (by omega)
  exact rep_eq (earlT_times hokd (by omega)) (earlT_times (sortC_ok hok) (by omega)) r1 (fun v x h0 h1 => (r2 v x h0 h1).trans (sortC_mem_perm hp).symm)
theorem repL_eq {t u : List Int} {P : Int → Int → Prop} (ht : Times t) (hu : Times u) (h1 : RepL t P) (h2 : RepL u P) : t = u := by
  apply List.ext_getElem
  · rw [ht.len, hu.len]
  · intro i hi hi2
    have hl := ht.len
    have e1 : tA t (i : Int) = t[i] := by simp [tA, List.getD, List.getElem?_eq_getElem hi]
    have e2 : tA u (i : Int) = u[i] := by simp [tA, List.getD, List.getElem?_eq_getElem hi2]
    have c1 := (ht.low _ (List.getElem_mem hi)).1
    have c2 := (hu.low _ (List.getElem_mem hi2)).1
    by_cases p1 : 0 ≤ t[i]
    · have a := (h2 (i : Int) t[i] (by omega) (by omega) p1).2 ((h1 (i : Int) t[i] (by omega) (by omega) p1).1 (by omega))
      have p2 : 0 ≤ u[i] := by omega
      have b := (h1 (i : Int) u[i] (by omega) (by omega) p2).2 ((h2 (i : Int) u[i] (by omega) (by omega) p2).1 (by omega))
      omega
    · by_cases p2 : 0 ≤ u[i]
      · have b := (h1 (i : Int) u[i] (by omega) (by omega) p2).2 ((h2 (i : Int) u[i] (by omega) (by omega) p2).1 (by omega))
        omega
      · omega
theorem late_same {cs ds : List Coach} (hok : ∀ c ∈ cs, c.Ok) (hp : ds.Perm cs) (hs : ds.Pairwise (fun a b => b.lv ≤ a.lv)) {s τ : Nat} (h4 : s ≤ 4) (h60 : τ ≤ 60) :
    ds.foldl takeL (onlyT s τ) = lateT (sortC cs).reverse s τ := by
  have hokd : ∀ c ∈ ds, c.Ok := fun c hc => hok c (hp.mem_iff.1 hc)
  have hokr : ∀ c ∈ (sortC cs).reverse, c.Ok := fun c hc => sortC_ok hok c (List.mem_reverse.1 hc)
  have r1 := lateT_rep (s := (s : Int)) (τ := (τ : Int)) hokd hs (by omega) (by omega)
  have r2 := lateT_rep (s := (s : Int)) (τ := (τ : Int)) hokr (List.pairwise_reverse.2 (sortC_sorted cs)) (by omega) (by omega)
  refine repL_eq (lateT_times hokd (by omega)) (lateT_times hokr (by omega)) r1 (fun v x h0 h1 hx => (r2 v x h0 h1 hx).trans ⟨Go_mono (fun c hc => hp.mem_iff.2 (sortC_mem.1 (List.mem_reverse.1 hc))), Go_mono (fun c hc => List.mem_reverse.2 (sortC_mem.2 (hp.mem_iff.1 hc)))⟩)
theorem t5_box (w : World) (z0 z1 z2 z3 z4 : Int) (T : TypeId) : T5 (w.alloc (.cells #[.int .i64 z0, .int .i64 z1, .int .i64 z2, .int .i64 z3, .int .i64 z4] T)) w.heap.size 0 [z0, z1, z2, z3, z4] := by
  refine ⟨by simp, fun i hi => ?_, fun j => frozen_of_row _ _ _ _ _ (heap_alloc_new w _)⟩
  rw [World.cell?_alloc_at _ _ _ _ rfl]
  obtain rfl | rfl | rfl | rfl | rfl : i = 0 ∨ i = 1 ∨ i = 2 ∨ i = 3 ∨ i = 4 := by omega
  all_goals rfl
theorem t5_boxF (w : World) (r z0 z1 z2 z3 z4 : Int) (T : TypeId) : (w.alloc (.cells #[.int .i64 r, .int .i64 0, .int .i64 0, .int .i64 0, .int .i64 0, .int .i64 0, .int .i64 z0, .int .i64 z1, .int .i64 z2, .int .i64 z3, .int .i64 z4] T)).cell? ⟨w.heap.size, 0, none⟩ = some (.int .i64 r) ∧ T5 (w.alloc (.cells #[.int .i64 r, .int .i64 0, .int .i64 0, .int .i64 0, .int .i64 0, .int .i64 0, .int .i64 z0, .int .i64 z1, .int .i64 z2, .int .i64 z3, .int .i64 z4] T)) w.heap.size 1 [0, 0, 0, 0, 0] ∧ T5 (w.alloc (.cells #[.int .i64 r, .int .i64 0, .int .i64 0, .int .i64 0, .int .i64 0, .int .i64 0, .int .i64 z0, .int .i64 z1, .int .i64 z2, .int .i64 z3, .int .i64 z4] T)) w.heap.size 6 [z0, z1, z2, z3, z4] := by
  refine ⟨by rw [World.cell?_alloc_at _ _ _ _ rfl]; rfl, ⟨by simp, fun i hi => ?_, fun j => frozen_of_row _ _ _ _ _ (heap_alloc_new w _)⟩, ⟨by simp, fun i hi => ?_, fun j => frozen_of_row _ _ _ _ _ (heap_alloc_new w _)⟩⟩
  all_goals
    rw [World.cell?_alloc_at _ _ _ _ rfl]
    obtain rfl | rfl | rfl | rfl | rfl : i = 0 ∨ i = 1 ∨ i = 2 ∨ i = 3 ∨ i = 4 := by omega
    all_goals rfl
theorem times_zero : Times [0, 0, 0, 0, 0] := ⟨rfl, fun x hx => by simp at hx; omega⟩

set_option maxRecDepth 100000 in
set_option maxHeartbeats 4000000 in
theorem impE_no (A : Option Addr) (c : Nat) (rs : List (List Int)) (s τ : Int) (w : World) (hr : Grid w 0 w.heap.size A rs) (hs : ∀ r ∈ rs, r.length ≤ 1000000000) (hno : tripB rs s τ = false) :
    Calls Try.prog 8 #[.slice A rs.length c, .int .i64 s, .int .i64 τ] w fun e w' => e = .returned (.slice none 0 0) ∧ Below w.heap.size w w' := by
  have H := Lib.hid (coachesOf_all A c rs w hr hs)
  clear hs hr
  by_cases hB : coachesB rs = true
  · by_cases h1 : inR s 0 4 = true
    · by_cases h2 : inR τ 0 60 = true
      · rw [tripB, hB, h1, h2] at hno; cases hno
      · have h2' : inR τ 0 60 = false := by simpa using h2
        have HI1 := Lib.hid h1
        have HI2 := Lib.hid h2'
        have HB := Lib.hid hB
        clear hno hB h1 h2 h2'
        go_enter Try.func8, Try.ntmps8
        go_wp2_with fail
        refine H.out.mono ?_
        rintro e w1 ⟨h1, _⟩
        obtain ⟨A1, c1, rfl, _, ho, hb⟩ := h1 HB.out
        have HBL := Lib.hid hb
        clear h1 ho hb
        go_wp2_with (first | (go_at_call 16; refine (isStop_any _ _).mono ?_; rintro e w' ⟨rfl, rfl⟩; rw [HI1.out]) | (go_at_call 22; refine (isOnClock_any _ _).mono ?_; rintro e w' ⟨rfl, rfl⟩; rw [HI2.out]))
        go_ret
        exact ⟨rfl, HBL.out⟩
    · have h1' : inR s 0 4 = false := by simpa using h1
      have HI1 := Lib.hid h1'
      have HB := Lib.hid hB
      have HI2 := Lib.hid (show True from trivial)
      clear hno hB h1 h1'
      go_enter Try.func8, Try.ntmps8
      go_wp2_with fail
      refine H.out.mono ?_
      rintro e w1 ⟨h1, _⟩
      obtain ⟨A1, c1, rfl, _, ho, hb⟩ := h1 HB.out
      have HBL := Lib.hid hb
      clear h1 ho hb HI2
      go_wp2_with (go_at_call 16; refine (isStop_any _ _).mono ?_; rintro e w' ⟨rfl, rfl⟩; rw [HI1.out])
      go_ret
      exact ⟨rfl, HBL.out⟩
  · have hB' : coachesB rs = false := by simpa using hB
    have HB := Lib.hid hB'
    clear hno hB hB'
    go_enter Try.func8, Try.ntmps8
    go_wp2_with fail
    refine H.out.mono ?_
    rintro e w1 ⟨_, h2⟩
    obtain ⟨rfl, hb⟩ := h2 HB.out
    have HBL := Lib.hid hb
    clear h2 hb
    go_wp2
    go_ret
    exact ⟨rfl, HBL.out⟩

set_option maxRecDepth 100000 in
set_option maxHeartbeats 8000000 in
theorem impE_yes (A : Option Addr) (c : Nat) (rs : List (List Int)) (sn tn : Nat) (w : World) (hr : Grid w 0 w.heap.size A rs) (hs : ∀ r ∈ rs, r.length ≤ 1000000000) (ht : tripB rs (sn : Int) (tn : Int) = true) :
    Calls Try.prog 8 #[.slice A rs.length c, .int .i64 sn, .int .i64 tn] w (iRes w (earlV rs sn tn)) := by
  have H := Lib.hid (coachesOf_all A c rs w hr hs)
  have HV := Lib.hid (earlV_yes ht)
  obtain ⟨hv, _, _, e1, e2, h4, h60⟩ := trip_parts ht
  obtain rfl := Int.ofNat_inj.1 e1
  obtain rfl := Int.ofNat_inj.1 e2
  have hl10 := coaches_len hv
  have HVV := Lib.hid hv
  have HOK := Lib.hid (cp_ok hv)
  have HI1 := Lib.hid (show inR (sn : Int) 0 4 = true from inR_iff.2 ⟨by omega, by omega⟩)
  have HI2 := Lib.hid (show inR (tn : Int) 0 60 = true from inR_iff.2 ⟨by omega, by omega⟩)
  have hTO : Times (onlyT (sn : Int) (tn : Int)) := onlyT_times ⟨by omega, by omega⟩
  obtain ⟨z0, z1, z2, z3, z4, hz⟩ := five_of hTO.len
  have HOA := Lib.hid (fun W => show Calls Try.prog 24 #[.int .i64 sn, .int .i64 tn] W fun e w' => e = .returned (.agg #[.int .i64 z0, .int .i64 z1, .int .i64 z2, .int .i64 z3, .int .i64 z4]) ∧ Below W.heap.size W w' from by
    have h := onlyAt_any sn (tn : Int) W h4
    rw [hz] at h
    exact h)
  rw [hz] at hTO
  have HZ := Lib.hid hz
  have HTO := Lib.hid hTO
  clear ht hv hr hs hz hTO e1 e2
  go_enter Try.func8, Try.ntmps8
  go_wp2_with fail
  refine H.out.mono ?_
  rintro e w1 ⟨h1, _⟩
  obtain ⟨A1, c1, rfl, hc1, ho, hb⟩ := h1 HVV.out
  have HBL := Lib.hid hb
  have HO := Lib.hid ho
  have hzw := hb.size
  clear h1 ho hb hc1
  go_wp2_with (first | (go_at_call 16; refine (isStop_any _ _).mono ?_; rintro e w' ⟨rfl, rfl⟩; rw [HI1.out]) | (go_at_call 22; refine (isOnClock_any _ _).mono ?_; rintro e w' ⟨rfl, rfl⟩; rw [HI2.out]))
  refine (HOA.out _).mono ?_
  rintro e w3 ⟨rfl, hb3⟩
  have hz3 := hb3.size
  have HO3 := Lib.hid (HO.out.below hb3)
  have HB3 := Lib.hid (HBL.out.trans (hb3.mono hzw))
  obtain ⟨v0, v1, v2, v3, v4, hvv⟩ := five_of ((earlT_times (s := (sn : Int)) (τ := (tn : Int)) (sortC_ok HOK.out) ⟨by omega, by omega⟩).len)
  have HVV2 := Lib.hid hvv
  have hbx : Below w3.heap.size w3 (w3.alloc (.cells #[.int .i64 z0, .int .i64 z1, .int .i64 z2, .int .i64 z3, .int .i64 z4] 51)) := (Below.refl _ _).alloc (Nat.le_refl _) _
  have hsx : (w3.alloc (.cells #[.int .i64 z0, .int .i64 z1, .int .i64 z2, .int .i64 z3, .int .i64 z4] 51)).heap.size = w3.heap.size + 1 := by simp
  have HTV := Lib.hid (show Calls Try.prog 23 #[.slice A1 rs.length c1, .iface 48 (.pointer (some ⟨w3.heap.size, 0, none⟩))] (w3.alloc (.cells #[.int .i64 z0, .int .i64 z1, .int .i64 z2, .int .i64 z3, .int .i64 z4] 51)) fun e w' => e = .returned (.agg #[.int .i64 v0, .int .i64 v1, .int .i64 v2, .int .i64 v3, .int .i64 v4]) ∧ Below w.heap.size (w3.alloc (.cells #[.int .i64 z0, .int .i64 z1, .int .i64 z2, .int .i64 z3, .int .i64 z4] 51)) w' from
    (travelE A1 rs.length c1 w3.heap.size w.heap.size w1.heap.size w.heap.size [z0, z1, z2, z3, z4] (rs.map cp) _ (by simp) hl10 (HO3.out.below (hbx.mono (by omega))) hz3 HOK.out (t5_box w3 z0 z1 z2 z3 z4 _) HTO.out (Nat.le_refl _) (by omega)).mono fun e w' ⟨ds, hp, hs, he, hb⟩ => ⟨by rw [he, ← HZ.out, earl_same HOK.out hp hs h4 h60, hvv]; rfl, hb⟩)
  have HBX := Lib.hid (HB3.out.trans (hbx.mono (by omega)))
  clear hb3 hvv hbx hsx
  go_wp2_with fail
  refine HTV.out.mono ?_
  rintro e w4 ⟨rfl, hb4⟩
  have hz4 := hb4.size
  simp at hz4
  have HB4 := Lib.hid (HBX.out.trans hb4)
  have HF := Lib.hid (show iRes w (earlV rs (sn : Int) (tn : Int)) (.returned (.slice (some ⟨w4.heap.size, 0, none⟩) 5 5)) (w4.alloc (.cells #[.int .i64 v0, .int .i64 v1, .int .i64 v2, .int .i64 v3, .int .i64 v4] 46)) from by
    rw [HV.out, HVV2.out]
    exact ⟨_, 5, rfl, Nat.le_refl _, own_block (xs := [.int .i64 v0, .int .i64 v1, .int .i64 v2, .int .i64 v3, .int .i64 v4]) (heap_alloc_new w4 _) (by have := HB4.out.size; exact this), HB4.out.alloc (HB4.out.size) _⟩)
  clear hb4
  go_wp2
  go_ret
  exact HF.out

theorem impE_any (A : Option Addr) (c : Nat) (rs : List (List Int)) (s τ : Int) (w : World) (hr : Grid w 0 w.heap.size A rs) (hs : ∀ r ∈ rs, r.length ≤ 1000000000) :
    Calls Try.prog 8 #[.slice A rs.length c, .int .i64 s, .int .i64 τ] w (iRes w (earlV rs s τ)) := by
  by_cases ht : tripB rs s τ = true
  · obtain ⟨_, sn, tn, rfl, rfl, _, _⟩ := trip_parts ht
    exact impE_yes A c rs sn tn w hr hs ht
  · exact (impE_no A c rs s τ w hr hs (by simpa using ht)).mono fun e w' ⟨he, hb⟩ => by rw [he]; exact iRes.none (earlV_no (by simpa using ht)) hb

set_option maxRecDepth 100000 in
set_option maxHeartbeats 4000000 in
theorem impF_no (A : Option Addr) (c : Nat) (rs : List (List Int)) (s τ k : Int) (w : World) (hr : Grid w 0 w.heap.size A rs) (hs : ∀ r ∈ rs, r.length ≤ 1000000000) (hno : (tripB rs s τ && inR k 0 10) = false) :
    Calls Try.prog 9 #[.slice A rs.length c, .int .i64 s, .int .i64 τ, .int .i64 k] w fun e w' => e = .returned (.slice none 0 0) ∧ Below w.heap.size w w' := by
  have H := Lib.hid (coachesOf_all A c rs w hr hs)
  clear hs hr
  by_cases hB : coachesB rs = true
  · by_cases h1 : inR s 0 4 = true
    · by_cases h2 : inR τ 0 60 = true
      · have h3' : inR k 0 10 = false := by rw [tripB, hB, h1, h2] at hno; simpa using hno
        have HI1 := Lib.hid h1
        have HI2 := Lib.hid h2
        have HB := Lib.hid hB
        by_cases h4 : k < 0
        · clear hno hB h1 h2 h3'
          go_enter Try.func9, Try.ntmps9
          go_wp2_with fail
          refine H.out.mono ?_
          rintro e w1 ⟨h1, _⟩
          obtain ⟨A1, c1, rfl, _, ho, hb⟩ := h1 HB.out
          have HBL := Lib.hid hb
          clear h1 ho hb
          go_wp2_with (first | (go_at_call 16; refine (isStop_any _ _).mono ?_; rintro e w' ⟨rfl, rfl⟩; rw [HI1.out]) | (go_at_call 22; refine (isOnClock_any _ _).mono ?_; rintro e w' ⟨rfl, rfl⟩; rw [HI2.out]))
          go_ret
          exact ⟨rfl, HBL.out⟩
        · have h5 : 10 < k := by simp [inR] at h3'; omega
          clear hno hB h1 h2 h3' h4
          go_enter Try.func9, Try.ntmps9
          go_wp2_with fail
          refine H.out.mono ?_
          rintro e w1 ⟨h1, _⟩
          obtain ⟨A1, c1, rfl, _, ho, hb⟩ := h1 HB.out
          have HBL := Lib.hid hb
          clear h1 ho hb
          go_wp2_with (first | (go_at_call 16; refine (isStop_any _ _).mono ?_; rintro e w' ⟨rfl, rfl⟩; rw [HI1.out]) | (go_at_call 22; refine (isOnClock_any _ _).mono ?_; rintro e w' ⟨rfl, rfl⟩; rw [HI2.out]))
          go_ret
          exact ⟨rfl, HBL.out⟩
      · have h2' : inR τ 0 60 = false := by simpa using h2
        have HI1 := Lib.hid h1
        have HI2 := Lib.hid h2'
        have HB := Lib.hid hB
        clear hno hB h1 h2 h2'
        go_enter Try.func9, Try.ntmps9
        go_wp2_with fail
        refine H.out.mono ?_
        rintro e w1 ⟨h1, _⟩
        obtain ⟨A1, c1, rfl, _, ho, hb⟩ := h1 HB.out
        have HBL := Lib.hid hb
        clear h1 ho hb
        go_wp2_with (first | (go_at_call 16; refine (isStop_any _ _).mono ?_; rintro e w' ⟨rfl, rfl⟩; rw [HI1.out]) | (go_at_call 22; refine (isOnClock_any _ _).mono ?_; rintro e w' ⟨rfl, rfl⟩; rw [HI2.out]))
        go_ret
        exact ⟨rfl, HBL.out⟩
    · have h1' : inR s 0 4 = false := by simpa using h1
      have HI1 := Lib.hid h1'
      have HB := Lib.hid hB
      have HI2 := Lib.hid (show True from trivial)
      clear hno hB h1 h1'
      go_enter Try.func9, Try.ntmps9
      go_wp2_with fail
      refine H.out.mono ?_
      rintro e w1 ⟨h1, _⟩
      obtain ⟨A1, c1, rfl, _, ho, hb⟩ := h1 HB.out
      have HBL := Lib.hid hb
      clear h1 ho hb HI2
      go_wp2_with (go_at_call 16; refine (isStop_any _ _).mono ?_; rintro e w' ⟨rfl, rfl⟩; rw [HI1.out])
      go_ret
      exact ⟨rfl, HBL.out⟩
  · have hB' : coachesB rs = false := by simpa using hB
    have HB := Lib.hid hB'
    clear hno hB hB'
    go_enter Try.func9, Try.ntmps9
    go_wp2_with fail
    refine H.out.mono ?_
    rintro e w1 ⟨_, h2⟩
    obtain ⟨rfl, hb⟩ := h2 HB.out
    have HBL := Lib.hid hb
    clear h2 hb
    go_wp2
    go_ret
    exact ⟨rfl, HBL.out⟩

set_option maxRecDepth 100000 in
set_option maxHeartbeats 8000000 in
theorem impF_yes (A : Option Addr) (c : Nat) (rs : List (List Int)) (sn tn kn : Nat) (w : World) (hr : Grid w 0 w.heap.size A rs) (hs : ∀ r ∈ rs, r.length ≤ 1000000000) (ht : tripB rs (sn : Int) (tn : Int) = true) (hk10 : kn ≤ 10) :
    Calls Try.prog 9 #[.slice A rs.length c, .int .i64 sn, .int .i64 tn, .int .i64 kn] w (iRes w (withV rs sn tn kn)) := by
  have H := Lib.hid (coachesOf_all A c rs w hr hs)
  have HV := Lib.hid (withV_yes (k := (kn : Int)) (show (tripB rs (sn : Int) (tn : Int) && inR (kn : Int) 0 10) = true by rw [ht, show inR (kn : Int) 0 10 = true from inR_iff.2 ⟨by omega, by omega⟩]; rfl))
  obtain ⟨hv, _, _, e1, e2, h4, h60⟩ := trip_parts ht
  obtain rfl := Int.ofNat_inj.1 e1
  obtain rfl := Int.ofNat_inj.1 e2
  have hl10 := coaches_len hv
  have HVV := Lib.hid hv
  have HOK := Lib.hid (cp_ok hv)
  have HI1 := Lib.hid (show inR (sn : Int) 0 4 = true from inR_iff.2 ⟨by omega, by omega⟩)
  have HI2 := Lib.hid (show inR (tn : Int) 0 60 = true from inR_iff.2 ⟨by omega, by omega⟩)
  have hTO : Times (onlyT (sn : Int) (tn : Int)) := onlyT_times ⟨by omega, by omega⟩
  obtain ⟨z0, z1, z2, z3, z4, hz⟩ := five_of hTO.len
  have HOA := Lib.hid (fun W => show Calls Try.prog 24 #[.int .i64 sn, .int .i64 tn] W fun e w' => e = .returned (.agg #[.int .i64 z0, .int .i64 z1, .int .i64 z2, .int .i64 z3, .int .i64 z4]) ∧ Below W.heap.size W w' from by
    have h := onlyAt_any sn (tn : Int) W h4
    rw [hz] at h
    exact h)
  rw [hz] at hTO
  have HZ := Lib.hid hz
  have HTO := Lib.hid hTO
  clear ht hv hr hs hz hTO e1 e2
  go_enter Try.func9, Try.ntmps9
  go_wp2_with fail
  refine H.out.mono ?_
  rintro e w1 ⟨h1, _⟩
  obtain ⟨A1, c1, rfl, hc1, ho, hb⟩ := h1 HVV.out
  have HBL := Lib.hid hb
  have HO := Lib.hid ho
  have hzw := hb.size
  clear h1 ho hb hc1
  go_wp2_with (first | (go_at_call 16; refine (isStop_any _ _).mono ?_; rintro e w' ⟨rfl, rfl⟩; rw [HI1.out]) | (go_at_call 22; refine (isOnClock_any _ _).mono ?_; rintro e w' ⟨rfl, rfl⟩; rw [HI2.out]))
  refine (HOA.out _).mono ?_
  rintro e w3 ⟨rfl, hb3⟩
  have hz3 := hb3.size
  have HO3 := Lib.hid (HO.out.below hb3)
  have HB3 := Lib.hid (HBL.out.trans (hb3.mono hzw))
  obtain ⟨v0, v1, v2, v3, v4, hvv⟩ := five_of ((withT_times (s := (sn : Int)) (τ := (tn : Int)) HOK.out ⟨by omega, by omega⟩ ((kn : Int)).toNat).len)
  have HVV2 := Lib.hid hvv
  have hbx : Below w3.heap.size w3 (w3.alloc (.cells #[.int .i64 kn, .int .i64 0, .int .i64 0, .int .i64 0, .int .i64 0, .int .i64 0, .int .i64 z0, .int .i64 z1, .int .i64 z2, .int .i64 z3, .int .i64 z4] 54)) := (Below.refl _ _).alloc (Nat.le_refl _) _
  have hsx : (w3.alloc (.cells #[.int .i64 kn, .int .i64 0, .int .i64 0, .int .i64 0, .int .i64 0, .int .i64 0, .int .i64 z0, .int .i64 z1, .int .i64 z2, .int .i64 z3, .int .i64 z4] 54)).heap.size = w3.heap.size + 1 := by simp
  have HTV := Lib.hid (show Calls Try.prog 23 #[.slice A1 rs.length c1, .iface 52 (.pointer (some ⟨w3.heap.size, 0, none⟩))] (w3.alloc (.cells #[.int .i64 kn, .int .i64 0, .int .i64 0, .int .i64 0, .int .i64 0, .int .i64 0, .int .i64 z0, .int .i64 z1, .int .i64 z2, .int .i64 z3, .int .i64 z4] 54)) fun e w' => e = .returned (.agg #[.int .i64 v0, .int .i64 v1, .int .i64 v2, .int .i64 v3, .int .i64 v4]) ∧ Below w.heap.size (w3.alloc (.cells #[.int .i64 kn, .int .i64 0, .int .i64 0, .int .i64 0, .int .i64 0, .int .i64 0, .int .i64 z0, .int .i64 z1, .int .i64 z2, .int .i64 z3, .int .i64 z4] 54)) w' from
    (travelF A1 rs.length c1 w3.heap.size w.heap.size w1.heap.size w.heap.size kn [0, 0, 0, 0, 0] [z0, z1, z2, z3, z4] (rs.map cp) _ (by simp) hl10 hk10 (HO3.out.below (hbx.mono (by omega))) hz3 HOK.out (t5_boxF w3 kn z0 z1 z2 z3 z4 _).1 (t5_boxF w3 kn z0 z1 z2 z3 z4 _).2.1 times_zero (t5_boxF w3 kn z0 z1 z2 z3 z4 _).2.2 HTO.out (by omega)).mono fun e w' ⟨he, hb⟩ => ⟨by rw [he, ← HZ.out, iterW_with]; have h := hvv; rw [Int.toNat_natCast] at h; rw [h]; rfl, hb⟩)
  have HBX := Lib.hid (HB3.out.trans (hbx.mono (by omega)))
  clear hb3 hvv hbx hsx
  go_wp2_with fail
  refine HTV.out.mono ?_
  rintro e w4 ⟨rfl, hb4⟩
  have hz4 := hb4.size
  simp at hz4
  have HB4 := Lib.hid (HBX.out.trans hb4)
  have HF := Lib.hid (show iRes w (withV rs (sn : Int) (tn : Int) kn) (.returned (.slice (some ⟨w4.heap.size, 0, none⟩) 5 5)) (w4.alloc (.cells #[.int .i64 v0, .int .i64 v1, .int .i64 v2, .int .i64 v3, .int .i64 v4] 46)) from by
    rw [HV.out, HVV2.out]
    exact ⟨_, 5, rfl, Nat.le_refl _, own_block (xs := [.int .i64 v0, .int .i64 v1, .int .i64 v2, .int .i64 v3, .int .i64 v4]) (heap_alloc_new w4 _) (by have := HB4.out.size; exact this), HB4.out.alloc (HB4.out.size) _⟩)
  clear hb4
  go_wp2
  go_ret
  exact HF.out

theorem impF_any (A : Option Addr) (c : Nat) (rs : List (List Int)) (s τ k : Int) (w : World) (hr : Grid w 0 w.heap.size A rs) (hs : ∀ r ∈ rs, r.length ≤ 1000000000) :
    Calls Try.prog 9 #[.slice A rs.length c, .int .i64 s, .int .i64 τ, .int .i64 k] w (iRes w (withV rs s τ k)) := by
  by_cases ht : (tripB rs s τ && inR k 0 10) = true
  · simp only [Bool.and_eq_true] at ht
    obtain ⟨_, sn, tn, rfl, rfl, _, _⟩ := trip_parts ht.1
    have hk := inR_iff.1 ht.2
    obtain ⟨kn, rfl⟩ := Int.eq_ofNat_of_zero_le hk.1
    exact impF_yes A c rs sn tn kn w hr hs ht.1 (by omega)
  · exact (impF_no A c rs s τ k w hr hs (by simpa using ht)).mono fun e w' ⟨he, hb⟩ => by rw [he]; exact iRes.none (withV_no (by simpa using ht)) hb
end Go.Proofs.Ytimbkclhkepgfaa
