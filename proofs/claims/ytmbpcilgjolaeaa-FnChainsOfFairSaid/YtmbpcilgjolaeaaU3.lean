/- Rates read in memory; IsFair on both sides. No condition. -/
import Derived.Test.YtmbpcilgjolaeaaU1
import Derived.Test.YtmbpcilgjolaeaaN2
import Derived.Test.YtmbpcilgjolaeaaDr
import Derived.IntWalk
namespace Go.Proofs.Ytmbpcilgjolaeaa
open Go.RowKit

/-- A square of numbers that is read. -/
def Sq (w : World) (B b o n : Nat) (p q c : Nat → Nat) (D : Nat → Nat → Int) : Prop :=
  b < B ∧ ∀ i, i < n → w.cell? ⟨b, o + i, none⟩ = some (.slice (some ⟨p i, q i, none⟩) n (c i)) ∧ p i < B ∧ ∀ k, k < n → w.cell? ⟨p i, q i + k, none⟩ = some (.int .i64 (D i k))
section
variable {w w' : World} {B n : Nat} {D : Nat → Nat → Int}
theorem Sq.below {b o : Nat} {p q c : Nat → Nat} (h : Sq w B b o n p q c D) (hb : Below B w w') : Sq w' B b o n p q c D := by
  obtain ⟨h1, h2⟩ := h
  refine ⟨h1, fun i hi => ?_⟩
  obtain ⟨g1, g2, g3⟩ := h2 i hi
  exact ⟨cell_keep hb h1 g1, g2, fun k hk => cell_keep hb g2 (g3 k hk)⟩
theorem Sq.more {b o B' : Nat} {p q c : Nat → Nat} (h : Sq w B b o n p q c D) (hb : B ≤ B') : Sq w B' b o n p q c D := by
  obtain ⟨h1, h2⟩ := h
  refine ⟨by omega, fun i hi => ?_⟩
  obtain ⟨g1, g2, g3⟩ := h2 i hi
  exact ⟨g1, by omega, g3⟩
theorem Grid.sq {A : Option Addr} (h : Grid w 0 B A (mat n D)) (hn : 0 < n) : ∃ b o p q c, A = some ⟨b, o, none⟩ ∧ Sq w B b o n p q c D := by
  obtain ⟨hs, h1, h2⟩ := h
  obtain ⟨b, o, hA, hb, hc⟩ := h1.open (by rw [h2.1, mat_len]; exact hn)
  have hall : ∀ i : Nat, ∃ z : Nat × Nat × Nat, i < n → w.cell? ⟨b, o + i, none⟩ = some (.slice (some ⟨z.1, z.2.1, none⟩) n z.2.2) ∧ z.1 < B ∧ ∀ k, k < n → w.cell? ⟨z.1, z.2.1 + k, none⟩ = some (.int .i64 (D i k)) := fun i => by
    by_cases hi : i < n
    · obtain ⟨R, cR, k1, k2, k3⟩ := h2.2 i (by rw [mat_len]; exact hi)
      rw [mat_get hi] at k1 k2 k3
      rw [tab_length] at k1 k2
      obtain ⟨b', o', rfl, hb', hc'⟩ := k3.open (by simp [tab_length]; omega)
      exact ⟨(b', o', cR), fun _ => ⟨hc i _ k1, by omega, fun k hk => hc' k _ (tab_vals_get hk)⟩⟩
    · exact ⟨(0, 0, 0), fun h => absurd h hi⟩
  refine ⟨b, o, fun i => (Classical.choose (hall i)).1, fun i => (Classical.choose (hall i)).2.1, fun i => (Classical.choose (hall i)).2.2, hA, by omega, fun i hi => Classical.choose_spec (hall i) hi⟩
end

/-- What holds of all triples that come first. -/
def T3 (n : Nat) (P : Nat → Nat → Nat → Prop) (x y z : Nat) : Prop := ∀ x' y' z', x' < n → y' < n → z' < n → (x' < x ∨ (x' = x ∧ (y' < y ∨ (y' = y ∧ z' < z)))) → P x' y' z'
section
variable {n : Nat} {P : Nat → Nat → Nat → Prop} {x y z : Nat}
theorem T3.start : T3 n P 0 0 0 := fun _ _ _ _ _ _ h => by omega
theorem T3.next (h : T3 n P x y z) (hp : P x y z) : T3 n P x y (z + 1) := fun x' y' z' h1 h2 h3 h4 => by
  by_cases e : x' = x ∧ y' = y ∧ z' = z
  · obtain ⟨rfl, rfl, rfl⟩ := e; exact hp
  · exact h x' y' z' h1 h2 h3 (by omega)
theorem T3.row (h : T3 n P x y n) : T3 n P x (y + 1) 0 := fun x' y' z' h1 h2 h3 h4 => h x' y' z' h1 h2 h3 (by omega)
theorem T3.plane (h : T3 n P x n 0) : T3 n P (x + 1) 0 0 := fun x' y' z' h1 h2 h3 h4 => h x' y' z' h1 h2 h3 (by omega)
theorem T3.all (h : T3 n P n 0 0) (hx : x < n) (hy : y < n) (hz : z < n) : P x y z := h x y z hx hy hz (by omega)
end
/-- Over a third place, the third one last, or first. -/
def FairS (D : Nat → Nat → Int) (i k m : Nat) : Prop := D i k ≤ D i m + D m k
def FairI (D : Nat → Nat → Int) (m i k : Nat) : Prop := D i k ≤ D i m + D m k
theorem fairS_all {n : Nat} {D : Nat → Nat → Int} (h : T3 n (FairS D) n 0 0) : Fair n D := fun _ _ _ hi hj hk => h.all hi hk hj
theorem fairI_all {n : Nat} {D : Nat → Nat → Int} (h : T3 n (FairI D) n 0 0) : Fair n D := fun _ _ _ hi hj hk => h.all hj hi hk
theorem fair_not {n : Nat} {D : Nat → Nat → Int} {i m k : Nat} (hi : i < n) (hm : m < n) (hk : k < n) (h : ¬ D i k ≤ D i m + D m k) : decide (Fair n D) = false := decide_eq_false fun hf => h (hf i m k hi hm hk)
theorem fair_yes {n : Nat} {D : Nat → Nat → Int} (h : Fair n D) : decide (Fair n D) = true := decide_eq_true h

set_option maxRecDepth 100000 in
set_option maxHeartbeats 4000000 in
theorem specIsFair_mat (A : Option Addr) (c n : Nat) (D : Nat → Nat → Int) (w : World) (hr : Grid w 0 w.heap.size A (mat n D)) (hm : RM n D) :
    Calls Try.prog 24 #[.slice A n c] w fun e w' => e = .returned (.bool (decide (Fair n D))) ∧ ∃ k, w' = w.drewN k := by
  have hn1 := hm.n1
  have hn5 := hm.n5
  have hvr := validRates_low A c (mat n D) w hr (by rw [mat_len]; omega) (fun r hr => by
    obtain ⟨i, hi, rfl⟩ := List.mem_map.1 hr
    rw [tab_length]; omega)
  rw [mat_len, ratesB_mat hm] at hvr
  have HVR := Lib.hid hvr
  have HM := Lib.hid hm
  obtain ⟨b, o, p, q, cc, rfl, hsq⟩ := hr.sq (by omega)
  have HSQ := Lib.hid hsq
  clear hvr hm hr hsq
  go_enter Try.func24, Try.ntmps24
  go_wp2_with (go_at_call 44; ((with_reducible refine HVR.out.mono ?_); rintro e w' ⟨rfl, rfl⟩))
  go_loopw [3] (fun v wr => ∃ i : Nat, i ≤ n ∧ v = .int .i64 i ∧ T3 n (FairS D) i 0 0 ∧ ∃ k, wr = w.drewN k) (fun v _ => n - (intOf v).toNat)
  case atStart => exact ⟨0, by omega, rfl, T3.start, 0, rfl⟩
  case round =>
    obtain ⟨i, hi, rfl, ht, hd⟩ := hrel
    have HT := Lib.hid ht
    have HD := Lib.hid hd
    clear ht hd
    by_cases hli : i < n
    · go_wp2_with fail
      go_loopw [4] (fun v wr => ∃ k : Nat, k ≤ n ∧ v = .int .i64 k ∧ T3 n (FairS D) i k 0 ∧ ∃ k, wr = w.drewN k) (fun v _ => n - (intOf v).toNat)
      case atStart => exact ⟨0, by omega, rfl, HT.out, HD.out⟩
      case round =>
        clear HT HD
        obtain ⟨k, hk, rfl, ht, hd⟩ := hrel
        have HT := Lib.hid ht
        have HD := Lib.hid hd
        clear ht hd
        by_cases hlk : k < n
        · go_wp2_with fail
          go_loopw [5] (fun v wr => ∃ m : Nat, m ≤ n ∧ v = .int .i64 m ∧ T3 n (FairS D) i k m ∧ ∃ k, wr = w.drewN k) (fun v _ => n - (intOf v).toNat)
          case atStart => exact ⟨0, by omega, rfl, HT.out, HD.out⟩
          case round =>
            clear HT HD
            obtain ⟨m, hmn, rfl, ht, hd⟩ := hrel
            have HT := Lib.hid ht
            have HD := Lib.hid hd
            clear ht
            by_cases hlm : m < n
            · have hs2 : Sq wr w.heap.size b o n p q cc D := by obtain ⟨kk, rfl⟩ := hd; exact HSQ.out.below (drewBelow _ _)
              clear hd
              obtain ⟨_, hall⟩ := hs2
              obtain ⟨x1, _, x3⟩ := hall i hli
              obtain ⟨y1, _, y3⟩ := hall m hlm
              have x4 := x3 k hlk
              have x5 := x3 m hlm
              have y4 := y3 k hlk
              have d1 := HM.out.lo i k hli hlk
              have d2 := HM.out.hi i k hli hlk
              have d3 := HM.out.lo i m hli hlm
              have d4 := HM.out.hi i m hli hlm
              have d5 := HM.out.lo m k hlm hlk
              have d6 := HM.out.hi m k hlm hlk
              have HNX := Lib.hid (fun h : FairS D i k m => HT.out.next h)
              have HNO := Lib.hid (fun h : ¬ D i k ≤ D i m + D m k => fair_not hli hlm hlk h)
              have HDF := Lib.hid (show FairS D i k m ↔ D i k ≤ D i m + D m k from Iff.rfl)
              obtain ⟨r, hrr⟩ : ∃ r, D i k = r := ⟨_, rfl⟩
              obtain ⟨s, hs⟩ : ∃ s, D i m = s := ⟨_, rfl⟩
              obtain ⟨t, htt⟩ : ∃ t, D m k = t := ⟨_, rfl⟩
              rw [hrr] at x4 d1 d2 HNO HDF
              rw [hs] at x5 d3 d4 HNO HDF
              rw [htt] at y4 d5 d6 HNO HDF
              have i1 : (0 : Int) ≤ i := by omega
              have i2 : (i : Int) < n := by omega
              have i3 : (0 : Int) ≤ m := by omega
              have i4 : (m : Int) < n := by omega
              have i5 : (0 : Int) ≤ k := by omega
              have i6 : (k : Int) < n := by omega
              have hw : IntKind.i64.wrap (s + t) = s + t := IntWalk.i64_in _ (by omega)
              clear hall x3 y3 hrr hs htt HT
              by_cases hc : s + t < r
              · have hdl : decide (s + t < r) = true := decide_eq_true hc
                have HF := Lib.hid (HNO.out (by omega))
                clear hc
                go_wp2_with fail
                go_quiet (fail)
                go_wp2_with fail
                go_ret
                exact ⟨ret_bool HF.out.symm, by obtain ⟨kk, hkk⟩ := HD.out; rw [hkk]; exact ⟨_, World.drewN_drewN ..⟩⟩
              · have hdl : decide (s + t < r) = false := decide_eq_false hc
                have HF := Lib.hid (HNX.out (HDF.out.2 (by omega)))
                clear hc
                go_wp2_with fail
                go_quiet (fail)
                go_wp2_with fail
                go_roundw
                case rel => exact ⟨m + 1, by omega, by go_num, HF.out, by obtain ⟨kk, hkk⟩ := HD.out; rw [hkk]; exact ⟨_, World.drewN_drewN ..⟩⟩
                case measure => simp [intOf]; omega
            · have hmm : m = n := by omega
              subst hmm
              clear hd
              go_wp2_with fail
              go_roundw
              case rel => exact ⟨k + 1, by omega, by go_num, HT.out.row, HD.out⟩
              case measure => simp [intOf]; omega
        · have hkk : k = n := by omega
          subst hkk
          go_wp2_with fail
          go_roundw
          case rel => exact ⟨i + 1, by omega, by go_num, HT.out.plane, HD.out⟩
          case measure => simp [intOf]; omega
    · have hii : i = n := by omega
      subst hii
      have HF := Lib.hid (fair_yes (fairS_all HT.out))
      go_wp2_with fail
      go_ret
      exact ⟨ret_bool HF.out.symm, HD.out⟩

set_option maxRecDepth 100000 in
set_option maxHeartbeats 4000000 in
theorem impIsFair_mat (A : Option Addr) (c n : Nat) (D : Nat → Nat → Int) (w : World) (hr : Grid w 0 w.heap.size A (mat n D)) (hm : RM n D) :
    Calls Try.prog 25 #[.slice A n c] w fun e w' => e = .returned (.bool (decide (Fair n D))) ∧ ∃ k, w' = w.drewN k := by
  have hn1 := hm.n1
  have hn5 := hm.n5
  have hvr := impValidRates_any A c (mat n D) w hr (fun r hr => by
    obtain ⟨i, hi, rfl⟩ := List.mem_map.1 hr
    rw [tab_length]; omega)
  rw [mat_len, ratesB_mat hm] at hvr
  have HVR := Lib.hid hvr
  have HM := Lib.hid hm
  obtain ⟨b, o, p, q, cc, rfl, hsq⟩ := hr.sq (by omega)
  have HSQ := Lib.hid hsq
  clear hvr hm hr hsq
  go_enter Try.func25, Try.ntmps25
  go_wp2_with (go_at_call 18; ((with_reducible refine HVR.out.mono ?_); rintro e w' ⟨rfl, rfl⟩))
  go_loopw [11] (fun v wr => ∃ m : Nat, m ≤ n ∧ v = .int .i64 m ∧ T3 n (FairI D) m 0 0 ∧ ∃ k, wr = w.drewN k) (fun v _ => n - (intOf v).toNat)
  case atStart => exact ⟨0, by omega, rfl, T3.start, 0, rfl⟩
  case round =>
    obtain ⟨m, hmn, rfl, ht, hd⟩ := hrel
    have HT := Lib.hid ht
    have HD := Lib.hid hd
    clear ht hd
    by_cases hlm : m < n
    · go_wp2_with fail
      go_loopw [16] (fun v wr => ∃ i : Nat, i ≤ n ∧ v = .int .i64 i ∧ T3 n (FairI D) m i 0 ∧ ∃ k, wr = w.drewN k) (fun v _ => n - (intOf v).toNat)
      case atStart => exact ⟨0, by omega, rfl, HT.out, HD.out⟩
      case round =>
        clear HT HD
        obtain ⟨i, hi, rfl, ht, hd⟩ := hrel
        have HT := Lib.hid ht
        have HD := Lib.hid hd
        clear ht hd
        by_cases hli : i < n
        · go_wp2_with fail
          go_loopw [21] (fun v wr => ∃ k : Nat, k ≤ n ∧ v = .int .i64 k ∧ T3 n (FairI D) m i k ∧ ∃ k, wr = w.drewN k) (fun v _ => n - (intOf v).toNat)
          case atStart => exact ⟨0, by omega, rfl, HT.out, HD.out⟩
          case round =>
            clear HT HD
            obtain ⟨k, hk, rfl, ht, hd⟩ := hrel
            have HT := Lib.hid ht
            have HD := Lib.hid hd
            clear ht
            by_cases hlk : k < n
            · have hs2 : Sq wr w.heap.size b o n p q cc D := by obtain ⟨kk, rfl⟩ := hd; exact HSQ.out.below (drewBelow _ _)
              clear hd
              obtain ⟨_, hall⟩ := hs2
              obtain ⟨x1, _, x3⟩ := hall i hli
              obtain ⟨y1, _, y3⟩ := hall m hlm
              have x4 := x3 k hlk
              have x5 := x3 m hlm
              have y4 := y3 k hlk
              have d1 := HM.out.lo i k hli hlk
              have d2 := HM.out.hi i k hli hlk
              have d3 := HM.out.lo i m hli hlm
              have d4 := HM.out.hi i m hli hlm
              have d5 := HM.out.lo m k hlm hlk
              have d6 := HM.out.hi m k hlm hlk
              have HNX := Lib.hid (fun h : FairI D m i k => HT.out.next h)
              have HNO := Lib.hid (fun h : ¬ D i k ≤ D i m + D m k => fair_not hli hlm hlk h)
              have HDF := Lib.hid (show FairI D m i k ↔ D i k ≤ D i m + D m k from Iff.rfl)
              obtain ⟨r, hrr⟩ : ∃ r, D i k = r := ⟨_, rfl⟩
              obtain ⟨s, hs⟩ : ∃ s, D i m = s := ⟨_, rfl⟩
              obtain ⟨t, htt⟩ : ∃ t, D m k = t := ⟨_, rfl⟩
              rw [hrr] at x4 d1 d2 HNO HDF
              rw [hs] at x5 d3 d4 HNO HDF
              rw [htt] at y4 d5 d6 HNO HDF
              have i1 : (0 : Int) ≤ i := by omega
              have i2 : (i : Int) < n := by omega
              have i3 : (0 : Int) ≤ m := by omega
              have i4 : (m : Int) < n := by omega
              have i5 : (0 : Int) ≤ k := by omega
              have i6 : (k : Int) < n := by omega
              have hw : IntKind.i64.wrap (s + t) = s + t := IntWalk.i64_in _ (by omega)
              clear hall x3 y3 hrr hs htt HT
              by_cases hc : s + t < r
              · have hdl : decide (s + t < r) = true := decide_eq_true hc
                have HF := Lib.hid (HNO.out (by omega))
                clear hc
                go_wp2_with fail
                go_quiet (fail)
                go_wp2_with fail
                go_ret
                exact ⟨ret_bool HF.out.symm, by obtain ⟨kk, hkk⟩ := HD.out; rw [hkk]; exact ⟨_, World.drewN_drewN ..⟩⟩
              · have hdl : decide (s + t < r) = false := decide_eq_false hc
                have HF := Lib.hid (HNX.out (HDF.out.2 (by omega)))
                clear hc
                go_wp2_with fail
                go_quiet (fail)
                go_wp2_with fail
                go_roundw
                case rel => exact ⟨k + 1, by omega, by go_num, HF.out, by obtain ⟨kk, hkk⟩ := HD.out; rw [hkk]; exact ⟨_, World.drewN_drewN ..⟩⟩
                case measure => simp [intOf]; omega
            · have hkk : k = n := by omega
              subst hkk
              clear hd
              go_wp2_with fail
              go_roundw
              case rel => exact ⟨i + 1, by omega, by go_num, HT.out.row, HD.out⟩
              case measure => simp [intOf]; omega
        · have hii : i = n := by omega
          subst hii
          go_wp2_with fail
          go_roundw
          case rel => exact ⟨m + 1, by omega, by go_num, HT.out.plane, HD.out⟩
          case measure => simp [intOf]; omega
    · have hmm : m = n := by omega
      subst hmm
      have HF := Lib.hid (fair_yes (fairI_all HT.out))
      go_wp2_with fail
      go_ret
      exact ⟨ret_bool HF.out.symm, HD.out⟩

def fairV (rs : List (List Int)) : Bool := ratesB rs && decide (Fair rs.length (cellOf rs))
set_option maxRecDepth 100000 in
theorem specIsFair_any (A : Option Addr) (c : Nat) (rs : List (List Int)) (w : World) (hr : Grid w 0 w.heap.size A rs) (hl : rs.length ≤ 1000000000) (hs : ∀ r ∈ rs, r.length ≤ 1000000000) :
    Calls Try.prog 24 #[.slice A rs.length c] w fun e w' => e = .returned (.bool (fairV rs)) ∧ Below w.heap.size w w' := by
  cases h : ratesB rs with
  | true =>
    obtain ⟨h1, h2⟩ := rates_parts h
    have h3 : fairV rs = decide (Fair rs.length (cellOf rs)) := by rw [fairV, h, Bool.true_and]
    rw [h3]
    exact (specIsFair_mat A c rs.length (cellOf rs) w (by rw [← h1]; exact hr) h2).mono fun _ _ ⟨he, n, hw⟩ => ⟨he, by rw [hw]; exact drewBelow _ _⟩
  | false =>
    have H := Lib.hid (validRates_low A c rs w hr hl hs)
    rw [h] at H
    have HF := Lib.hid (show fairV rs = false by rw [fairV, h, Bool.false_and])
    clear hs h
    go_enter Try.func24, Try.ntmps24
    go_wp2_with (go_at_call 44; ((with_reducible refine H.out.mono ?_); rintro e w' ⟨rfl, rfl⟩))
    go_ret
    exact ⟨ret_bool HF.out.symm, Below.refl _ _⟩
set_option maxRecDepth 100000 in
theorem impIsFair_any (A : Option Addr) (c : Nat) (rs : List (List Int)) (w : World) (hr : Grid w 0 w.heap.size A rs) (hs : ∀ r ∈ rs, r.length ≤ 1000000000) :
    Calls Try.prog 25 #[.slice A rs.length c] w fun e w' => e = .returned (.bool (fairV rs)) ∧ Below w.heap.size w w' := by
  cases h : ratesB rs with
  | true =>
    obtain ⟨h1, h2⟩ := rates_parts h
    have h3 : fairV rs = decide (Fair rs.length (cellOf rs)) := by rw [fairV, h, Bool.true_and]
    rw [h3]
    exact (impIsFair_mat A c rs.length (cellOf rs) w (by rw [← h1]; exact hr) h2).mono fun _ _ ⟨he, n, hw⟩ => ⟨he, by rw [hw]; exact drewBelow _ _⟩
  | false =>
    have H := Lib.hid (impValidRates_any A c rs w hr hs)
    rw [h] at H
    have HF := Lib.hid (show fairV rs = false by rw [fairV, h, Bool.false_and])
    clear hs h
    go_enter Try.func25, Try.ntmps25
    go_wp2_with (go_at_call 18; ((with_reducible refine H.out.mono ?_); rintro e w' ⟨rfl, rfl⟩))
    go_ret
    exact ⟨ret_bool HF.out.symm, Below.refl _ _⟩
end Go.Proofs.Ytmbpcilgjolaeaa
