/- Answers: the order in which they are read, both. No condition. -/
import Derived.Test.YtldbefmiabgkhaaT3
namespace Go.Proofs.Ytldbefmiabgkhaa
open Go.RowKit

def ordL (zs : List Int) : List Int := if ansB zs then ro zs (-1) else []
theorem ordL_yes {zs : List Int} (h : ansB zs = true) : ordL zs = ro zs (-1) := by rw [ordL, if_pos h]
theorem ordL_no {zs : List Int} (h : ansB zs = false) : ordL zs = [] := by rw [ordL, if_neg (by simp [h])]
theorem one_rowD (W : World) (x : Int) : (W.alloc (.cells #[.int .i64 x] 3)).ownsRow W.heap.size 3 1 (.slice (some ⟨W.heap.size, 0, none⟩) 1 1) 1 [.int .i64 x] := ⟨rfl, .inr ⟨W.heap.size, 1, #[.int .i64 x], rfl, Nat.le_refl _, heap_alloc_new W _, Nat.le_refl _, by simp [maxLen], rfl, rfl⟩⟩
theorem int_cells (S : List Int) : ∀ u ∈ S.map (Value.int .i64), u.oneCell' = true := fun u hu => by
  obtain ⟨z, _, rfl⟩ := List.mem_map.1 hu; rfl

theorem own_keepR {w w' : World} {base n : Nat} {e : TypeId} {v : Value} {size : Nat} {xs : List Value} (h : w.ownsRow base e size v n xs) (hb : Below w.heap.size w w') : w'.ownsRow base e size v n xs := by
  refine ⟨h.1, ?_⟩
  rcases h.2 with hn | ⟨k, cap, cur, rfl, hb2, hgg, rest⟩
  · exact .inl hn
  · exact .inr ⟨k, cap, cur, rfl, hb2, by rw [hb.block k (Array.getElem?_eq_some_iff.1 hgg).1]; exact hgg, rest⟩

/-- What 'impl.readAnswers' says. -/
def RoPost (w : World) (base : Nat) (V : List Int) (e : Ending) (w' : World) : Prop := ∃ A c, e = .returned (.slice A V.length c) ∧ w'.ownsRow base 3 1 (.slice A V.length c) V.length (V.map (Value.int .i64)) ∧ Below base w w'
theorem RoPost.row {w w' : World} {base : Nat} {A : Option Addr} {n c : Nat} {V : List Int} (h : w'.ownsRow base 3 1 (.slice A n c) n (V.map (Value.int .i64))) (hn : n = V.length) (hb : Below base w w') : RoPost w base V (.returned (.slice A n c)) w' := by
  subst hn
  exact ⟨A, c, rfl, h, hb⟩
theorem RoPost.of {w w1 w' : World} {base : Nat} {V : List Int} {e : Ending} (h : RoPost w1 base V e w') (hb : Below base w w1) : RoPost w base V e w' := by
  obtain ⟨A, c, h1, h2, h3⟩ := h
  exact ⟨A, c, h1, h2, hb.trans h3⟩

set_option maxRecDepth 100000 in
set_option maxHeartbeats 8000000 in
theorem readAnswers_any {zs : List Int} (hans : Ans zs) (A : Option Addr) (c : Nat) (f : Nat) : ∀ (x : Int) (base m cH : Nat) (H : Option Addr) (L : List Int) (w : World), ((zs.length : Int) - x).toNat ≤ f → -1 ≤ x → x < zs.length →
    Ints w base A zs → base ≤ w.heap.size → w.ownsRow base 3 1 (.slice H m cH) m (L.map (Value.int .i64)) → m = L.length → m + (ro zs x).length ≤ 9 →
    Calls Try.prog 45 #[.slice H m cH, .slice A zs.length c, .int .i64 x] w (RoPost w base (L ++ ro zs x)) := by
  have hl9 := hans.n9
  have HAN := Lib.hid hans
  clear hans
  induction f with
  | zero => intro x base m cH H L w hf hx0 hx1; omega
  | succ f ih =>
    intro x base m cH H L w hf hx0 hx1 hr hB hown hm hlen
    obtain ⟨i0, hi0, hz0, hz1, hz2⟩ := info_parts Try.infoD
    have HIH := Lib.hid ih
    have HST := Lib.hid (And.intro hm hown)
    have HRO := Lib.hid (ro_eq HAN.out hx0)
    have HLE := Lib.hid (show ∀ k, k ≤ zs.length → (roK zs x k).length ≤ (ro zs x).length from fun k hk => roK_len HAN.out hx0 hk)
    have HLEN := Lib.hid (show L.length + (ro zs x).length ≤ 9 by omega)
    have HF := Lib.hid hf
    have HR := Lib.hid hr
    clear ih hm hown hlen hf hr
    go_enter Try.func45, Try.ntmps45
    go_wp2
    go_loopw [0, 10] (fun v i wr => ∃ (k m c' : Nat) (H : Option Addr) (V : List Int), k ≤ zs.length ∧ i = .int .i64 k ∧ v = .slice H m c' ∧ Hid (m = V.length ∧ V = L ++ roK zs x k) ∧ wr.ownsRow base 3 1 (.slice H m c') m (V.map (Value.int .i64)) ∧ Below base w wr) (fun _ i _ => zs.length - (intOf i).toNat)
    case atStart => exact ⟨0, m, cH, H, L, by omega, rfl, rfl, Lib.hid ⟨HST.out.1, by rw [roK_zero, List.append_nil]⟩, HST.out.2, Below.refl _ _⟩
    case round =>
      clear HST
      obtain ⟨k, m, cH, H, V, hk, rfl, rfl, HM, hown, hbr⟩ := hrel
      have HO := Lib.hid hown
      have HBR := Lib.hid hbr
      have hbz : base ≤ wr.heap.size := by have := hbr.size; omega
      have hm9 : m ≤ 9 := by have h1 := HM.out.1; have h2 := HLE.out k hk; have h3 := HLEN.out; have h4 := congrArg List.length HM.out.2; rw [List.length_append] at h4; omega
      by_cases hlt : k < zs.length
      · obtain ⟨b, o, rfl, hb, hc⟩ := (HR.out.below hbr).open (by simp; omega)
        have hcell := ints_at hc hlt
        have HZ := Lib.hid (getD_get hlt)
        have hkI : (k : Int) < zs.length := by omega
        have hhi := HAN.out.hi k hlt
        obtain ⟨z, hz⟩ : ∃ z, zs[k] = z := ⟨_, rfl⟩
        rw [hz] at hcell HZ
        rw [HZ.out] at hhi
        clear hc hz
        by_cases hzx : z = x
        · have t0 : (z == x) = true := by simp [hzx]
          have hkx : x < k := by omega
          have HN := Lib.hid (roK_next (m := k) (show zs.getD k 0 = x by rw [HZ.out, hzx]))
          clear hzx hown hbr
          go_wp2_with (at_builtin; refine wpList_push rfl (.tmp 19) (.tmp 21) 27 rfl i0 (.int .i64 0) 8 Try.underlying27 hi0 hz0 hz1 hz2 rfl (by decide) _ _ rfl HO.out [.int .i64 (k : Int)] rfl rfl (by simp [Value.oneCell']) (by omega) (by omega) hbz ?_)
          intro H' c' w6 hown6 hg6
          have hb6 : Below base wr w6 := (Below.refl _ _).grown hg6 hbz (fun i hi => (HO.out.lt _ hi).1)
          have hkk := HLE.out (k + 1) (by omega)
          have HREC := Lib.hid (HIH.out (k : Int) base (m + 1) c' H' (V ++ [(k : Int)]) w6 (by have := HF.out; omega) (by omega) hkI (HR.out.below (HBR.out.trans hb6)) (by have := hb6.size; omega) (by rw [List.map_append]; exact hown6) (by rw [List.length_append, ← HM.out.1]; rfl) (by
            have h1 := HM.out.1; have h3 := HLEN.out; have h4 := congrArg List.length HM.out.2
            rw [HN.out] at hkk
            simp only [List.length_append, List.length_singleton] at h4 hkk; omega))
          have HB6 := Lib.hid (HBR.out.trans hb6)
          obtain ⟨T, hT⟩ : ∃ T, V ++ [(k : Int)] ++ ro zs k = T := ⟨_, rfl⟩
          rw [hT] at HREC
          have HT := Lib.hid hT
          clear hown6 hg6 hb6 hkk hT
          go_wp2_with (go_at_call 45; (with_reducible refine HREC.out.mono ?_); rintro e w7 ⟨A7, c7, rfl, hown7, hb7⟩)
          have HW := Lib.hid (And.intro hown7 (HB6.out.trans hb7))
          clear hown7 hb7
          go_wp2
          go_roundw
          case rel => exact ⟨k + 1, T.length, c7, A7, T, by omega, by go_num, rfl, Lib.hid ⟨rfl, by rw [HN.out, ← HT.out, HM.out.2]; simp only [List.append_assoc]⟩, HW.out.1, HW.out.2⟩
          case measure => simp [intOf]; omega
        · have t0 : (z == x) = false := by simp [hzx]
          have HN := Lib.hid (roK_same (m := k) (show ¬ zs.getD k 0 = x by rw [HZ.out]; exact hzx))
          clear hzx hown hbr
          go_wp2
          go_roundw
          case rel => exact ⟨k + 1, m, cH, H, V, by omega, by go_num, rfl, Lib.hid ⟨HM.out.1, by rw [HN.out]; exact HM.out.2⟩, HO.out, HBR.out⟩
          case measure => simp [intOf]; omega
      · have hkn : k = zs.length := by omega
        subst hkn
        have HE := Lib.hid (show RoPost w base (L ++ ro zs x) (.returned (.slice H m cH)) wr by rw [HRO.out, ← HM.out.2]; exact RoPost.row HO.out HM.out.1 HBR.out)
        go_wp2
        go_ret
        exact HE.out

set_option maxRecDepth 100000 in
set_option maxHeartbeats 8000000 in
theorem readFrom_any {zs : List Int} (hans : Ans zs) (A : Option Addr) (c : Nat) (f : Nat) : ∀ (x : Nat) (w : World), zs.length - x ≤ f → x < zs.length → Ints w w.heap.size A zs →
    Calls Try.prog 43 #[.slice A zs.length c, .int .i64 (x : Int)] w (iRes w ((x : Int) :: ro zs x)) := by
  have hl9 := hans.n9
  have HAN := Lib.hid hans
  clear hans
  induction f with
  | zero => intro x w hf hx1; omega
  | succ f ih =>
    intro x w hf hx1 hr
    obtain ⟨i0, hi0, hz0, hz1, hz2⟩ := info_parts Try.infoD
    have HIH := Lib.hid ih
    have HST := Lib.hid (one_rowD w (x : Int))
    have HRO := Lib.hid (ro_eq HAN.out (x := (x : Int)) (by omega))
    have HLE := Lib.hid (show ∀ k, k ≤ zs.length → (roK zs x k).length ≤ 9 from fun k hk => by have h1 := roK_len HAN.out (x := (x : Int)) (by omega) hk; have h2 := ro_len HAN.out (x := (x : Int)) (by omega); omega)
    have HLO := Lib.hid (roK_low HAN.out (x := (x : Int)) (m := x + 1) (by omega) (by omega))
    have HF := Lib.hid hf
    have HR := Lib.hid hr
    clear ih hf hr
    go_enter Try.func43, Try.ntmps43
    go_wp2
    go_loopw [5, 6] (fun v i wr => ∃ (k m c' : Nat) (H : Option Addr) (V : List Int), x + 1 ≤ k ∧ k ≤ zs.length ∧ i = .int .i64 k ∧ v = .slice H m c' ∧ Hid (m = V.length ∧ V = (x : Int) :: roK zs x k) ∧ wr.ownsRow w.heap.size 3 1 (.slice H m c') m (V.map (Value.int .i64)) ∧ Below w.heap.size w wr) (fun _ i _ => zs.length - (intOf i).toNat)
    case atStart => exact ⟨x + 1, 1, _, _, [(x : Int)], by omega, by omega, by go_num, rfl, Lib.hid ⟨rfl, by rw [HLO.out]⟩, HST.out, (Below.refl _ _).alloc (Nat.le_refl _) _⟩
    case round =>
      clear HST
      obtain ⟨k, m, cH, H, V, hkx, hk, rfl, rfl, HM, hown, hbr⟩ := hrel
      have HO := Lib.hid hown
      have HBR := Lib.hid hbr
      have hbz := hbr.size
      have hm10 : m ≤ 10 := by have h1 := HM.out.1; have h2 := HLE.out k hk; have h4 := congrArg List.length HM.out.2; rw [List.length_cons] at h4; omega
      by_cases hlt : k < zs.length
      · have hrw := HR.out.below hbr
        have HC := Lib.hid (HIH.out k wr (by have := HF.out; omega) hlt (hrw.more hbz))
        have hle2 := ro_len HAN.out (x := (k : Int)) (by omega)
        obtain ⟨b, o, rfl, hb, hc⟩ := hrw.open (by simp; omega)
        have hcell := ints_at hc hlt
        have HZ := Lib.hid (getD_get hlt)
        have hkI : (k : Int) < zs.length := by omega
        obtain ⟨z, hz⟩ : ∃ z, zs[k] = z := ⟨_, rfl⟩
        rw [hz] at hcell HZ
        clear hc hz
        by_cases hzx : z = x
        · have t0 : (z == (x : Int)) = true := by simp [hzx]
          have HN := Lib.hid (roK_next (m := k) (show zs.getD k 0 = (x : Int) by rw [HZ.out, hzx]))
          clear hzx hown hbr
          obtain ⟨T, hT⟩ : ∃ T, (k : Int) :: ro zs k = T := ⟨_, rfl⟩
          have hTl : T.length ≤ 10 := by rw [← hT, List.length_cons]; omega
          rw [hT] at HC
          have HT := Lib.hid hT
          clear hT hle2
          go_wp2_with fail
          refine HC.out.mono ?_
          rintro e w7 ⟨A7, c7, rfl, hc7, ho7, hb7⟩
          have hz7 := hb7.size
          have HO7 := Lib.hid (own_keepR HO.out hb7)
          go_wp2_with (at_builtin; refine wpList_extend rfl (.tmp 23) (.tmp 26) 27 rfl i0 (.int .i64 0) 8 Try.underlying27 hi0 hz0 hz1 hz2 rfl (by decide) _ _ rfl HO7.out A7 T.length c7 _ (T.map (Value.int .i64)) rfl (by simp) ho7.row (int_cells T) (by omega) (by omega) (by omega) ?_)
          intro H' c' w8 hown8 hg8
          have HW := Lib.hid (And.intro hown8 ((HBR.out.trans (hb7.mono hbz)).grown hg8 (by omega) (fun i hi => (HO7.out.lt _ hi).1)))
          clear hown8 hg8 hc7 ho7 hb7
          go_wp2
          go_roundw
          case rel => exact ⟨k + 1, m + T.length, c', H', V ++ T, by omega, by omega, by go_num, rfl, Lib.hid ⟨by rw [List.length_append, ← HM.out.1], by rw [HN.out, HM.out.2, ← HT.out]; simp⟩, by rw [List.map_append]; exact HW.out.1, HW.out.2⟩
          case measure => simp [intOf]; omega
        · have t0 : (z == (x : Int)) = false := by simp [hzx]
          have HN := Lib.hid (roK_same (m := k) (show ¬ zs.getD k 0 = (x : Int) by rw [HZ.out]; exact hzx))
          clear hzx hown hbr hle2
          go_wp2
          go_roundw
          case rel => exact ⟨k + 1, m, cH, H, V, by omega, by omega, by go_num, rfl, Lib.hid ⟨HM.out.1, by rw [HN.out]; exact HM.out.2⟩, HO.out, HBR.out⟩
          case measure => simp [intOf]; omega
      · have hkn : k = zs.length := by omega
        subst hkn
        have HE := Lib.hid (show iRes w ((x : Int) :: ro zs x) (.returned (.slice H m cH)) wr by rw [HRO.out, ← HM.out.2]; exact iRes_row HO.out HM.out.1 HBR.out)
        go_wp2
        go_ret
        exact HE.out

set_option maxRecDepth 100000 in
set_option maxHeartbeats 8000000 in
theorem specReadOrder_any (A : Option Addr) (c : Nat) (zs : List Int) (w : World) (hr : Ints w w.heap.size A zs) (hl : zs.length ≤ 1000000000) :
    Calls Try.prog 21 #[.slice A zs.length c] w (iRes w (ordL zs)) := by
  obtain ⟨i0, hi0, hz0, hz1, hz2⟩ := info_parts Try.infoD
  have H := Lib.hid (validThreads_any A c zs w hr hl)
  by_cases hv : ansB zs = true
  · have HD := Lib.hid (ordL_yes hv)
    have HAN := Lib.hid (ans_of hv)
    have hl9 := HAN.out.n9
    rw [hv] at H
    have HST := Lib.hid (first_litD w)
    have HRO := Lib.hid (ro_eq HAN.out (x := -1) (by omega))
    have HLE := Lib.hid (show ∀ k, k ≤ zs.length → (roK zs (-1) k).length ≤ 9 from fun k hk => by have h1 := roK_len HAN.out (x := -1) (by omega) hk; have h2 := ro_len HAN.out (x := -1) (by omega); omega)
    have HR := Lib.hid hr
    clear hv hl hr
    go_enter Try.func21, Try.ntmps21
    go_wp2_with (go_at_call 42; (with_reducible refine H.out.mono ?_); rintro e w' ⟨rfl, rfl⟩)
    clear H
    go_loopw [3, 4] (fun v i wr => ∃ (k m c' : Nat) (H : Option Addr) (V : List Int), k ≤ zs.length ∧ i = .int .i64 k ∧ v = .slice H m c' ∧ Hid (m = V.length ∧ V = roK zs (-1) k) ∧ wr.ownsRow w.heap.size 3 1 (.slice H m c') m (V.map (Value.int .i64)) ∧ Below w.heap.size w wr) (fun _ i _ => zs.length - (intOf i).toNat)
    case atStart => exact ⟨0, 0, _, _, [], by omega, rfl, rfl, Lib.hid ⟨rfl, rfl⟩, HST.out, (Below.refl _ _).alloc (Nat.le_refl _) _⟩
    case round =>
      clear HST
      obtain ⟨k, m, cH, H, V, hk, rfl, rfl, HM, hown, hbr⟩ := hrel
      have HO := Lib.hid hown
      have HBR := Lib.hid hbr
      have hbz := hbr.size
      have hm10 : m ≤ 10 := by have h1 := HM.out.1; have h2 := HLE.out k hk; have h4 := congrArg List.length HM.out.2; omega
      by_cases hlt : k < zs.length
      · have hrw := HR.out.below hbr
        have HC := Lib.hid (readFrom_any HAN.out A c _ k wr (Nat.le_refl _) hlt (hrw.more hbz))
        have hle2 := ro_len HAN.out (x := (k : Int)) (by omega)
        have hlo := HAN.out.lo k hlt
        obtain ⟨b, o, rfl, hb, hc⟩ := hrw.open (by simp; omega)
        have hcell := ints_at hc hlt
        have HZ := Lib.hid (getD_get hlt)
        have hkI : (k : Int) < zs.length := by omega
        obtain ⟨z, hz⟩ : ∃ z, zs[k] = z := ⟨_, rfl⟩
        rw [hz] at hcell HZ
        rw [HZ.out] at hlo
        clear hc hz
        by_cases hzx : z < 0
        · have t0 : decide (z < 0) = true := decide_eq_true hzx
          have HN := Lib.hid (roK_next (m := k) (show zs.getD k 0 = -1 by rw [HZ.out]; omega))
          clear hzx hown hbr
          obtain ⟨T, hT⟩ : ∃ T, (k : Int) :: ro zs k = T := ⟨_, rfl⟩
          have hTl : T.length ≤ 10 := by rw [← hT, List.length_cons]; omega
          rw [hT] at HC
          have HT := Lib.hid hT
          clear hT hle2
          go_wp2_with fail
          refine HC.out.mono ?_
          rintro e w7 ⟨A7, c7, rfl, hc7, ho7, hb7⟩
          have hz7 := hb7.size
          have HO7 := Lib.hid (own_keepR HO.out hb7)
          go_wp2_with (at_builtin; refine wpList_extend rfl (.tmp 20) (.tmp 23) 27 rfl i0 (.int .i64 0) 8 Try.underlying27 hi0 hz0 hz1 hz2 rfl (by decide) _ _ rfl HO7.out A7 T.length c7 _ (T.map (Value.int .i64)) rfl (by simp) ho7.row (int_cells T) (by omega) (by omega) (by omega) ?_)
          intro H' c' w8 hown8 hg8
          have HW := Lib.hid (And.intro hown8 ((HBR.out.trans (hb7.mono hbz)).grown hg8 (by omega) (fun i hi => (HO7.out.lt _ hi).1)))
          clear hown8 hg8 hc7 ho7 hb7
          go_wp2
          go_roundw
          case rel => exact ⟨k + 1, m + T.length, c', H', V ++ T, by omega, by go_num, rfl, Lib.hid ⟨by rw [List.length_append, ← HM.out.1], by rw [HN.out, HM.out.2, ← HT.out]; simp⟩, by rw [List.map_append]; exact HW.out.1, HW.out.2⟩
          case measure => simp [intOf]; omega
        · have t0 : decide (z < 0) = false := decide_eq_false hzx
          have HN := Lib.hid (roK_same (m := k) (show ¬ zs.getD k 0 = -1 by rw [HZ.out]; omega))
          clear hzx hown hbr hle2
          go_wp2
          go_roundw
          case rel => exact ⟨k + 1, m, cH, H, V, by omega, by go_num, rfl, Lib.hid ⟨HM.out.1, by rw [HN.out]; exact HM.out.2⟩, HO.out, HBR.out⟩
          case measure => simp [intOf]; omega
      · have hkn : k = zs.length := by omega
        subst hkn
        have HE := Lib.hid (show iRes w (ordL zs) (.returned (.slice H m cH)) wr by rw [HD.out, HRO.out, ← HM.out.2]; exact iRes_row HO.out HM.out.1 HBR.out)
        go_wp2
        go_ret
        exact HE.out
  · have hv' : ansB zs = false := by simpa using hv
    have HD := Lib.hid (ordL_no hv')
    rw [hv'] at H
    clear hv hv'
    go_enter Try.func21, Try.ntmps21
    go_wp2_with (go_at_call 42; (with_reducible refine H.out.mono ?_); rintro e w' ⟨rfl, rfl⟩)
    go_ret
    exact iRes.none HD.out (Below.refl _ _)

set_option maxRecDepth 100000 in
set_option maxHeartbeats 8000000 in
theorem impReadOrder_any (A : Option Addr) (c : Nat) (zs : List Int) (w : World) (hr : Ints w w.heap.size A zs) (hl : zs.length ≤ 1000000000) :
    Calls Try.prog 22 #[.slice A zs.length c] w (iRes w (ordL zs)) := by
  obtain ⟨i0, hi0, hz0, hz1, hz2⟩ := info_parts Try.infoD
  have H := Lib.hid (areAnswers_any A c zs w hr hl)
  by_cases hv : ansB zs = true
  · have HD := Lib.hid (ordL_yes hv)
    have HAN := Lib.hid (ans_of hv)
    have hl9 := HAN.out.n9
    have HLW := Lib.hid (ro_whole HAN.out)
    rw [hv] at H
    have HR := Lib.hid hr
    clear hv hl hr
    go_enter Try.func22, Try.ntmps22
    go_wp2_with (first | (go_at_call 44; (with_reducible refine H.out.mono ?_); rintro e w' ⟨rfl, rfl⟩) | (at_make; refine wpList_make_own _ rfl (.const (.int .i64 0)) (.tmp 7) _ rfl w.heap.size 3 i0 (.int .i64 0) 1 Try.underlying27 hi0 hz0 hz1 _ _ _ _ rfl rfl rfl (by rw [hz2]; omega) (by unfold maxLen; omega) (Nat.le_refl _) ?_))
    intro w1 hown1 hg1
    have hb1 : Below w.heap.size w w1 := (Below.refl _ _).grown hg1 (Nat.le_refl _) (by simp)
    have HC := Lib.hid ((readAnswers_any HAN.out A c _ (-1) w.heap.size 0 _ _ [] w1 (Nat.le_refl _) (by omega) (by omega) (HR.out.below hb1) hb1.size hown1 rfl (by have := HLW.out; omega)).mono fun _ _ h => RoPost.of h hb1)
    rw [List.nil_append, ← HD.out] at HC
    clear hown1 hg1 hb1
    go_wp2_with (go_at_call 45; (with_reducible refine HC.out.mono ?_); rintro e w7 ⟨A7, c7, rfl, hown7, hb7⟩)
    have HE := Lib.hid (show iRes w (ordL zs) (.returned (.slice A7 (ordL zs).length c7)) w7 from iRes_row hown7 rfl hb7)
    clear hown7 hb7
    go_ret
    exact HE.out
  · have hv' : ansB zs = false := by simpa using hv
    have HD := Lib.hid (ordL_no hv')
    rw [hv'] at H
    clear hv hv'
    go_enter Try.func22, Try.ntmps22
    go_wp2_with (go_at_call 44; (with_reducible refine H.out.mono ?_); rintro e w' ⟨rfl, rfl⟩)
    go_ret
    exact iRes.none HD.out (Below.refl _ _)
end Go.Proofs.Ytldbefmiabgkhaa
