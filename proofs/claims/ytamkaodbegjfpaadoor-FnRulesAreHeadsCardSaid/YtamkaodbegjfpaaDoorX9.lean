/- Shadowed rules by impl: kindBehind, the closure, IndexFunc and ContainsFunc, ShadowedOf. No condition. -/
import Derived.Test.YtamkaodbegjfpaaDoorX8
namespace Go.Proofs.YtamkaodbegjfpaaDoor
open Go.RowKit

def kindV (g h : ByteArray) : Int := if bg h g = true then 2 else if bg g h = true then 1 else 0
theorem kind_two (g h : ByteArray) : (kindV g h == 2) = bg h g := by
  unfold kindV
  by_cases h1 : bg h g = true
  · rw [if_pos h1, h1]; rfl
  · have : bg h g = false := by simpa using h1
    rw [if_neg h1, this]
    split <;> rfl
set_option maxRecDepth 100000 in
set_option maxHeartbeats 1000000 in
theorem kindBehind_any (g h : ByteArray) (m n : Int) (w : World) :
    Calls Tryd.prog 15 #[.agg #[.string g, .int .i64 m], .agg #[.string h, .int .i64 n]] w fun e w' => e = .returned (.int .i64 (kindV g h)) ∧ Below w.heap.size w w' := by
  have hp1 := fun X => Tryd.strings_HasPrefix h g X
  have hp2 := fun X => Tryd.strings_HasPrefix g h X
  rw [bg_prefix] at hp1 hp2
  have HK := Lib.hid (show kindV g h = if bg h g = true then 2 else if bg g h = true then 1 else 0 from rfl)
  obtain ⟨q1, hq1⟩ : ∃ q, bg h g = q := ⟨_, rfl⟩
  obtain ⟨q2, hq2⟩ : ∃ q, bg g h = q := ⟨_, rfl⟩
  rw [hq1] at hp1 HK
  rw [hq2] at hp2 HK
  have HP1 := Lib.hid hp1
  have HP2 := Lib.hid hp2
  clear hp1 hp2 hq1 hq2
  go_enter Tryd.func15, Tryd.ntmps15
  go_wp2_with fail
  refine (HP1.out _).mono ?_
  rintro e w1 ⟨rfl, rfl⟩
  cases q1 with
  | true =>
    have HE := Lib.hid (show kindV g h = 2 by rw [HK.out]; rfl)
    go_wp2
    go_ret
    exact ⟨ret_int HE.out.symm, ((Below.refl _ _).alloc (Nat.le_refl _) _).alloc (by simp) _⟩
  | false =>
    go_wp2_with fail
    refine (HP2.out _).mono ?_
    rintro e w1 ⟨rfl, rfl⟩
    cases q2 with
    | true =>
      have HE := Lib.hid (show kindV g h = 1 by rw [HK.out]; rfl)
      go_wp2
      go_ret
      exact ⟨ret_int HE.out.symm, ((Below.refl _ _).alloc (Nat.le_refl _) _).alloc (by simp) _⟩
    | false =>
      have HE := Lib.hid (show kindV g h = 0 by rw [HK.out]; rfl)
      go_wp2
      go_ret
      exact ⟨ret_int HE.out.symm, ((Below.refl _ _).alloc (Nat.le_refl _) _).alloc (by simp) _⟩

set_option maxRecDepth 100000 in
theorem shadow1_any (g h : ByteArray) (m n : Int) (bp : Nat) (w : World) (h1 : w.cell? ⟨bp, 0, none⟩ = some (.string h)) (h2 : w.cell? ⟨bp, 1, none⟩ = some (.int .i64 n)) (hb : bp < w.heap.size) :
    Calls Tryd.prog 14 #[.agg #[.string g, .int .i64 m], .pointer (some ⟨bp, 0, none⟩)] w fun e w' => e = .returned (.bool (bg h g)) ∧ Below w.heap.size w w' := by
  have hk := fun X => kindBehind_any g h m n X
  have HE := Lib.hid (kind_two g h)
  obtain ⟨k, hke⟩ : ∃ k, kindV g h = k := ⟨_, rfl⟩
  rw [hke] at hk HE
  have HK := Lib.hid hk
  have b0 : Below w.heap.size w (w.alloc (.cells #[.string g, .int .i64 m] 30)) := (Below.refl _ _).alloc (Nat.le_refl _) _
  have g1 := cell_stay b0 hb h1
  have g2 := cell_stay b0 hb h2
  obtain ⟨q, hq⟩ : ∃ q, bg h g = q := ⟨_, rfl⟩
  rw [hq] at HE
  rw [hq]
  clear hk hke hq
  go_enter Tryd.func14, Tryd.ntmps14
  go_wp2_with fail
  refine (HK.out _).mono ?_
  rintro e w1 ⟨rfl, b1⟩
  have HB := Lib.hid (b0.trans (b1.mono b0.size))
  clear b1 b0 g1 g2 h1 h2
  have hq2 := HE.out
  go_wp2
  go_ret
  exact ⟨rfl, HB.out⟩

set_option maxRecDepth 100000 in
set_option maxHeartbeats 2000000 in
theorem indexShadow_any (A : Option Addr) (c n : Nat) (rs : List (ByteArray × Int)) (h : ByteArray) (f : Int) (bp : Nat) (w : World) (hr : Own w 0 w.heap.size A (flat rs)) (hn : n ≤ rs.length) (hl : rs.length ≤ 1048576) (h1 : w.cell? ⟨bp, 0, none⟩ = some (.string h)) (h2 : w.cell? ⟨bp, 1, none⟩ = some (.int .i64 f)) (hb : bp < w.heap.size) :
    Calls Tryd.prog 27 #[.slice A n c, .func (Fn.func 14) #[] #[.pointer (some ⟨bp, 0, none⟩)]] w
      fun e w' => (∃ i : Int, e = .returned (.int .i64 i) ∧ decide (0 ≤ i) = hit (rs.take n) h) ∧ Below w.heap.size w w' := by
  have HR := Lib.hid (And.intro hr (And.intro h1 h2))
  clear hr h1 h2
  go_enter Tryd.func27, Tryd.ntmps27
  go_wp2
  go_loopw [8] (fun i wr => ∃ k : Nat, k ≤ n ∧ i = .int .i64 k ∧ hit (rs.take k) h = false ∧ Below w.heap.size w wr) (fun i _ => n - (intOf i).toNat)
  case atStart => exact ⟨0, by omega, rfl, rfl, Below.refl _ _⟩
  case round =>
    obtain ⟨k, hk, rfl, hall, hbw⟩ := hrel
    have HA := Lib.hid hall
    have HBW := Lib.hid hbw
    have hWz := hbw.size
    obtain ⟨W, hW⟩ : ∃ W : World, W = wr := ⟨_, rfl⟩
    subst hW
    clear hall
    by_cases hlt : k < n
    · have hkl : k < rs.length := by omega
      obtain ⟨b, o, rfl, hb', hc⟩ := (HR.out.1.below hbw).open (by rw [flat_length]; omega)
      obtain ⟨hc1, hc2⟩ := routes_at hc hkl
      have hsh := fun g m => shadow1_any g h m f bp W (cell_stay hbw hb HR.out.2.1) (cell_stay hbw hb HR.out.2.2) (by omega)
      have HTK := Lib.hid (hit_take (m := h) hkl)
      obtain ⟨g, hge⟩ : ∃ g, rs[k].1 = g := ⟨_, rfl⟩
      obtain ⟨m, hme⟩ : ∃ m, rs[k].2 = m := ⟨_, rfl⟩
      rw [hge] at hc1 HTK
      rw [hme] at hc2
      have hsh2 := hsh g m
      obtain ⟨q, hq⟩ : ∃ q, bg h g = q := ⟨_, rfl⟩
      rw [hq] at hsh2 HTK
      have HS := Lib.hid hsh2
      have hkI : (k : Int) < n := by omega
      have hk0 : (0 : Int) ≤ (k : Int) := by omega
      clear hc hsh hsh2 hge hme hq hbw
      cases q with
      | true =>
        have HT := Lib.hid (show hit (rs.take n) h = true by
          have h3 : hit (rs.take (k + 1)) h = true := by rw [HTK.out, HA.out]; rfl
          have h4 : rs.take n = rs.take (k + 1) ++ (rs.take n).drop (k + 1) := by
            conv => lhs; rw [← List.take_append_drop (k + 1) (rs.take n)]
            rw [List.take_take, Nat.min_eq_left (by omega)]
          rw [h4, hit_append, h3]; rfl)
        go_wp2_with (go_at_call 14; refine HS.out.mono ?_; rintro e w2 ⟨rfl, b2⟩; have HB2 := Lib.hid (HBW.out.trans (b2.mono hWz)); clear b2)
        go_ret
        exact ⟨⟨_, rfl, by rw [HT.out]; exact decide_eq_true (by omega)⟩, HB2.out⟩
      | false =>
        go_wp2_with (go_at_call 14; refine HS.out.mono ?_; rintro e w2 ⟨rfl, b2⟩; have HB2 := Lib.hid (HBW.out.trans (b2.mono hWz)); clear b2)
        go_roundw
        case rel => exact ⟨k + 1, by omega, by go_num, by rw [HTK.out, HA.out]; rfl, HB2.out⟩
        case measure => simp [intOf]; omega
    · have hk' : k = n := by omega
      subst hk'
      clear hbw
      go_wp2
      go_ret
      exact ⟨⟨_, rfl, by rw [HA.out]; rfl⟩, HBW.out⟩

set_option maxRecDepth 100000 in
theorem containsShadow_any (A : Option Addr) (c n : Nat) (rs : List (ByteArray × Int)) (h : ByteArray) (f : Int) (bp : Nat) (w : World) (hr : Own w 0 w.heap.size A (flat rs)) (hn : n ≤ rs.length) (hl : rs.length ≤ 1048576) (h1 : w.cell? ⟨bp, 0, none⟩ = some (.string h)) (h2 : w.cell? ⟨bp, 1, none⟩ = some (.int .i64 f)) (hb : bp < w.heap.size) :
    Calls Tryd.prog 13 #[.slice A n c, .func (Fn.func 14) #[] #[.pointer (some ⟨bp, 0, none⟩)]] w
      fun e w' => e = .returned (.bool (hit (rs.take n) h)) ∧ Below w.heap.size w w' := by
  have hix := indexShadow_any A c n rs h f bp w hr hn hl h1 h2 hb
  obtain ⟨q, hq⟩ : ∃ q, hit (rs.take n) h = q := ⟨_, rfl⟩
  rw [hq] at hix
  rw [hq]
  have HIX := Lib.hid hix
  clear hix hq hr h1 h2
  go_enter Tryd.func13, Tryd.ntmps13
  go_wp2_with fail
  refine HIX.out.mono ?_
  rintro e w1 ⟨⟨i, rfl, hi⟩, hb1⟩
  have HB := Lib.hid hb1
  clear hb1
  go_wp2
  go_ret
  exact ⟨rfl, HB.out⟩

theorem slice_uptoU (A : Option Addr) (n c j : Nat) (h : j ≤ c) (ha : A = none → c = 0) (W : World) :
    (Instr.slice 23 (.slice A n c) none (some (.int .i64 (j : Int))) none).run Tryd.prog W = .ok (.slice A j c) W := by
  have h1 : (0 : Int) ≤ (j : Int) := by omega
  have h2 : (j : Int) ≤ (c : Int) := by omega
  cases A with
  | none =>
    have hc := ha rfl
    subst hc
    have hj : j = 0 := by omega
    subst hj
    go_simp
  | some a => go_simp

set_option maxRecDepth 100000 in
set_option maxHeartbeats 4000000 in
theorem impShadowedOf_any (A : Option Addr) (c : Nat) (rs : List (ByteArray × Int)) (w : World) (hr : Own w 0 w.heap.size A (flat rs)) (hlc : rs.length ≤ c) (hs : ∀ r ∈ rs, r.1.size ≤ 1048576) :
    Calls Tryd.prog 6 #[.slice A rs.length c] w (uRes w (shadR rs)) := by
  obtain ⟨i0, hi0, hz0, hz1, hz2⟩ := info_parts Tryd.info3
  have hva := impValidRules_any A c rs w hr (fun r h => Nat.le_trans (hs r h) (by omega))
  by_cases hv : rulesB rs = true
  · have h7 := rulesB_len hv
    have HR := Lib.hid (show shadR rs = shadT rs rs.length by rw [shadR, if_pos hv])
    rw [hv] at hva
    have HVA := Lib.hid hva
    rw [HR.out]
    clear hva hv hs
    go_enter Tryd.func6, Tryd.ntmps6
    go_wp2_with fail
    refine HVA.out.mono ?_
    rintro e w1 ⟨rfl, b1⟩
    have hz1' := b1.size
    have HB1 := Lib.hid b1
    clear b1
    go_wp2
    go_loopw [3, 11] (fun v i wr => ∃ (n : Nat) (H : Option Addr) (cH : Nat), n ≤ rs.length ∧ i = .int .i64 n ∧ v = .slice H (shadT rs n).length cH ∧ wr.ownsRow w.heap.size 3 1 (.slice H (shadT rs n).length cH) (shadT rs n).length ((shadT rs n).map (Value.int .i64)) ∧ Below w.heap.size w wr) (fun _ i _ => rs.length - (intOf i).toNat)
    case atStart => exact ⟨0, none, 0, by omega, rfl, rfl, World.ownsRow_nil .., HB1.out⟩
    case round =>
      obtain ⟨n, H, cH, hn, rfl, rfl, hown, hbr⟩ := hrel
      have HBR := Lib.hid hbr
      have hbz := hbr.size
      have hshl := shadT_len rs n
      obtain ⟨W, hW⟩ : ∃ W : World, W = wr := ⟨_, rfl⟩
      subst hW
      have HO2 := Lib.hid (fun (X : World) (h : Below W.heap.size W X) => ownU_below hown h)
      obtain ⟨L, hL⟩ : ∃ L, (shadT rs n).length = L := ⟨_, rfl⟩
      have HL := Lib.hid hL
      rw [hL] at hshl HO2
      rw [hL]
      clear hL hown hbr
      by_cases hlt : n < rs.length
      · have HSA := Lib.hid (fun s hs => shad_hit (rs := rs) (i := n) hlt (s := s) hs)
        have HRW := Lib.hid (hr.below HBR.out)
        obtain ⟨b, o, rfl, hb, hc⟩ := HRW.out.open (by rw [flat_length]; omega)
        obtain ⟨hc1, hc2⟩ := routes_at hc hlt
        obtain ⟨s, hse⟩ : ∃ s, rs[n].1 = s := ⟨_, rfl⟩
        obtain ⟨f, hfe⟩ : ∃ f, rs[n].2 = f := ⟨_, rfl⟩
        rw [hse] at hc1
        rw [hfe] at hc2
        have HSH := Lib.hid (HSA.out s hse)
        have hnI : (n : Int) < rs.length := by omega
        have hn0 : (0 : Int) ≤ (n : Int) := by omega
        have hnc : (n : Int) ≤ (c : Int) := by omega
        have hsl := slice_uptoU (some ⟨b, o, none⟩) rs.length c n (by omega) (fun h => by cases h)
        have hba : Below W.heap.size W (W.alloc (.cells #[.string s, .int .i64 f] 30)) := (Below.refl _ _).alloc (Nat.le_refl _) _
        have hct := containsShadow_any (some ⟨b, o, none⟩) c n rs s f W.heap.size (W.alloc (.cells #[.string s, .int .i64 f] 30)) ((HRW.out.below (hba.mono hbz)).more (by simp; omega)) hn (by omega)
          (by rw [World.cell?_alloc_at _ _ _ _ rfl]; rfl) (by rw [World.cell?_alloc_at _ _ _ _ rfl]; rfl) (by simp)
        rw [← HSH.out] at hct
        obtain ⟨F, hF⟩ : ∃ F, shad rs n = F := ⟨_, rfl⟩
        have HF := Lib.hid hF
        rw [hF] at hct
        have HCT := Lib.hid hct
        have HBA := Lib.hid hba
        clear hc hse hfe HSA hct hF hba
        cases F with
        | true =>
          have HY := Lib.hid (shad_yes HF.out)
          go_wp2_with (first | (go_at_call 13; refine HCT.out.mono ?_; rintro e w2 ⟨rfl, b2⟩; have hbX := HBA.out.trans (b2.mono HBA.out.size); have hownX := HO2.out w2 hbX; have HBX := Lib.hid (HBR.out.trans (hbX.mono hbz)); clear b2 hbX) | (at_builtin; refine wpList_push rfl (.tmp 21) (.tmp 23) 26 rfl i0 (.int .i64 0) 8 Tryd.underlying26 hi0 hz0 hz1 hz2 rfl (by decide) _ _ rfl hownX [.int .i64 (n : Int)] rfl rfl (by simp [Value.oneCell']) (by omega) (by omega) HBX.out.size ?_; intro H' c' w5 hown5 hg5; have HW := Lib.hid (And.intro hown5 (HBX.out.grown hg5 HBX.out.size (fun i hi => (hownX.lt _ hi).1))); clear hownX hown5 hg5))
          go_roundw
          case rel =>
            have e : (shadT rs (n + 1)).length = L + 1 := by rw [HY.out, List.length_append, HL.out]; rfl
            refine ⟨n + 1, H', c', by omega, by go_num, by rw [e], ?_, HW.out.2⟩
            rw [e, HY.out, List.map_append]
            exact HW.out.1
          case measure => simp [intOf]; omega
        | false =>
          have HN := Lib.hid (shad_no (rs := rs) (n := n) (by rw [HF.out]; simp))
          go_wp2_with (first | (go_at_call 13; refine HCT.out.mono ?_; rintro e w2 ⟨rfl, b2⟩; have hbX := HBA.out.trans (b2.mono HBA.out.size); have hownX := HO2.out w2 hbX; have HBX := Lib.hid (HBR.out.trans (hbX.mono hbz)); clear b2 hbX))
          have HW := Lib.hid (And.intro hownX HBX.out)
          clear hownX
          go_roundw
          case rel =>
            have e : (shadT rs (n + 1)).length = L := by rw [HN.out, HL.out]
            refine ⟨n + 1, H, cH, by omega, by go_num, by rw [e], ?_, HW.out.2⟩
            rw [e, HN.out]
            exact HW.out.1
          case measure => simp [intOf]; omega
      · have hn' : n = rs.length := by omega
        subst hn'
        have HFIN := Lib.hid (uRes_row (V := shadT rs rs.length) (HO2.out W (Below.refl _ _)) HL.out.symm HBR.out)
        go_wp2
        go_ret
        exact HFIN.out
  · have hv' : rulesB rs = false := by simpa using hv
    have HR := Lib.hid (show shadR rs = [] by rw [shadR, if_neg hv])
    rw [hv'] at hva
    have HVA := Lib.hid hva
    clear hva hv hv' hs
    go_enter Tryd.func6, Tryd.ntmps6
    go_wp2_with fail
    refine HVA.out.mono ?_
    rintro e w1 ⟨rfl, b1⟩
    have HB1 := Lib.hid b1
    clear b1
    go_wp2
    go_ret
    exact uRes.none HR.out HB1.out
end Go.Proofs.YtamkaodbegjfpaaDoor
