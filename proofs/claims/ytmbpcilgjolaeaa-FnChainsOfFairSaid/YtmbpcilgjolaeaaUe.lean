/- Rates: draws; laws.flipped, laws.rowsAtMost. No condition. -/
import Derived.Test.YtmbpcilgjolaeaaUd
import Derived.Test.YtmbpcilgjolaeaaEqR
import Derived.Test.YtmbpcilgjolaeaaEx
namespace Go.Proofs.Ytmbpcilgjolaeaa
open Go.RowKit

/-- What is drawn. -/
def DrR (w : World) (A : Option Addr) (c : Nat) (rs : List (List Int)) (w' : World) : Prop :=
  (1 ≤ rs.length ∧ rs.length ≤ 6) ∧ rs.length ≤ c ∧ (∀ r ∈ rs, r.length ≤ 1000000000) ∧ Grid w' 0 w'.heap.size A rs ∧ Below w.heap.size w w'
def DrE (w : World) (e : Ending) (w' : World) : Prop := ∃ (A : Option Addr) (c : Nat) (rs : List (List Int)), e = .returned (.slice A rs.length c) ∧ DrR w A c rs w'

theorem rtDrawn_ret {w w1 w2 : World} {p : Nat} {e : Ending} (hb1 : Below w.heap.size w w1) {g : Nat} (hg0 : w.heap.size ≤ g) (h : RtDrawn w1 g p e w2) : DrE w e w2 := by
  obtain ⟨A2, c2, rs, rfl, h6, hc, htw, hm, _, hg⟩ := h
  exact ⟨A2, c2, rs, rfl, h6, hc, fun r hr => by have := htw r hr; omega, hm.row, hb1.grown hg hb1.size (fun k hk => by injection hk with hk; omega)⟩

set_option maxRecDepth 100000 in
theorem drawValidRates_any (A : Option Addr) (c : Nat) (zs : List Int) (w : World) (hr : Own w 0 w.heap.size A (zs.map (Value.int .u8))) (hx : zs.length ≤ c ∧ c ≤ maxLen ∧ ∀ z ∈ zs, (Lit.int .u8 z).wf = true) :
    Calls Try.prog 33 #[.slice A zs.length c] w (DrE w) := by
  have H := Lib.hid hx
  clear hx
  go_enter Try.func33, Try.ntmps33
  go_wp2_with fail
  refine (newReader_any _ _ _ _ hr H.out).mono ?_
  rintro e w1 ⟨rfl, hrd, hb1⟩
  go_wp2_with fail
  refine (someRates_any _ 0 _ hrd (by omega)).mono ?_
  rintro e w2 hp
  obtain ⟨A2, c2, rs, rfl, hq⟩ := rtDrawn_ret hb1 (Nat.le_refl _) hp
  clear hp
  go_wp2_with fail
  go_ret
  exact ⟨A2, c2, rs, rfl, hq⟩
set_option maxRecDepth 100000 in
theorem drawCheapestOf_any (A : Option Addr) (c : Nat) (zs : List Int) (w : World) (hr : Own w 0 w.heap.size A (zs.map (Value.int .u8))) (hx : zs.length ≤ c ∧ c ≤ maxLen ∧ ∀ z ∈ zs, (Lit.int .u8 z).wf = true) :
    Calls Try.prog 35 #[.slice A zs.length c] w (DrE w) := by
  have H := Lib.hid hx
  clear hx
  go_enter Try.func35, Try.ntmps35
  go_wp2_with fail
  refine (newReader_any _ _ _ _ hr H.out).mono ?_
  rintro e w1 ⟨rfl, hrd, hb1⟩
  go_wp2_with fail
  refine (someRates_any _ 0 _ hrd (by omega)).mono ?_
  rintro e w2 hp
  obtain ⟨A2, c2, rs, rfl, hq⟩ := rtDrawn_ret hb1 (Nat.le_refl _) hp
  clear hp
  go_wp2_with fail
  go_ret
  exact ⟨A2, c2, rs, rfl, hq⟩
set_option maxRecDepth 100000 in
theorem drawIsFair_any (A : Option Addr) (c : Nat) (zs : List Int) (w : World) (hr : Own w 0 w.heap.size A (zs.map (Value.int .u8))) (hx : zs.length ≤ c ∧ c ≤ maxLen ∧ ∀ z ∈ zs, (Lit.int .u8 z).wf = true) :
    Calls Try.prog 38 #[.slice A zs.length c] w (DrE w) := by
  have H := Lib.hid hx
  clear hx
  go_enter Try.func38, Try.ntmps38
  go_wp2_with fail
  refine (newReader_any _ _ _ _ hr H.out).mono ?_
  rintro e w1 ⟨rfl, hrd, hb1⟩
  go_wp2_with fail
  refine (someRates_any _ 0 _ hrd (by omega)).mono ?_
  rintro e w2 hp
  obtain ⟨A2, c2, rs, rfl, hq⟩ := rtDrawn_ret hb1 (Nat.le_refl _) hp
  clear hp
  go_wp2_with fail
  go_ret
  exact ⟨A2, c2, rs, rfl, hq⟩

set_option maxRecDepth 100000 in
set_option maxHeartbeats 4000000 in
theorem flipped_any (A : Option Addr) (c n : Nat) (D : Nat → Nat → Int) (w : World) (hr : Grid w 0 w.heap.size A (mat n D)) (hn1 : 1 ≤ n) (hn5 : n ≤ 5) :
    Calls Try.prog 34 #[.slice A n c] w (gRes w (mat n (fun i k => D k i))) := by
  obtain ⟨i0, hi0, hz0, hz1, hz2⟩ := info_parts Try.infoR
  obtain ⟨i3, hi3, hy0, hy1, hy2⟩ := info_parts Try.info3
  obtain ⟨bA, oA, p, q, cc, rfl, hsq⟩ := hr.sq (by omega)
  have HSQ := Lib.hid hsq
  obtain ⟨T, hT⟩ : ∃ T : Nat → Nat → Int, (fun i k => D k i) = T := ⟨_, rfl⟩
  have HTD := Lib.hid (fun i k => show T i k = D k i by rw [← hT])
  rw [hT]
  clear hr hsq hT
  go_enter Try.func34, Try.ntmps34
  go_wp2_with fail
  go_loopw [3, 4] (fun v i wr => ∃ (s : Nat) (H : Option Addr) (cH : Nat) (hs : List Value), s ≤ n ∧ i = .int .i64 s ∧ v = .slice H s cH ∧ Hid (Built wr w.heap.size H cH hs (rowsTo n s T)) ∧ Below w.heap.size w wr) (fun _ i _ => n - (intOf i).toNat)
  case atStart => exact ⟨0, _, 0, [], by omega, rfl, rfl, Lib.hid (Built.start w _ (Nat.le_refl _)), (Below.refl _ _).alloc (Nat.le_refl _) _⟩
  case round =>
    obtain ⟨s, H, cH, hs, hsN, rfl, rfl, HT, hbr⟩ := hrel
    have HBR := Lib.hid hbr
    have hbz := hbr.size
    obtain ⟨_, hall⟩ := HSQ.out.below hbr
    obtain ⟨z1, _, _⟩ := hall 0 (by omega)
    clear hbr hall
    rw [Nat.add_zero] at z1
    have hn0 : (0 : Int) < n := by omega
    by_cases hlt : s < n
    · have HFI := Lib.hid (show (wr.alloc (.cells #[] 3)).ownsRow wr.heap.size 3 1 (.slice (some ⟨wr.heap.size, 0, none⟩) 0 0) 0 [] from World.ownsRow_lit wr #[] 0 (Nat.le_refl _) (by simp [maxLen]) rfl)
      obtain ⟨wA, hwA⟩ : ∃ wA : World, wA = wr := ⟨_, rfl⟩
      subst hwA
      go_wp2_with fail
      go_loopw [5, 6] (fun v i wr => ∃ (k : Nat) (R : Option Addr) (cR : Nat), k ≤ n ∧ i = .int .i64 k ∧ v = .slice R k cR ∧ Hid (wr.ownsRow wA.heap.size 3 1 (.slice R k cR) k ((tab k (T s)).map (Value.int .i64))) ∧ Below wA.heap.size wA wr) (fun _ i _ => n - (intOf i).toNat)
      case atStart => exact ⟨0, _, 0, by omega, rfl, rfl, Lib.hid HFI.out, (Below.refl _ _).alloc (Nat.le_refl _) _⟩
      case round =>
        obtain ⟨k, R, cR, hk, rfl, rfl, HR, hbr2⟩ := hrel
        have HBR2 := Lib.hid hbr2
        have hbz2 := hbr2.size
        clear hbr2 HFI z1
        by_cases hlt2 : k < n
        · obtain ⟨_, hall⟩ := HSQ.out.below (HBR.out.trans (HBR2.out.mono hbz))
          obtain ⟨x1, _, x3⟩ := hall k hlt2
          have x5 := x3 s hlt
          rw [← HTD.out s k] at x5
          obtain ⟨u, hu⟩ : ∃ u, T s k = u := ⟨_, rfl⟩
          rw [hu] at x5
          have HU := Lib.hid hu
          have hown := HR.out
          have i1 : (0 : Int) ≤ s := by omega
          have i2 : (s : Int) < n := by omega
          clear hall x3 hu
          go_wp2_with (first | (at_builtin; refine wpList_push rfl (.tmp 23) (.tmp 31) 27 rfl i3 (.int .i64 0) 8 Try.underlying27 hi3 hy0 hy1 hy2 rfl (by decide) _ _ rfl hown [.int .i64 u] rfl rfl (by simp [Value.oneCell']) (by omega) (by omega) hbz2 ?_))
          intro R' cR' w6 hown6 hg6
          have HW := Lib.hid (And.intro hown6 (HBR2.out.grown hg6 hbz2 (fun i hi => (hown.lt _ hi).1)))
          clear hown hown6 hg6
          go_wp2_with fail
          go_roundw
          case rel => exact ⟨k + 1, R', cR', by omega, by go_num, rfl, Lib.hid (by rw [tab_more, HU.out, List.map_append]; exact HW.out.1), HW.out.2⟩
          case measure => simp [intOf]; omega
        · have hkk : k = n := by omega
          subst hkk
          have hBk := HT.out.keep HBR2.out
          have hownC : wr.ownsRow w.heap.size 27 1 (.slice H s cH) s hs := by have := hBk.1; rwa [rowsTo_len] at this
          have HCAP := Lib.hid (own_cap HR.out)
          have hbzB : w.heap.size ≤ wr.heap.size := Nat.le_trans hbz hbz2
          clear hBk
          go_wp2_with (at_builtin; refine wpList_push_at rfl (.tmp 33) (.tmp 35) 22 rfl i0 (.slice none 0 0) 24 Try.underlying22 hi0 hz0 hz1 hz2 rfl (by decide) _ _ rfl hownC [.slice R k cR] rfl rfl (by simp [Value.oneCell']) (by omega) (by omega) (by omega) ?_)
          intro H' cH' wd hownD hgD hat
          have hrl : (tab k (T s)).length = k := tab_length _ _
          have hTs := rowsTo_len k s T
          have hbuilt := Built.push (R := R) (cR := cR) (r := tab k (T s)) HT.out hbz HBR2.out (own_row_cells HR.out) (by rw [hrl]; exact HCAP.out) (by rw [hTs, hrl]; exact hownD) (by rw [hTs]; exact hgD) (by rcases hat with h | h; exact .inl h; exact .inr (by simpa using h))
          rw [← rowsTo_more] at hbuilt
          have hbwd : Below w.heap.size w wd := (HBR.out.trans (HBR2.out.mono hbz)).grown hgD hbzB (fun i hi => (hownC.lt _ hi).1)
          have HEND := Lib.hid (And.intro hbuilt hbwd)
          clear hrl hTs hbuilt hbwd hownD hgD hat hownC
          go_wp2_with fail
          go_roundw
          case rel => exact ⟨s + 1, H', cH', _, by omega, by go_num, rfl, Lib.hid HEND.out.1, HEND.out.2⟩
          case measure => simp [intOf]; omega
    · have hsn : n = s := by omega
      subst hsn
      have hcap := HT.out.cap
      rw [rowsTo_len] at hcap
      have HMG := Lib.hid HT.out.mgrid
      have HCAP := Lib.hid hcap
      clear hcap HT
      go_wp2_with fail
      go_ret
      exact ⟨H, cH, by rw [mat_len]; rfl, by rw [mat_len]; exact HCAP.out, HMG.out, HBR.out⟩

set_option maxRecDepth 100000 in
set_option maxHeartbeats 4000000 in
theorem rowsAtMost_yes (A B : Option Addr) (c d n : Nat) (D E : Nat → Nat → Int) (w : World) (hr : Grid w 0 w.heap.size A (mat n D)) (hs : Grid w 0 w.heap.size B (mat n E)) (hn1 : 1 ≤ n) (hn5 : n ≤ 5) (hle : AtMost n D E) :
    Calls Try.prog 37 #[.slice A n c, .slice B n d] w fun e w' => e = .returned (.bool true) ∧ Below w.heap.size w w' := by
  obtain ⟨bA, oA, p, q, cc, rfl, hsq⟩ := hr.sq (by omega)
  obtain ⟨bB, oB, p2, q2, cc2, rfl, hsq2⟩ := hs.sq (by omega)
  have HSQ := Lib.hid hsq
  have HSQ2 := Lib.hid hsq2
  have HLE := Lib.hid hle
  clear hr hs hsq hsq2 hle
  go_enter Try.func37, Try.ntmps37
  go_wp2_with fail
  go_loopw [5] (fun v wr => ∃ i : Nat, i ≤ n ∧ v = .int .i64 i ∧ ∃ k, wr = w.drewN k) (fun v _ => n - (intOf v).toNat)
  case atStart => exact ⟨0, by omega, rfl, 0, rfl⟩
  case round =>
    obtain ⟨i, hi, rfl, hd⟩ := hrel
    have HD := Lib.hid hd
    clear hd
    by_cases hli : i < n
    · go_wp2_with fail
      go_loopw [6] (fun v wr => ∃ k : Nat, k ≤ n ∧ v = .int .i64 k ∧ ∃ k, wr = w.drewN k) (fun v _ => n - (intOf v).toNat)
      case atStart => exact ⟨0, by omega, rfl, HD.out⟩
      case round =>
        clear HD
        obtain ⟨k, hk, rfl, hd⟩ := hrel
        have HD := Lib.hid hd
        have hs2 : Sq wr w.heap.size bA oA n p q cc D ∧ Sq wr w.heap.size bB oB n p2 q2 cc2 E := by obtain ⟨kk, rfl⟩ := hd; exact ⟨HSQ.out.below (drewBelow _ _), HSQ2.out.below (drewBelow _ _)⟩
        clear hd
        obtain ⟨⟨_, hall⟩, ⟨_, hall2⟩⟩ := hs2
        obtain ⟨x1, _, x3⟩ := hall i hli
        obtain ⟨y1, _, y3⟩ := hall2 i hli
        have i1 : (0 : Int) ≤ i := by omega
        have i2 : (i : Int) < n := by omega
        by_cases hlk : k < n
        · have x4 := x3 k hlk
          have y4 := y3 k hlk
          have hle := HLE.out i k hli hlk
          obtain ⟨r, hrr⟩ : ∃ r, D i k = r := ⟨_, rfl⟩
          obtain ⟨s, hss⟩ : ∃ s, E i k = s := ⟨_, rfl⟩
          rw [hrr] at x4 hle
          rw [hss] at y4 hle
          have i5 : (0 : Int) ≤ k := by omega
          have i6 : (k : Int) < n := by omega
          have hdl : decide (s < r) = false := decide_eq_false (by omega)
          clear hall hall2 x3 y3 hrr hss hle
          go_wp2_with fail
          go_quiet (fail)
          go_wp2_with fail
          go_roundw
          case rel => exact ⟨k + 1, by omega, by go_num, by obtain ⟨kk, hkk⟩ := HD.out; rw [hkk]; exact ⟨_, World.drewN_drewN ..⟩⟩
          case measure => simp [intOf]; omega
        · have hkk : k = n := by omega
          subst hkk
          clear hall hall2 x3 y3
          go_wp2_with fail
          go_roundw
          case rel => exact ⟨i + 1, by omega, by go_num, HD.out⟩
          case measure => simp [intOf]; omega
    · have hii : i = n := by omega
      subst hii
      go_wp2_with fail
      go_ret
      exact ⟨by simp, by obtain ⟨kk, hkk⟩ := HD.out; rw [hkk]; exact drewBelow _ _⟩
end Go.Proofs.Ytmbpcilgjolaeaa
