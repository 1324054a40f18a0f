/- BestPair, both sides. No condition. -/
import Derived.Test.YtookdmdlpglbcabZc
import Derived.Test.YtookdmdlpglbcabYy
import Derived.Test.YtookdmdlpglbcabN9i
namespace Go.Proofs.Ytookdmdlpglbcab
open Go.RowKit

def pL (p : Nat × Nat) : List Int := [(p.1 : Int), (p.2 : Int)]
theorem pL_in {p : Nat × Nat} (h : okP p) : ∀ s ∈ pL p, 1 ≤ s ∧ s ≤ 12 := by
  intro s hs
  obtain ⟨h1, h2, h3⟩ := h
  simp only [pL, List.mem_cons, List.not_mem_nil, or_false] at hs
  omega
theorem pL_up {p : Nat × Nat} (h : okP p) : ∀ s ∈ pL p, s ≤ (pL p).getD ((pL p).length - 1) 0 := by
  intro s hs
  obtain ⟨h1, h2, h3⟩ := h
  simp only [pL, List.mem_cons, List.not_mem_nil, or_false] at hs
  show s ≤ (p.2 : Int)
  omega
/-- The two stamps lie at A. -/
def PairAt (w wr : World) (p : Nat × Nat) (v : Value) : Prop := ∃ A c, v = .slice A 2 c ∧ 2 ≤ c ∧ OwnInts wr w.heap.size wr.heap.size A (pL p)
theorem PairAt.past {w wr w' : World} {p : Nat × Nat} {v : Value} (h : PairAt w wr p v) (hb : Below wr.heap.size wr w') : PairAt w w' p v := by
  obtain ⟨A, c, rfl, hc, ho⟩ := h
  exact ⟨A, c, rfl, hc, ho.past hb⟩
theorem pair_new {w wr : World} (p : Nat × Nat) (h : w.heap.size ≤ wr.heap.size) : PairAt w (wr.alloc (.cells #[.int .i64 (p.1 : Int), .int .i64 (p.2 : Int)] 3)) p (.slice (some ⟨wr.heap.size, 0, none⟩) 2 2) :=
  ⟨_, 2, rfl, Nat.le_refl _, own_block (e := 3) (heap_alloc_new wr _) h⟩
def BestAt (w wr : World) : Option (Nat × Nat) → Value → Prop
  | none, v => v = .slice none 0 0
  | some p, v => PairAt w wr p v
theorem BestAt.past {w wr w' : World} {o : Option (Nat × Nat)} {v : Value} (h : BestAt w wr o v) (hb : Below wr.heap.size wr w') : BestAt w w' o v := by
  cases o with
  | none => exact h
  | some p => exact PairAt.past h hb
theorem iStep_gt {m : Nat} {s : Option (Nat × Nat)} {x : Nat × Nat} (h : iR m s < (rP m x : Int)) : iStep m s x = some x := by
  cases s with
  | none => rfl
  | some p =>
    have h' : (rP m p : Int) < (rP m x : Int) := h
    show some (bStep m p x) = some x
    rw [bStep, if_pos (by omega)]
theorem iStep_le {m : Nat} {s : Option (Nat × Nat)} {x : Nat × Nat} (h : ¬ iR m s < (rP m x : Int)) : iStep m s x = s := by
  cases s with
  | none => exfalso; apply h; show (-1 : Int) < _; omega
  | some p =>
    have h' : ¬ (rP m p : Int) < (rP m x : Int) := h
    show some (bStep m p x) = some p
    rw [bStep, if_neg (by omega)]
theorem impReachP (w wr : World) {p : Nat × Nat} (h : okP p) {m : Nat} (h6 : m ≤ 6) {A : Option Addr} {c : Nat} (ho : OwnInts wr w.heap.size wr.heap.size A (pL p)) :
    Calls Try.prog 46 #[.slice A 2 c, .int .i64 (m : Int)] wr fun e w' => e = .returned (.int .i64 (rP m p : Int)) ∧ Below wr.heap.size wr w' :=
  reachOf_any A c (pL p) m wr ho.row (pL_in h) (by simp [pL]) h6
theorem specReachP (w wr : World) {p : Nat × Nat} (h : okP p) {m : Nat} (h6 : m ≤ 6) {A : Option Addr} {c : Nat} (ho : OwnInts wr w.heap.size wr.heap.size A (pL p)) :
    Calls Try.prog 47 #[.slice A 2 c, .int .i64 (m : Int)] wr fun e w' => e = .returned (.int .i64 (rP m p : Int)) ∧ Below wr.heap.size wr w' :=
  specReach_any A c (pL p) m wr ho.row (pL_in h) (by simp [pL]) (by simp [pL]) (pL_up h) h6

def bpL (most : Int) : List Int := if inR most 1 6 then pL (bestP most.toNat) else []
def bpR (most : Int) : Int := if inR most 1 6 then (bestQ most.toNat : Int) else -1
theorem bpL_yes {m : Nat} (h : inR (m : Int) 1 6 = true) : bpL m = pL (bestP m) := by simp [bpL, h]
theorem bpR_yes {m : Nat} (h : inR (m : Int) 1 6 = true) : bpR m = (bestQ m : Int) := by simp [bpR, h]
theorem bpL_no {r : Int} (h : inR r 1 6 = false) : bpL r = [] := by simp [bpL, h]
theorem bpR_no {r : Int} (h : inR r 1 6 = false) : bpR r = -1 := by simp [bpR, h]
def BpRes (w : World) (q : List Int) (r : Int) (e : Ending) (w' : World) : Prop := ∃ A c, e = .returned (.tuple #[.slice A q.length c, .int .i64 r]) ∧ q.length ≤ c ∧ OwnInts w' w.heap.size w'.heap.size A q ∧ Below w.heap.size w w'

set_option maxRecDepth 100000 in
set_option maxHeartbeats 4000000 in
theorem impBestPair_any (most : Int) (w : World) :
    Calls Try.prog 24 #[.int .i64 most] w (BpRes w (bpL most) (bpR most)) := by
  by_cases hk : inR most 1 6 = true
  · have hkb := inRI.1 hk
    obtain ⟨m, rfl⟩ := Int.eq_ofNat_of_zero_le (show 0 ≤ most by omega)
    have HIR := Lib.hid (fun W => fitsE (m : Int) true hk W)
    have hm6 : m ≤ 6 := by omega
    rw [bpL_yes hk, bpR_yes hk]
    clear hk hkb
    go_enter Try.func24, Try.ntmps24
    go_wp2_with (go_at_call 45; refine (HIR.out _).mono ?_; rintro e w' ⟨rfl, rfl⟩)
    go_loopw [6, 4, 5] (fun i v f wr => ∃ n : Nat, n ≤ 11 ∧ i = .int .i64 ((n + 2 : Nat) : Int) ∧ BestAt w wr (iOut m n) v ∧ f = .int .i64 (iR m (iOut m n)) ∧ Below w.heap.size w wr) (fun i _ _ _ => 14 - (intOf i).toNat)
    case atStart => exact ⟨0, by omega, rfl, rfl, rfl, Below.refl _ _⟩
    case round =>
      obtain ⟨n, hn, rfl, hbest, rfl, hB⟩ := hrel
      obtain ⟨G, hG⟩ : ∃ G, n + 2 = G := ⟨_, rfl⟩
      rw [hG]
      have HG := Lib.hid hG
      have hg2 : 2 ≤ G := by omega
      have HBE := Lib.hid hbest
      have HB := Lib.hid hB
      by_cases hlt : G ≤ 12
      · have hle : (G : Int) ≤ 12 := by omega
        have HN := Lib.hid (show iOut m (n + 1) = iIn m G (G - 1) (iOut m n) by rw [← hG]; rfl)
        obtain ⟨st, hst⟩ : ∃ st, iOut m n = st := ⟨_, rfl⟩
        rw [hst] at HBE HN ⊢
        clear hbest hB hst hG
        go_wp2
        go_loopw [7, 4, 5] (fun i v f wr => ∃ a : Nat, a + 1 ≤ G ∧ i = .int .i64 ((a + 1 : Nat) : Int) ∧ BestAt w wr (iIn m G a st) v ∧ f = .int .i64 (iR m (iIn m G a st)) ∧ Below w.heap.size w wr) (fun i _ _ _ => G - (intOf i).toNat)
        case atStart => exact ⟨0, by omega, rfl, HBE.out, rfl, HB.out⟩
        case round =>
          obtain ⟨a, ha, rfl, hbest, rfl, hB⟩ := hrel
          clear HBE HB
          obtain ⟨l, hl⟩ : ∃ l, a + 1 = l := ⟨_, rfl⟩
          rw [hl]
          have HL := Lib.hid hl
          have HBE := Lib.hid hbest
          have HB := Lib.hid hB
          by_cases hlg : l < G
          · have hlgi : (l : Int) < (G : Int) := by omega
            have HST := Lib.hid (show iIn m G (a + 1) st = iStep m (iIn m G a st) (l, G) by rw [← hl]; rfl)
            obtain ⟨s, hs⟩ : ∃ s, iIn m G a st = s := ⟨_, rfl⟩
            rw [hs] at HBE HST ⊢
            have hsz := hB.size
            have hokp : okP (l, G) := ⟨by show 1 ≤ l; omega, hlg, hlt⟩
            have hpn := pair_new (wr := wr) (l, G) hsz
            obtain ⟨A, c, hv, hc, ho⟩ := hpn
            injection hv with hA hc2 hc3
            have hbl : Below wr.heap.size wr (wr.alloc (.cells #[.int .i64 (l : Int), .int .i64 (G : Int)] 3)) := (Below.refl _ _).alloc (Nat.le_refl _) _
            subst hA
            have HC := Lib.hid (impReachP w _ hokp hm6 (c := 2) ho)
            have HBE2 := Lib.hid (HBE.out.past hbl)
            have HB2 := Lib.hid (HB.out.trans (hbl.mono HB.out.size))
            have HPN := Lib.hid (pair_new (w := w) (wr := wr) (l, G) hsz)
            clear hbest hB hl hs ho hbl hc hc2 hc3 hokp HBE HB
            by_cases hgt : iR m s < (rP m (l, G) : Int)
            · have HE := Lib.hid (iStep_gt hgt)
              obtain ⟨R, hR⟩ : ∃ R : Int, (rP m (l, G) : Int) = R := ⟨_, rfl⟩
              rw [hR] at HC hgt
              have HR := Lib.hid hR
              clear hR
              go_wp2_with (go_at_call 46; refine HC.out.mono ?_; rintro e w4 ⟨rfl, hb4⟩)
              go_roundw
              case rel => exact ⟨a + 1, by have := HL.out; omega, by have := HL.out; go_num, by rw [HST.out, HE.out]; exact PairAt.past HPN.out hb4, by rw [HST.out, HE.out]; show _ = Value.int .i64 (rP m (l, G) : Int); rw [HR.out], HB2.out.trans (hb4.mono HB2.out.size)⟩
              case measure => simp [intOf]; omega
            · have HE := Lib.hid (iStep_le hgt)
              obtain ⟨R, hR⟩ : ∃ R : Int, (rP m (l, G) : Int) = R := ⟨_, rfl⟩
              rw [hR] at HC hgt
              clear hR
              go_wp2_with (go_at_call 46; refine HC.out.mono ?_; rintro e w4 ⟨rfl, hb4⟩)
              go_roundw
              case rel => exact ⟨a + 1, by have := HL.out; omega, by have := HL.out; go_num, by rw [HST.out, HE.out]; exact HBE2.out.past hb4, by rw [HST.out, HE.out], HB2.out.trans (hb4.mono HB2.out.size)⟩
              case measure => simp [intOf]; omega
          · have hll : l = G := by omega
            have hlgi : ¬ (l : Int) < (G : Int) := by omega
            have HA := Lib.hid (show a = G - 1 by omega)
            clear hbest hB hll hlg
            go_wp2
            go_roundw
            case rel => exact ⟨n + 1, by have := HG.out; omega, by have := HG.out; go_num, by rw [HN.out, ← HA.out]; exact HBE.out, by rw [HN.out, ← HA.out], HB.out⟩
            case measure => simp [intOf]; omega
      · have hle : ¬ (G : Int) ≤ 12 := by omega
        have hn11 : n = 11 := by omega
        subst hn11
        rw [iOut_some] at hbest ⊢
        obtain ⟨A, c, rfl, hc, ho⟩ := hbest
        clear hB HBE
        go_wp2
        go_ret2
        exact ⟨A, c, rfl, hc, ho, HB.out⟩
  · have hk' : inR most 1 6 = false := by simpa using hk
    have HIR := Lib.hid (fun W => fitsE most false hk' W)
    rw [bpL_no hk', bpR_no hk']
    clear hk hk'
    go_enter Try.func24, Try.ntmps24
    go_wp2_with (go_at_call 45; refine (HIR.out _).mono ?_; rintro e w' ⟨rfl, rfl⟩)
    go_ret2
    exact ⟨none, 0, rfl, Nat.le_refl _, Own.nil _ _ _ _, Below.refl _ _⟩

set_option maxRecDepth 100000 in
set_option maxHeartbeats 4000000 in
theorem specBestPair_any (most : Int) (w : World) :
    Calls Try.prog 25 #[.int .i64 most] w (BpRes w (bpL most) (bpR most)) := by
  by_cases hk : inR most 1 6 = true
  · have hkb := inRI.1 hk
    obtain ⟨m, rfl⟩ := Int.eq_ofNat_of_zero_le (show 0 ≤ most by omega)
    have HIR := Lib.hid (fun W => inRangeE (m : Int) 1 6 true hk W)
    have hm6 : m ≤ 6 := by omega
    rw [bpL_yes hk, bpR_yes hk]
    have HST0 := Lib.hid (show PairAt w (w.alloc (.cells #[.int .i64 1, .int .i64 2] 3)) (1, 2) (.slice (some ⟨w.heap.size, 0, none⟩) 2 2) from pair_new (1, 2) (Nat.le_refl _))
    clear hk hkb
    go_enter Try.func25, Try.ntmps25
    go_wp2_with (go_at_call 40; refine (HIR.out _).mono ?_; rintro e w' ⟨rfl, rfl⟩)
    go_loopw [5, 4] (fun i v wr => ∃ n : Nat, n ≤ 10 ∧ i = .int .i64 ((n + 3 : Nat) : Int) ∧ PairAt w wr (bOut m n) v ∧ Below w.heap.size w wr) (fun i _ _ => 14 - (intOf i).toNat)
    case atStart => exact ⟨0, by omega, rfl, HST0.out, (Below.refl _ _).alloc (Nat.le_refl _) _⟩
    case round =>
      obtain ⟨n, hn, rfl, hbest, hB⟩ := hrel
      clear HST0
      obtain ⟨G, hG⟩ : ∃ G, n + 3 = G := ⟨_, rfl⟩
      rw [hG]
      have HG := Lib.hid hG
      have hg2 : 3 ≤ G := by omega
      have HB := Lib.hid hB
      have hok0 := bOut_ok (most := m) n hn
      by_cases hlt : G ≤ 12
      · have hle : (G : Int) ≤ 12 := by omega
        have HN := Lib.hid (show bOut m (n + 1) = bIn m G (G - 1) (bOut m n) by rw [← hG]; rfl)
        obtain ⟨st, hst⟩ : ∃ st, bOut m n = st := ⟨_, rfl⟩
        rw [hst] at hbest HN hok0
        have HBE := Lib.hid hbest
        have HOK := Lib.hid hok0
        clear hbest hB hst hG hok0
        go_wp2
        go_loopw [6, 4] (fun i v wr => ∃ a : Nat, a + 1 ≤ G ∧ i = .int .i64 ((a + 1 : Nat) : Int) ∧ PairAt w wr (bIn m G a st) v ∧ Below w.heap.size w wr) (fun i _ _ => G - (intOf i).toNat)
        case atStart => exact ⟨0, by omega, rfl, HBE.out, HB.out⟩
        case round =>
          obtain ⟨a, ha, rfl, hbest, hB⟩ := hrel
          clear HBE HB
          obtain ⟨l, hl⟩ : ∃ l, a + 1 = l := ⟨_, rfl⟩
          rw [hl]
          have HL := Lib.hid hl
          have HB := Lib.hid hB
          by_cases hlg : l < G
          · have hlgi : (l : Int) < (G : Int) := by omega
            have HST := Lib.hid (show bIn m G (a + 1) st = bStep m (bIn m G a st) (l, G) by rw [← hl]; rfl)
            have hoks := bIn_ok (most := m) HOK.out hlt a (by omega)
            obtain ⟨s, hs⟩ : ∃ s, bIn m G a st = s := ⟨_, rfl⟩
            rw [hs] at hbest HST hoks
            obtain ⟨A0, c0, rfl, hc0, ho0⟩ := hbest
            have hsz := hB.size
            have hokp : okP (l, G) := ⟨by show 1 ≤ l; omega, hlg, hlt⟩
            obtain ⟨A, c, hv, hc, ho⟩ := pair_new (w := w) (wr := wr) (l, G) hsz
            injection hv with hA hc2 hc3
            have hbl : Below wr.heap.size wr (wr.alloc (.cells #[.int .i64 (l : Int), .int .i64 (G : Int)] 3)) := (Below.refl _ _).alloc (Nat.le_refl _) _
            subst hA
            have HC := Lib.hid (specReachP w _ hokp hm6 (c := 2) ho)
            have HO0 := Lib.hid (ho0.past hbl)
            have HB2 := Lib.hid (HB.out.trans (hbl.mono HB.out.size))
            have HS2 := Lib.hid hoks
            clear hB hl hs ho ho0 hbl hc hc2 hc3 hokp hoks HB
            by_cases hgt : rP m s < rP m (l, G)
            · have HE := Lib.hid (show bStep m s (l, G) = (l, G) by rw [bStep, if_pos hgt])
              obtain ⟨R, hR⟩ : ∃ R, rP m (l, G) = R := ⟨_, rfl⟩
              obtain ⟨S, hS⟩ : ∃ S, rP m s = S := ⟨_, rfl⟩
              rw [hR] at HC hgt
              rw [hS] at hgt
              have hgti : (S : Int) < (R : Int) := by omega
              have HSS := Lib.hid hS
              clear hR hS hgt
              go_wp2_with fail
              refine HC.out.mono ?_
              rintro e w4 ⟨rfl, hb4⟩
              have ho4 := HO0.out.past hb4
              go_wp2_with fail
              refine (specReachP w _ HS2.out hm6 (c := c0) ho4).mono ?_
              rintro e w5 ⟨rfl, hb5⟩
              have hB4 := HB2.out.trans (hb4.mono HB2.out.size)
              have hB5 := hB4.trans (hb5.mono hB4.size)
              have HB5 := Lib.hid (hB5.trans (((Below.refl w5.heap.size w5).alloc (Nat.le_refl _) (.cells #[.int .i64 (l : Int), .int .i64 (G : Int)] 3)).mono hB5.size))
              have HPN := Lib.hid (pair_new (w := w) (wr := w5) (l, G) hB5.size)
              rw [HSS.out]
              clear hb4 hb5 hB4 hB5 ho4
              go_wp2
              go_roundw
              case rel => exact ⟨a + 1, by have := HL.out; omega, by have := HL.out; go_num, by rw [HST.out, HE.out]; exact HPN.out, HB5.out⟩
              case measure => simp [intOf]; omega
            · have HE := Lib.hid (show bStep m s (l, G) = s by rw [bStep, if_neg hgt])
              obtain ⟨R, hR⟩ : ∃ R, rP m (l, G) = R := ⟨_, rfl⟩
              obtain ⟨S, hS⟩ : ∃ S, rP m s = S := ⟨_, rfl⟩
              rw [hR] at HC hgt
              rw [hS] at hgt
              have hgti : ¬ (S : Int) < (R : Int) := by omega
              have HSS := Lib.hid hS
              clear hR hS hgt
              go_wp2_with fail
              refine HC.out.mono ?_
              rintro e w4 ⟨rfl, hb4⟩
              have ho4 := HO0.out.past hb4
              go_wp2_with fail
              refine (specReachP w _ HS2.out hm6 (c := c0) ho4).mono ?_
              rintro e w5 ⟨rfl, hb5⟩
              have hB4 := HB2.out.trans (hb4.mono HB2.out.size)
              have HB5 := Lib.hid (hB4.trans (hb5.mono hB4.size))
              have HO5 := Lib.hid (ho4.past hb5)
              rw [HSS.out]
              clear hb4 hb5 hB4 ho4
              go_wp2
              go_roundw
              case rel => exact ⟨a + 1, by have := HL.out; omega, by have := HL.out; go_num, by rw [HST.out, HE.out]; exact ⟨A0, c0, rfl, hc0, HO5.out⟩, HB5.out⟩
              case measure => simp [intOf]; omega
          · have hll : l = G := by omega
            have hlgi : ¬ (l : Int) < (G : Int) := by omega
            have HA := Lib.hid (show a = G - 1 by omega)
            have HBE := Lib.hid hbest
            clear hbest hB hll hlg
            go_wp2
            go_roundw
            case rel => exact ⟨n + 1, by have := HG.out; omega, by have := HG.out; go_num, by rw [HN.out, ← HA.out]; exact HBE.out, HB.out⟩
            case measure => simp [intOf]; omega
      · have hle : ¬ (G : Int) ≤ 12 := by omega
        have hn10 : n = 10 := by omega
        subst hn10
        obtain ⟨A, c, rfl, hc, ho⟩ := hbest
        have HC := Lib.hid (specReachP w _ hok0 hm6 (c := c) ho)
        have HO := Lib.hid ho
        have HBQ := Lib.hid (show rP m (bOut m 10) = bestQ m from rfl)
        clear hB ho hok0
        go_wp2_with fail
        refine HC.out.mono ?_
        rintro e w4 ⟨rfl, hb4⟩
        rw [HBQ.out]
        have HF := Lib.hid (And.intro (HO.out.past hb4) (HB.out.trans (hb4.mono HB.out.size)))
        clear hb4
        go_wp2
        go_ret2
        exact ⟨A, c, rfl, hc, HF.out.1, HF.out.2⟩
  · have hk' : inR most 1 6 = false := by simpa using hk
    have HIR := Lib.hid (fun W => inRangeE most 1 6 false hk' W)
    rw [bpL_no hk', bpR_no hk']
    clear hk hk'
    go_enter Try.func25, Try.ntmps25
    go_wp2_with (go_at_call 40; refine (HIR.out _).mono ?_; rintro e w' ⟨rfl, rfl⟩)
    go_ret2
    exact ⟨none, 0, rfl, Nat.le_refl _, Own.nil _ _ _ _, Below.refl _ _⟩
end Go.Proofs.Ytookdmdlpglbcab
