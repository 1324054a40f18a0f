/- Travellers take all coaches, one after the other. No condition. -/
import Derived.Test.YtimbkclhkepgfaaKb
namespace Go.Proofs.Ytimbkclhkepgfaa
open Go.RowKit

theorem coach_nat {c : Coach} (h : c.Ok) : ∃ p l q d : Nat, c = ⟨(p : Int), (l : Int), (q : Int), (d : Int)⟩ ∧ p ≤ 4 ∧ l ≤ 60 ∧ q ≤ 4 ∧ l < d ∧ d ≤ 60 := by
  obtain ⟨f, l, t, m⟩ := c
  obtain ⟨h1, h2, h3, h4, h5, h6, h7, h8⟩ := h
  simp only at h1 h2 h3 h4 h5 h6 h7 h8
  exact ⟨f.toNat, l.toNat, t.toNat, m.toNat, by rw [Int.toNat_of_nonneg h1, Int.toNat_of_nonneg h5, Int.toNat_of_nonneg h3, Int.toNat_of_nonneg (by omega)], by omega, by omega, by omega, by omega, by omega⟩
theorem takeE_eq (a t : List Int) (p l q d : Nat) : takeE a t ⟨(p : Int), (l : Int), (q : Int), (d : Int)⟩ = if (inT (a.getD p 0) l && isE (t.getD q 0) d) = true then t.set q d else t := by
  have e1 : tA t (q : Int) = t.getD q 0 := by simp [tA]
  have e2 : tA a (p : Int) = a.getD p 0 := by simp [tA]
  show (if (0 ≤ tA a (p : Int) ∧ tA a (p : Int) ≤ (l : Int)) ∧ (tA t (q : Int) < 0 ∨ (d : Int) < tA t (q : Int)) then t.set ((q : Int)).toNat (d : Int) else t) = _
  rw [e1, e2, Int.toNat_natCast]
  by_cases h : (inT (a.getD p 0) l && isE (t.getD q 0) d) = true
  · rw [if_pos h]
    simp only [inT, isE, Bool.and_eq_true, Bool.or_eq_true, decide_eq_true_eq] at h
    rw [if_pos h]
  · rw [if_neg h]
    simp only [inT, isE, Bool.and_eq_true, Bool.or_eq_true, decide_eq_true_eq] at h
    rw [if_neg h]
theorem set_self (t : List Int) (p : Nat) : t.set p (t.getD p 0) = t := by
  apply List.ext_getElem?
  intro i
  rw [List.getElem?_set]
  by_cases h : p = i
  · subst h
    rw [if_pos rfl]
    split
    · rename_i hl; rw [List.getElem?_eq_getElem hl]; simp [List.getD, List.getElem?_eq_getElem hl]
    · rename_i hl; rw [List.getElem?_eq_none (by omega)]
  · rw [if_neg h]
theorem takeL_eq (t : List Int) (p l q d : Nat) : takeL t ⟨(p : Int), (l : Int), (q : Int), (d : Int)⟩ = if (decide ((d : Int) ≤ t.getD q 0)) = true then t.set p (max (t.getD p 0) (l : Int)) else t := by
  have e1 : tA t (q : Int) = t.getD q 0 := by simp [tA]
  have e2 : tA t (p : Int) = t.getD p 0 := by simp [tA]
  show (if (d : Int) ≤ tA t (q : Int) ∧ tA t (p : Int) < (l : Int) then t.set ((p : Int)).toNat (l : Int) else t) = _
  rw [e1, e2, Int.toNat_natCast]
  by_cases h : (d : Int) ≤ t.getD q 0
  · rw [if_pos (decide_eq_true h)]
    by_cases h2 : t.getD p 0 < (l : Int)
    · rw [if_pos ⟨h, h2⟩, show max (t.getD p 0) (l : Int) = (l : Int) by omega]
    · rw [if_neg (fun h' => h2 h'.2), show max (t.getD p 0) (l : Int) = t.getD p 0 by omega, set_self]
  · rw [if_neg (fun h' => h h'.1), if_neg (by simpa using h)]
theorem StepW.t5 {w w' : World} {b k q : Nat} {t : List Int} {z : Int} {tk : Bool} (h : T5 w b k t) (hl : t.length = 5) (hs : StepW w b (k + q) z tk w') : T5 w' b k (if tk = true then t.set q z else t) ∧ w.grownBy w' (some b) := by
  obtain ⟨w1, hb, rfl⟩ := hs
  cases tk with
  | true => exact ⟨(h.keep hb).put hl q z, g_set (g_wide (grown_of_below hb) (some b)) (k + q) (.int .i64 z)⟩
  | false => exact ⟨h.keep hb, g_wide (grown_of_below hb) (some b)⟩
theorem StepW.t5o {w w' : World} {b k q : Nat} {t : List Int} {z : Int} {tk : Bool} (h : T5 w b k t) (hq : ∀ i, i < 5 → q ≠ k + i) (hs : StepW w b q z tk w') : T5 w' b k t := by
  obtain ⟨w1, hb, rfl⟩ := hs
  cases tk with
  | true => exact (h.keep hb).other q _ hq
  | false => exact h.keep hb
theorem times_get {t : List Int} (h : Times t) {q : Nat} : -1 ≤ t.getD q 0 ∧ t.getD q 0 ≤ 60 := by
  have := h.at (q : Int); simpa [tA] using this

theorem method_early (bb : Nat) (w : World) : (method 157 48 (.pointer (some ⟨bb, 0, none⟩)) "loop.example/lettersthatarrive/impl.take").run Try.prog w = .ok (71, .pointer (some ⟨bb, 0, none⟩)) w := by kernel_rfl
/-- What is left behind. -/
def AllE (w : World) (b : Nat) (t : List Int) (cs : List Coach) (e : Ending) (w' : World) : Prop := e = .returned (.tuple #[]) ∧ T5 w' b 0 (cs.foldl (fun t c => takeE t t c) t) ∧ w.grownBy w' (some b)
set_option maxRecDepth 100000 in
set_option maxHeartbeats 8000000 in
theorem takeAllE (A : Option Addr) (n c b : Nat) (t : List Int) (cs : List Coach) (w : World) (hn : cs.length = n) (hn10 : n ≤ 10) (ho : Own w 0 w.heap.size A (flatC cs)) (hne : cs ≠ [] → ∀ g o, A = some ⟨g, o, none⟩ → g ≠ b) (hok : ∀ c ∈ cs, c.Ok) (h5 : T5 w b 0 t) (ht : Times t) :
    Calls Try.prog 34 #[.slice A n c, .iface 48 (.pointer (some ⟨b, 0, none⟩))] w (AllE w b t cs) := by
  have hmt := fun (W : World) => method_early b W
  have HN := Lib.hid hn
  have hnle : cs.length ≤ n := by omega
  have hnge : n ≤ cs.length := by omega
  have HOK := Lib.hid hok
  have HNE := Lib.hid hne
  have hbw := h5.lt
  have HST := Lib.hid (show T5 w b 0 ((cs.take 0).foldl (fun t c => takeE t t c) t) from h5)
  clear hn hok hne h5
  go_enter Try.func34, Try.ntmps34
  go_wp2
  go_loopw [8] (fun v wr => ∃ k : Nat, k ≤ n ∧ v = .int .i64 k ∧ (T5 wr b 0 ((cs.take k).foldl (fun t c => takeE t t c) t)) ∧ w.grownBy wr (some b)) (fun v _ => n - (intOf v).toNat)
  case atStart => exact ⟨0, by omega, rfl, HST.out, World.grownBy.refl _ _⟩
  case round =>
    obtain ⟨k, hk, rfl, hst, hgw⟩ := hrel
    clear HST
    have hzr := hgw.size
    have HG := Lib.hid hgw
    by_cases hlt : k < n
    · have hlc : k < cs.length := by omega
      obtain ⟨g, o, rfl, hgl, hcells⟩ := ho.open (by rw [flatC_length]; omega)
      have hgb := HNE.out (fun h => by rw [h] at hlc; simp at hlc) g o rfl
      obtain ⟨y0, y1, y2, y3⟩ := coach_at hcells hlc
      obtain ⟨p, l, q, d, hc, hp4, hl60, hq4, hld, hd60⟩ := coach_nat (HOK.out _ (List.getElem_mem hlc))
      have hblk := hgw.block g hgl (fun e => hgb (by injection e with e))
      have HFT := Lib.hid (fold_take (fun t c => takeE t t c) t cs hlc)
      rw [hc] at y0 y1 y2 y3
      have v0 := (World.cell?_of_block (a := ⟨g, o + k * 4, none⟩) hblk).trans y0
      have v1 := (World.cell?_of_block (a := ⟨g, o + k * 4 + 1, none⟩) hblk).trans y1
      have v2 := (World.cell?_of_block (a := ⟨g, o + k * 4 + 2, none⟩) hblk).trans y2
      have v3 := (World.cell?_of_block (a := ⟨g, o + k * 4 + 3, none⟩) hblk).trans y3
      have hTt := foldE_times (cs := cs.take k) (fun c hc => HOK.out c (List.mem_of_mem_take hc)) ht
      obtain ⟨u, hu⟩ : ∃ u, (cs.take k).foldl (fun t c => takeE t t c) t = u := ⟨_, rfl⟩
      rw [hu] at hst hTt
      have HC := Lib.hid hc
      have HU := Lib.hid hu
      have HT := Lib.hid hTt
      have hbb : Below wr.heap.size wr (wr.alloc (.cells #[.int .i64 p, .int .i64 l, .int .i64 q, .int .i64 d] 65)) := (Below.refl _ _).alloc (Nat.le_refl _) _
      have hgr : g < wr.heap.size := by omega
      have hkI : (k : Int) < n := by omega
      have hQ := earlyTake_any b p l q d (u.getD p 0) (u.getD q 0) (wr.alloc (.cells #[.int .i64 p, .int .i64 l, .int .i64 q, .int .i64 d] 65)) (by simp; omega) (by omega) (by omega) (by have := (hst.keep hbb).cell p (by omega); rwa [Nat.zero_add] at this) (by have := (hst.keep hbb).cell q (by omega); rwa [Nat.zero_add] at this) ((hst.keep hbb).froz q) (times_get hTt).1 (times_get hTt).2 (times_get hTt).1 (times_get hTt).2
      have HQ := Lib.hid hQ
      have HK := Lib.hid (hst.keep hbb)
      clear hQ
      clear y0 y1 y2 y3 hcells hblk hc hu hst hTt hgw hbb
      go_wp2_with (go_at_call 71; refine HQ.out.mono ?_; rintro e w5 ⟨rfl, s5⟩)
      have HW := Lib.hid (show (T5 w5 b 0 ((cs.take (k + 1)).foldl (fun t c => takeE t t c) t)) ∧ w.grownBy w5 (some b) from by
        have h := StepW.t5 HK.out HT.out.len (q := q) (by rw [Nat.zero_add]; exact s5)
        rw [HFT.out, HU.out, HC.out]
        simp only [takeE_eq]
        exact ⟨h.1, grown_trans HG.out (grown_trans (World.grownBy_alloc wr _ _) h.2)⟩)
      clear s5
      go_wp2
      go_roundw
      case rel => exact ⟨k + 1, by omega, by go_num, HW.out.1, HW.out.2⟩
      case measure => simp [intOf]; omega
    · have hk2 : k = n := by omega
      subst hk2
      have HF := Lib.hid (show AllE w b t cs (.returned (.tuple #[])) wr from ⟨rfl, by
        rw [List.take_of_length_le hnle] at hst
        exact ⟨hst, hgw⟩⟩)
      clear hst hgw
      go_wp2
      go_end0
      exact HF.out

theorem method_frugal (bb : Nat) (w : World) : (method 157 52 (.pointer (some ⟨bb, 0, none⟩)) "loop.example/lettersthatarrive/impl.take").run Try.prog w = .ok (75, .pointer (some ⟨bb, 0, none⟩)) w := by kernel_rfl
/-- What is left behind. -/
def AllF (w : World) (b : Nat) (a t : List Int) (cs : List Coach) (e : Ending) (w' : World) : Prop := e = .returned (.tuple #[]) ∧ T5 w' b 1 a ∧ T5 w' b 6 (cs.foldl (takeE a) t) ∧ w.grownBy w' (some b)
set_option maxRecDepth 100000 in
set_option maxHeartbeats 8000000 in
theorem takeAllF (A : Option Addr) (n c b : Nat) (a t : List Int) (cs : List Coach) (w : World) (hn : cs.length = n) (hn10 : n ≤ 10) (ho : Own w 0 w.heap.size A (flatC cs)) (hne : cs ≠ [] → ∀ g o, A = some ⟨g, o, none⟩ → g ≠ b) (hok : ∀ c ∈ cs, c.Ok) (h1 : T5 w b 1 a) (h5 : T5 w b 6 t) (ha : Times a) (ht : Times t) :
    Calls Try.prog 34 #[.slice A n c, .iface 52 (.pointer (some ⟨b, 0, none⟩))] w (AllF w b a t cs) := by
  have hmt := fun (W : World) => method_frugal b W
  have HN := Lib.hid hn
  have hnle : cs.length ≤ n := by omega
  have hnge : n ≤ cs.length := by omega
  have HOK := Lib.hid hok
  have HNE := Lib.hid hne
  have hbw := h5.lt
  have HST := Lib.hid (show T5 w b 1 a ∧ T5 w b 6 ((cs.take 0).foldl (takeE a) t) from ⟨h1, h5⟩)
  clear hn hok hne h5 h1
  go_enter Try.func34, Try.ntmps34
  go_wp2
  go_loopw [8] (fun v wr => ∃ k : Nat, k ≤ n ∧ v = .int .i64 k ∧ (T5 wr b 1 a ∧ T5 wr b 6 ((cs.take k).foldl (takeE a) t)) ∧ w.grownBy wr (some b)) (fun v _ => n - (intOf v).toNat)
  case atStart => exact ⟨0, by omega, rfl, HST.out, World.grownBy.refl _ _⟩
  case round =>
    obtain ⟨k, hk, rfl, hst, hgw⟩ := hrel
    clear HST
    have hzr := hgw.size
    have HG := Lib.hid hgw
    by_cases hlt : k < n
    · have hlc : k < cs.length := by omega
      obtain ⟨g, o, rfl, hgl, hcells⟩ := ho.open (by rw [flatC_length]; omega)
      have hgb := HNE.out (fun h => by rw [h] at hlc; simp at hlc) g o rfl
      obtain ⟨y0, y1, y2, y3⟩ := coach_at hcells hlc
      obtain ⟨p, l, q, d, hc, hp4, hl60, hq4, hld, hd60⟩ := coach_nat (HOK.out _ (List.getElem_mem hlc))
      have hblk := hgw.block g hgl (fun e => hgb (by injection e with e))
      have HFT := Lib.hid (fold_take (takeE a) t cs hlc)
      rw [hc] at y0 y1 y2 y3
      have v0 := (World.cell?_of_block (a := ⟨g, o + k * 4, none⟩) hblk).trans y0
      have v1 := (World.cell?_of_block (a := ⟨g, o + k * 4 + 1, none⟩) hblk).trans y1
      have v2 := (World.cell?_of_block (a := ⟨g, o + k * 4 + 2, none⟩) hblk).trans y2
      have v3 := (World.cell?_of_block (a := ⟨g, o + k * 4 + 3, none⟩) hblk).trans y3
      have hTt := foldW_times (a := a) (cs := cs.take k) (fun c hc => HOK.out c (List.mem_of_mem_take hc)) ht
      obtain ⟨u, hu⟩ : ∃ u, (cs.take k).foldl (takeE a) t = u := ⟨_, rfl⟩
      rw [hu] at hst hTt
      have HC := Lib.hid hc
      have HU := Lib.hid hu
      have HT := Lib.hid hTt
      have hbb : Below wr.heap.size wr (wr.alloc (.cells #[.int .i64 p, .int .i64 l, .int .i64 q, .int .i64 d] 65)) := (Below.refl _ _).alloc (Nat.le_refl _) _
      have hgr : g < wr.heap.size := by omega
      have hkI : (k : Int) < n := by omega
      have hQ := frugalTake_any b p l q d (a.getD p 0) (u.getD q 0) (wr.alloc (.cells #[.int .i64 p, .int .i64 l, .int .i64 q, .int .i64 d] 65)) (by simp; omega) (by omega) (by omega) ((hst.1.keep hbb).cell p (by omega)) ((hst.2.keep hbb).cell q (by omega)) ((hst.2.keep hbb).froz _) (times_get ha).1 (times_get ha).2 (times_get hTt).1 (times_get hTt).2
      have HQ := Lib.hid hQ
      have HK := Lib.hid (And.intro (hst.1.keep hbb) (hst.2.keep hbb))
      clear hQ
      clear y0 y1 y2 y3 hcells hblk hc hu hst hTt hgw hbb
      go_wp2_with (go_at_call 75; refine HQ.out.mono ?_; rintro e w5 ⟨rfl, s5⟩)
      have HW := Lib.hid (show (T5 w5 b 1 a ∧ T5 w5 b 6 ((cs.take (k + 1)).foldl (takeE a) t)) ∧ w.grownBy w5 (some b) from by
        have h := StepW.t5 HK.out.2 HT.out.len (q := q) s5
        rw [HFT.out, HU.out, HC.out]
        simp only [takeE_eq]
        exact ⟨⟨s5.t5o HK.out.1 (fun i hi => by omega), h.1⟩, grown_trans HG.out (grown_trans (World.grownBy_alloc wr _ _) h.2)⟩)
      clear s5
      go_wp2
      go_roundw
      case rel => exact ⟨k + 1, by omega, by go_num, HW.out.1, HW.out.2⟩
      case measure => simp [intOf]; omega
    · have hk2 : k = n := by omega
      subst hk2
      have HF := Lib.hid (show AllF w b a t cs (.returned (.tuple #[])) wr from ⟨rfl, by
        rw [List.take_of_length_le hnle] at hst
        exact ⟨hst.1, hst.2, hgw⟩⟩)
      clear hst hgw
      go_wp2
      go_end0
      exact HF.out

theorem method_late (bb : Nat) (w : World) : (method 157 71 (.pointer (some ⟨bb, 0, none⟩)) "loop.example/lettersthatarrive/impl.take").run Try.prog w = .ok (77, .pointer (some ⟨bb, 0, none⟩)) w := by kernel_rfl
/-- What is left behind. -/
def AllL (w : World) (b : Nat) (t : List Int) (cs : List Coach) (e : Ending) (w' : World) : Prop := e = .returned (.tuple #[]) ∧ T5 w' b 0 (cs.foldl takeL t) ∧ w.grownBy w' (some b)
set_option maxRecDepth 100000 in
set_option maxHeartbeats 8000000 in
theorem takeAllL (A : Option Addr) (n c b : Nat) (t : List Int) (cs : List Coach) (w : World) (hn : cs.length = n) (hn10 : n ≤ 10) (ho : Own w 0 w.heap.size A (flatC cs)) (hne : cs ≠ [] → ∀ g o, A = some ⟨g, o, none⟩ → g ≠ b) (hok : ∀ c ∈ cs, c.Ok) (h5 : T5 w b 0 t) (ht : Times t) :
    Calls Try.prog 34 #[.slice A n c, .iface 71 (.pointer (some ⟨b, 0, none⟩))] w (AllL w b t cs) := by
  have hmt := fun (W : World) => method_late b W
  have HN := Lib.hid hn
  have hnle : cs.length ≤ n := by omega
  have hnge : n ≤ cs.length := by omega
  have HOK := Lib.hid hok
  have HNE := Lib.hid hne
  have hbw := h5.lt
  have HST := Lib.hid (show T5 w b 0 ((cs.take 0).foldl takeL t) from h5)
  clear hn hok hne h5
  go_enter Try.func34, Try.ntmps34
  go_wp2
  go_loopw [8] (fun v wr => ∃ k : Nat, k ≤ n ∧ v = .int .i64 k ∧ (T5 wr b 0 ((cs.take k).foldl takeL t)) ∧ w.grownBy wr (some b)) (fun v _ => n - (intOf v).toNat)
  case atStart => exact ⟨0, by omega, rfl, HST.out, World.grownBy.refl _ _⟩
  case round =>
    obtain ⟨k, hk, rfl, hst, hgw⟩ := hrel
    clear HST
    have hzr := hgw.size
    have HG := Lib.hid hgw
    by_cases hlt : k < n
    · have hlc : k < cs.length := by omega
      obtain ⟨g, o, rfl, hgl, hcells⟩ := ho.open (by rw [flatC_length]; omega)
      have hgb := HNE.out (fun h => by rw [h] at hlc; simp at hlc) g o rfl
      obtain ⟨y0, y1, y2, y3⟩ := coach_at hcells hlc
      obtain ⟨p, l, q, d, hc, hp4, hl60, hq4, hld, hd60⟩ := coach_nat (HOK.out _ (List.getElem_mem hlc))
      have hblk := hgw.block g hgl (fun e => hgb (by injection e with e))
      have HFT := Lib.hid (fold_take takeL t cs hlc)
      rw [hc] at y0 y1 y2 y3
      have v0 := (World.cell?_of_block (a := ⟨g, o + k * 4, none⟩) hblk).trans y0
      have v1 := (World.cell?_of_block (a := ⟨g, o + k * 4 + 1, none⟩) hblk).trans y1
      have v2 := (World.cell?_of_block (a := ⟨g, o + k * 4 + 2, none⟩) hblk).trans y2
      have v3 := (World.cell?_of_block (a := ⟨g, o + k * 4 + 3, none⟩) hblk).trans y3
      have hTt := foldL_times (cs := cs.take k) (fun c hc => HOK.out c (List.mem_of_mem_take hc)) ht
      obtain ⟨u, hu⟩ : ∃ u, (cs.take k).foldl takeL t = u := ⟨_, rfl⟩
      rw [hu] at hst hTt
      have HC := Lib.hid hc
      have HU := Lib.hid hu
      have HT := Lib.hid hTt
      have hbb : Below wr.heap.size wr (wr.alloc (.cells #[.int .i64 p, .int .i64 l, .int .i64 q, .int .i64 d] 65)) := (Below.refl _ _).alloc (Nat.le_refl _) _
      have hgr : g < wr.heap.size := by omega
      have hkI : (k : Int) < n := by omega
      have hQ := lateTake_any b p l q d (u.getD p 0) (u.getD q 0) (wr.alloc (.cells #[.int .i64 p, .int .i64 l, .int .i64 q, .int .i64 d] 65)) (by simp; omega) (by omega) (by omega) (by have := (hst.keep hbb).cell p (by omega); rwa [Nat.zero_add] at this) (by have := (hst.keep hbb).cell q (by omega); rwa [Nat.zero_add] at this) ((hst.keep hbb).froz p) (times_get hTt).1 (times_get hTt).2 (times_get hTt).1 (times_get hTt).2
      have HQ := Lib.hid hQ
      have HK := Lib.hid (hst.keep hbb)
      clear hQ
      clear y0 y1 y2 y3 hcells hblk hc hu hst hTt hgw hbb
      go_wp2_with (go_at_call 77; refine HQ.out.mono ?_; rintro e w5 ⟨rfl, s5⟩)
      have HW := Lib.hid (show (T5 w5 b 0 ((cs.take (k + 1)).foldl takeL t)) ∧ w.grownBy w5 (some b) from by
        have h := StepW.t5 HK.out HT.out.len (q := p) (by rw [Nat.zero_add]; exact s5)
        rw [HFT.out, HU.out, HC.out]
        simp only [takeL_eq]
        exact ⟨h.1, grown_trans HG.out (grown_trans (World.grownBy_alloc wr _ _) h.2)⟩)
      clear s5
      go_wp2
      go_roundw
      case rel => exact ⟨k + 1, by omega, by go_num, HW.out.1, HW.out.2⟩
      case measure => simp [intOf]; omega
    · have hk2 : k = n := by omega
      subst hk2
      have HF := Lib.hid (show AllL w b t cs (.returned (.tuple #[])) wr from ⟨rfl, by
        rw [List.take_of_length_le hnle] at hst
        exact ⟨hst, hgw⟩⟩)
      clear hst hgw
      go_wp2
      go_end0
      exact HF.out
end Go.Proofs.Ytimbkclhkepgfaa
