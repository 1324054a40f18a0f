/- Stacks in an array; impl.CanUnload. No condition. -/
import Derived.Test.YthfmmdigecjfnaaI6
import Derived.Test.YthfmmdigecjfnaaI7
import Derived.Test.YthfmmdigecjfnaaI8
namespace Go.Proofs.Ythfmmdigecjfnaa
open Go.RowKit

theorem ownsRow_same {w w' : World} {base n : Nat} {e : TypeId} {v : Value} {size : Nat} {xs : List Value} (h : w.ownsRow base e size v n xs) (hk : ∀ i, v.ownBlock = some i → w'.heap[i]? = w.heap[i]?) : w'.ownsRow base e size v n xs := by
  refine ⟨h.1, ?_⟩
  rcases h.2 with hn | ⟨k, cap, cur, rfl, hb, hgg, rest⟩
  · exact .inl hn
  · exact .inr ⟨k, cap, cur, rfl, hb, by rw [hk k rfl]; exact hgg, rest⟩

/-- Nine stacks in the block g. -/
def Stacks (w : World) (g base : Nat) (L : Nat → List Int) : Prop :=
  g < base ∧ base ≤ w.heap.size ∧ (∀ j, w.frozen? ⟨g, j, none⟩ = false) ∧ ∃ (V : Nat → Option Addr) (C : Nat → Nat), (∀ s, s < 9 → w.cell? ⟨g, s, none⟩ = some (.slice (V s) (L s).length (C s)) ∧ w.ownsRow base 3 1 (.slice (V s) (L s).length (C s)) (L s).length ((L s).map (Value.int .i64))) ∧
    ∀ s t, s < 9 → t < 9 → s ≠ t → (V s).map (·.block) = none ∨ (V s).map (·.block) ≠ (V t).map (·.block)

theorem Stacks.same {w w' : World} {g base : Nat} {L : Nat → List Int} (h : Stacks w g base L) (hsz : w.heap.size ≤ w'.heap.size) (hk : ∀ i, i < w.heap.size → (i = g ∨ base ≤ i) → w'.heap[i]? = w.heap[i]?) : Stacks w' g base L := by
  obtain ⟨h1, h2, h3, V, C, h4, h5⟩ := h
  have hg := hk g (by omega) (.inl rfl)
  refine ⟨h1, by omega, fun j => (World.frozen?_of_block (a := ⟨g, j, none⟩) hg).trans (h3 j), V, C, fun s hs => ⟨(World.cell?_of_block (a := ⟨g, s, none⟩) hg).trans (h4 s hs).1, ownsRow_same (h4 s hs).2 fun i hi => ?_⟩, h5⟩
  have := (h4 s hs).2.lt i hi
  exact hk i this.2 (.inr this.1)
theorem Stacks.drewN {w : World} {g base : Nat} {L : Nat → List Int} (h : Stacks w g base L) (n : Nat) : Stacks (w.drewN n) g base L := h
theorem Stacks.congr {w : World} {g base : Nat} {L L' : Nat → List Int} (h : Stacks w g base L) (he : ∀ s, s < 9 → L' s = L s) : Stacks w g base L' := by
  obtain ⟨h1, h2, h3, V, C, h4, h5⟩ := h
  exact ⟨h1, h2, h3, V, C, fun s hs => by rw [he s hs]; exact h4 s hs, h5⟩
theorem Stacks.at {w : World} {g base : Nat} {L : Nat → List Int} (h : Stacks w g base L) {s : Nat} (hs : s < 9) : ∃ (A : Option Addr) (c : Nat), w.cell? ⟨g, s, none⟩ = some (.slice A (L s).length c) ∧ w.ownsRow base 3 1 (.slice A (L s).length c) (L s).length ((L s).map (Value.int .i64)) ∧
    ∀ x w', PutPost w g s base (L s).length A (L s) x w' → Stacks w' g base (fun t => if t = s then L s ++ [x] else L t) := by
  obtain ⟨h1, h2, h3, V, C, h4, h5⟩ := h
  refine ⟨V s, C s, (h4 s hs).1, (h4 s hs).2, fun x w' ⟨A', c', p1, p2, p3, p4⟩ => ?_⟩
  refine ⟨h1, Nat.le_trans h2 p3.size, fun j => (p3.frozen j).trans (h3 j), fun t => if t = s then A' else V t, fun t => if t = s then c' else C t, fun t ht => ?_, fun t u ht hu htu => ?_⟩
  · by_cases e : t = s
    · subst e
      simp only [if_true, List.length_append, List.length_singleton]
      exact ⟨p1, p2⟩
    · simp only [if_neg e]
      refine ⟨(p3.cell t e).trans (h4 t ht).1, p3.kept (h4 t ht).2 h1 fun i hi e2 => ?_⟩
      rw [slice_block] at hi
      rcases h5 t s ht hs e with h | h
      · rw [h] at hi; cases hi
      · exact h (hi.trans e2.symm)
  · have hlt : ∀ v, v < 9 → ∀ i, (V v).map (·.block) = some i → i < w.heap.size := fun v hv i hi => ((h4 v hv).2.lt i (by rw [slice_block]; exact hi)).2
    by_cases e : t = s
    · subst e
      have hne : ¬ u = t := fun e => htu e.symm
      simp only [if_true, if_neg hne]
      rcases p4 with p4 | p4
      · rw [p4]; exact h5 t u ht hu htu
      · right
        rw [p4]
        intro e2
        have := hlt u hu _ e2.symm
        omega
    · simp only [if_neg e]
      by_cases e2 : u = s
      · subst e2
        simp only [if_true]
        rcases p4 with p4 | p4
        · rw [p4]; exact h5 t u ht hu htu
        · right
          rw [p4]
          intro e3
          have := hlt t ht _ e3
          omega
      · simp only [if_neg e2]; exact h5 t u ht hu htu

theorem PutPost.undrew {w w' : World} {q g s base n : Nat} {A : Option Addr} {xs : List Int} {x : Int} (h : PutPost (w.drewN q) g s base n A xs x w') : PutPost w g s base n A xs x w' := by
  obtain ⟨A', c', p1, p2, p3, p4⟩ := h
  exact ⟨A', c', p1, p2, ⟨p3.os, p3.tape, p3.output, p3.size, p3.block, p3.cell, p3.frozen⟩, p4⟩
def nines : Array Value := #[.slice none 0 0, .slice none 0 0, .slice none 0 0, .slice none 0 0, .slice none 0 0, .slice none 0 0, .slice none 0 0, .slice none 0 0, .slice none 0 0]
theorem nines_at {s : Nat} (h : s < 9) : nines[s]? = some (.slice none 0 0) := by
  have : ∀ s : Fin 9, nines[s.1]? = some (.slice none 0 0) := by
    intro s
    rcases s with ⟨s, hs⟩
    match s, hs with
    | 0, _ => rfl
    | 1, _ => rfl
    | 2, _ => rfl
    | 3, _ => rfl
    | 4, _ => rfl
    | 5, _ => rfl
    | 6, _ => rfl
    | 7, _ => rfl
    | 8, _ => rfl
  exact this ⟨s, h⟩
theorem Stacks.start (w : World) (t : TypeId) : Stacks (w.alloc (.cells nines t)) w.heap.size (w.heap.size + 1) (fun _ => []) := by
  refine ⟨by omega, by simp, fun j => frozen_of_row _ _ _ _ _ (heap_alloc_new w _), fun _ => none, fun _ => 0, fun s hs => ⟨?_, World.ownsRow_nil _ _ _ _⟩, fun s t _ _ _ => .inl rfl⟩
  rw [cell_of_row _ _ s _ _ _ (heap_alloc_new w _)]
  exact nines_at hs

set_option maxRecDepth 100000 in
theorem oneForEach_any (A B : Option Addr) (c0 c1 n : Nat) (ss : List Int) (w : World) (hs : Ints w w.heap.size B ss) (hl : ss.length ≤ 9000000000000000000) :
    Calls Try.prog 52 #[.slice A n c0, .slice B ss.length c1, .int .i64 9] w fun e w' => e = .returned (.bool (decide (ss.length = n) && ss.all (fun s => inR s 0 8))) ∧ w = w' := by
  by_cases hlen : ss.length = n
  · have hd : ((ss.length : Int) != (n : Int)) = false := by simp; omega
    have HD := Lib.hid (show decide (ss.length = n) = true from decide_eq_true hlen)
    clear hlen
    go_enter Try.func52, Try.ntmps52
    go_wp2
    clear hd
    go_loop [16] (fun i => ∃ k : Nat, k ≤ ss.length ∧ i = .int .i64 k ∧ (ss.take k).all (fun s => inR s 0 8) = true) (fun i => ss.length - (intOf i).toNat)
    case atStart => exact ⟨0, by omega, rfl, by simp⟩
    case round =>
      obtain ⟨k, hk, rfl, hall⟩ := hrel
      have HA := Lib.hid hall
      clear hall
      by_cases hlt : k < ss.length
      · obtain ⟨b, o, rfl, hb, hc⟩ := hs.open (by simp; omega)
        have hcell := ints_at hc hlt
        have HT := Lib.hid (take_all (p := fun s => inR s 0 8) hlt)
        have HNO := Lib.hid (fun h => all_noI (p := fun s => inR s 0 8) hlt h)
        obtain ⟨s, hse⟩ : ∃ s, ss[k] = s := ⟨_, rfl⟩
        rw [hse] at hcell
        have HSE := Lib.hid hse
        clear hc hse
        by_cases h1 : s < 0
        · have hd1 : decide (s < 0) = true := decide_eq_true h1
          have HF := Lib.hid (HNO.out (by rw [HSE.out]; simp [inR]; omega))
          clear h1
          go_wp2
          go_ret
          exact ⟨ret_bool (by rw [HF.out, Bool.and_false]), rfl⟩
        · have hd1 : decide (s < 0) = false := decide_eq_false h1
          by_cases h2 : 9 ≤ s
          · have hd2 : decide (9 ≤ s) = true := decide_eq_true h2
            have HF := Lib.hid (HNO.out (by rw [HSE.out]; simp [inR]; omega))
            clear h1 h2
            go_wp2
            go_ret
            exact ⟨ret_bool (by rw [HF.out, Bool.and_false]), rfl⟩
          · have hd2 : decide (9 ≤ s) = false := decide_eq_false h2
            have HF := Lib.hid (show inR s 0 8 = true by simp [inR]; omega)
            clear h1 h2
            go_wp2
            go_round
            case rel => exact ⟨k + 1, by omega, by go_num, by rw [HT.out, HA.out, HSE.out, HF.out]; rfl⟩
            case measure => simp [intOf]; omega
      · have hk' : k = ss.length := by omega
        subst hk'
        have hall := HA.out
        rw [List.take_length] at hall
        have HF := Lib.hid hall
        clear hall
        go_wp2
        go_ret
        exact ⟨ret_bool (by rw [HD.out, HF.out]; rfl), rfl⟩
  · have hd : ((ss.length : Int) != (n : Int)) = true := by simp; omega
    have HD := Lib.hid (show decide (ss.length = n) = false from decide_eq_false hlen)
    clear hlen
    go_enter Try.func52, Try.ntmps52
    go_wp2
    go_ret
    exact ⟨ret_bool (by rw [HD.out]; rfl), rfl⟩

set_option maxRecDepth 100000 in
set_option maxHeartbeats 4000000 in
theorem impCanUnload_any (A B : Option Addr) (c0 c1 : Nat) (zs ss : List Int) (w : World) (hr : Ints w w.heap.size A zs) (hs : Ints w w.heap.size B ss) (hc0 : zs.length ≤ c0) (hl : zs.length ≤ 9000000000000000000) (hl2 : ss.length ≤ 9000000000000000000) :
    Calls Try.prog 26 #[.slice A zs.length c0, .slice B ss.length c1] w fun e w' => e = .returned (.bool (unlB zs ss)) ∧ Below w.heap.size w w' := by
  have hva := impValidRow_any A c0 zs w hr hc0
  have hfe := oneForEach_any A B c0 c1 zs.length ss w hs hl2
  obtain ⟨V, hV⟩ : ∃ V, unlB zs ss = V := ⟨_, rfl⟩
  rw [hV]
  have HV := Lib.hid hV
  clear hV
  by_cases hv : rowB 9 zs = true
  · rw [hv] at hva
    have HVA := Lib.hid hva
    have HR := Lib.hid hv
    have hl9 := rowB_len hv
    clear hva hv
    by_cases hfee : (decide (ss.length = zs.length) && ss.all (fun s => inR s 0 8)) = true
    · rw [hfee] at hfe
      have HFE := Lib.hid hfe
      have hf2 := hfee
      simp only [Bool.and_eq_true, decide_eq_true_eq] at hf2
      have HIN := Lib.hid hf2.2
      have HLN := Lib.hid hf2.1
      clear hfe hfee hf2
      go_enter Try.func26, Try.ntmps26
      go_wp2_with (first | (go_at_call 37; refine HVA.out.mono ?_; rintro e w' ⟨rfl, rfl⟩) | (go_at_call 52; refine HFE.out.mono ?_; rintro e w' ⟨rfl, rfl⟩))
      have HS0 := Lib.hid (Stacks.start w 35)
      have hb0 : Below w.heap.size w (w.alloc (.cells nines 35)) := (Below.refl _ _).alloc (Nat.le_refl _) _
      have HB0 := Lib.hid hb0
      clear hb0
      go_loopw [19] (fun i wr => ∃ k : Nat, k ≤ zs.length ∧ i = .int .i64 k ∧ Stacks wr w.heap.size (w.heap.size + 1) (fun s => lvl zs (stN ss) s k) ∧ (List.range k).all (okU zs (stN ss)) = true ∧ Below w.heap.size w wr) (fun i _ => zs.length - (intOf i).toNat)
      case atStart => exact ⟨0, by omega, rfl, HS0.out, by simp, HB0.out⟩
      case round =>
        clear HS0 HB0
        obtain ⟨k, hk, rfl, hst, hall, hbr⟩ := hrel
        have HA := Lib.hid hall
        have HST := Lib.hid hst
        have HBR := Lib.hid hbr
        by_cases hlt : k < zs.length
        · obtain ⟨b, o, rfl, hb, hc⟩ := (hr.below hbr).open (by simp; omega)
          have hkl : k < ss.length := by have := HLN.out; omega
          obtain ⟨b2, o2, rfl, hb2, hc2⟩ := (hs.below hbr).open (by simp; omega)
          have hcZ := ints_atD hc hlt
          have hcS := ints_atD hc2 hkl
          have hin := List.all_eq_true.1 HIN.out (ss.getD k 0) (by rw [getD_get hkl]; exact List.getElem_mem _)
          simp [inR] at hin
          obtain ⟨σ, hσ⟩ : ∃ σ : Nat, ss.getD k 0 = (σ : Int) := ⟨(ss.getD k 0).toNat, by simp; omega⟩
          rw [hσ] at hcS
          have hσ9 : σ < 9 := by
            have : ss.getD k 0 ≤ 8 := by simpa using hin.2
            omega
          have hstk : stN ss k = σ := by unfold stN; rw [hσ]; rfl
          obtain ⟨A', c', hcell, hown, hput⟩ := hst.at hσ9
          have hbo := bears_ok HR.out (st := stN ss) hlt (fun j hj => all_range hall hj)
          rw [hstk] at hbo
          have hlen := lvl_len zs (stN ss) σ k
          obtain ⟨x, hx⟩ : ∃ x, zs.getD k 0 = x := ⟨_, rfl⟩
          obtain ⟨xs, hxs⟩ : ∃ xs, lvl zs (stN ss) σ k = xs := ⟨_, rfl⟩
          simp only [hxs] at hcell hown hput hlen
          rw [hx, hxs] at hbo
          rw [hx] at hcZ
          obtain ⟨n', hn'⟩ : ∃ n', xs.length = n' := ⟨_, rfl⟩
          rw [hn'] at hcell hown hput hlen
          have hbe := bears_any w.heap.size σ (w.heap.size + 1) A' n' c' xs x wr hcell hn'.symm hown (by omega)
          have hpu := fun q => put_any w.heap.size σ (w.heap.size + 1) A' n' c' xs x (wr.drewN q) hcell (hst.2.2.1 σ) hown (by omega) hst.2.1 (by omega)
          obtain ⟨ok, hok⟩ : ∃ ok, okU zs (stN ss) k = ok := ⟨_, rfl⟩
          rw [hbo, hok] at hbe
          have HAB := Lib.hid (show ∀ i, A'.map (·.block) = some i → w.heap.size + 1 ≤ i from fun i hi => (hown.lt i (by rw [slice_block]; exact hi)).1)
          have HBE := Lib.hid hbe
          have HPU := Lib.hid hpu
          have HPT := Lib.hid hput
          have HLV := Lib.hid (And.intro hstk (And.intro hxs (And.intro hx hok)))
          have hσI : (σ : Int) < 9 := by omega
          have hσ0 : (0 : Int) ≤ (σ : Int) := by omega
          clear hc hc2 hin hσ hstk hcell hown hput hbo hlen hx hxs hn' hbe hpu hok hall hst hbr
          cases ok with
          | false =>
            have HF := Lib.hid (show V = false by
              rw [← HV.out, unlB_all HR.out HLN.out HIN.out]
              exact all_range_no hlt HLV.out.2.2.2)
            go_wp2_with fail
            refine HBE.out.mono ?_
            rintro e w2 ⟨rfl, q, rfl⟩
            go_wp2_with fail
            go_ret
            exact ⟨ret_bool HF.out.symm, below_drewN HBR.out q⟩
          | true =>
            go_wp2_with fail
            refine HBE.out.mono ?_
            rintro e w2 ⟨rfl, q, rfl⟩
            have hcS2 : (wr.drewN q).cell? ⟨b2, o2 + k, none⟩ = some (.int .i64 (σ : Int)) := hcS
            go_wp2_with fail
            refine (HPU.out q).mono ?_
            rintro e w3 ⟨rfl, hpost⟩
            have hb3 : Below w.heap.size (wr.drewN q) w3 := by
              obtain ⟨A2, c2, _, _, h3, _⟩ := hpost
              exact h3.below (Nat.le_refl _) HBR.out.size (fun i hi => by have := HAB.out i hi; omega)
            have HW := Lib.hid (And.intro (HPT.out x w3 hpost.undrew) ((below_drewN HBR.out q).trans hb3))
            clear hpost hb3
            go_wp2_with fail
            go_roundw
            case rel => exact ⟨k + 1, by omega, by go_num, HW.out.1.congr (fun s _ => by
              simp only [lvl, HLV.out.1]
              by_cases e : s = σ
              · rw [if_pos e.symm, if_pos e, e, HLV.out.2.1, HLV.out.2.2.1]
              · rw [if_neg (fun h => e h.symm), if_neg e]), by rw [all_range_succ, HA.out, HLV.out.2.2.2]; rfl, HW.out.2⟩
            case measure => simp [intOf]; omega
        · have hk' : k = zs.length := by omega
          subst hk'
          have HF := Lib.hid (show V = true by rw [← HV.out, unlB_all HR.out HLN.out HIN.out]; exact hall)
          clear hst hall hbr
          go_wp2
          go_ret
          exact ⟨ret_bool HF.out.symm, HBR.out⟩
    · have hf' : (decide (ss.length = zs.length) && ss.all (fun s => inR s 0 8)) = false := by simpa using hfee
      rw [hf'] at hfe
      have HFE := Lib.hid hfe
      have HF := Lib.hid (show V = false by
        rw [← HV.out]
        unfold unlB
        rw [show (rowB 9 zs && decide (ss.length = zs.length) && ss.all (fun s => inR s 0 8)) = false by rw [Bool.and_assoc, hf', Bool.and_false], Bool.false_and])
      clear hfe hfee hf'
      go_enter Try.func26, Try.ntmps26
      go_wp2_with (first | (go_at_call 37; refine HVA.out.mono ?_; rintro e w' ⟨rfl, rfl⟩) | (go_at_call 52; refine HFE.out.mono ?_; rintro e w' ⟨rfl, rfl⟩))
      go_ret
      exact ⟨ret_bool HF.out.symm, Below.refl _ _⟩
  · have hv' : rowB 9 zs = false := by simpa using hv
    rw [hv'] at hva
    have HVA := Lib.hid hva
    have HF := Lib.hid (show V = false by rw [← HV.out]; exact unlB_row hv')
    clear hva hv hv' hfe
    go_enter Try.func26, Try.ntmps26
    go_wp2_with (go_at_call 37; refine HVA.out.mono ?_; rintro e w' ⟨rfl, rfl⟩)
    go_ret
    exact ⟨ret_bool HF.out.symm, Below.refl _ _⟩
end Go.Proofs.Ythfmmdigecjfnaa
