/- The walk of the law FnRunsOf. No condition. -/
import Derived.Test.YtdgdlmpmoafkgaaS9
import Derived.Test.YtdgdlmpmoafkgaaS8
namespace Go.Proofs.Ytdgdlmpmoafkgaa
open Go.RowKit

set_option maxRecDepth 100000 in
theorem inOrder_any (n : Nat) (w : World) (hn : n ≤ 1000) :
    Calls Try.prog 24 #[.int .i64 n] w fun e w' => ∃ A c, e = .returned (.slice A n c) ∧ n ≤ c ∧ OwnInts w' w.heap.size w'.heap.size A (tab n (fun j => (j : Int))) ∧ Below w.heap.size w w' := by
  obtain ⟨i0, hi0, hz0, hz1, hz2⟩ := info_parts Try.info3
  have hstart : (w.alloc (.cells #[] 3)).ownsRow w.heap.size 3 1 (.slice (some ⟨w.heap.size, 0, none⟩) 0 0) 0 [] := World.ownsRow_lit w #[] 0 (Nat.le_refl _) (by simp [maxLen]) rfl
  have hb0 : Below w.heap.size w (w.alloc (.cells #[] 3)) := (Below.refl _ _).alloc (Nat.le_refl _) _
  go_enter Try.func24, Try.ntmps24
  go_wp2
  go_loopw [3, 4] (fun v i wr => ∃ (k : Nat) (A : Option Addr) (c : Nat), k ≤ n ∧ i = .int .i64 k ∧ v = .slice A k c ∧ wr.ownsRow w.heap.size 3 1 (.slice A k c) k ((tab k (fun j => (j : Int))).map (Value.int .i64)) ∧ Below w.heap.size w wr) (fun _ i _ => n - (intOf i).toNat)
  case atStart => exact ⟨0, _, _, by omega, rfl, rfl, hstart, hb0⟩
  case round =>
    obtain ⟨k, A, c, hk, rfl, rfl, hown, hbr⟩ := hrel
    clear hstart hb0
    by_cases hlt : k < n
    · go_wp2_with (at_builtin; refine wpList_push rfl (.tmp 11) (.tmp 13) 22 rfl i0 (.int .i64 0) 8 Try.underlying22 hi0 hz0 hz1 hz2 rfl (by decide) _ _ rfl hown [.int .i64 (k : Int)] rfl rfl (by simp [Value.oneCell']) (by omega) (by omega) hbr.size ?_)
      intro A' c' w2 hown2 hg2
      have hbr2 := hbr.grown hg2 hbr.size (fun i hi => (hown.lt _ hi).1)
      clear hown hbr hg2
      go_wp2
      go_roundw
      case rel =>
        refine ⟨k + 1, A', c', by omega, by go_num, rfl, ?_, hbr2⟩
        unfold tab at hown2 ⊢
        rw [List.range_succ]
        simpa using hown2
      case measure => simp [intOf]; omega
    · have hk' : k = n := by omega
      subst hk'
      go_wp2
      go_ret
      have hcap := own_cap hown
      obtain ⟨A1, c1, hv, _, ho⟩ := own_of_row hown
      simp only [Value.slice.injEq] at hv
      obtain ⟨rfl, _, rfl⟩ := hv
      exact ⟨A, c, rfl, hcap, ho, hbr⟩

set_option maxRecDepth 100000 in
theorem backwards_any (A : Option Addr) (c : Nat) (zs : List Int) (w : World) (hr : Ints w w.heap.size A zs) (hl : zs.length ≤ 1000) :
    Calls Try.prog 31 #[.slice A zs.length c] w fun e w' => ∃ A' c', e = .returned (.slice A' zs.length c') ∧ zs.length ≤ c' ∧ OwnInts w' w.heap.size w'.heap.size A' zs.reverse ∧ Below w.heap.size w w' := by
  obtain ⟨i0, hi0, hz0, hz1, hz2⟩ := info_parts Try.info3
  have hstart : (w.alloc (.cells #[] 3)).ownsRow w.heap.size 3 1 (.slice (some ⟨w.heap.size, 0, none⟩) 0 0) 0 [] := World.ownsRow_lit w #[] 0 (Nat.le_refl _) (by simp [maxLen]) rfl
  have hb0 : Below w.heap.size w (w.alloc (.cells #[] 3)) := (Below.refl _ _).alloc (Nat.le_refl _) _
  go_enter Try.func31, Try.ntmps31
  go_wp2
  go_loopw [3, 4] (fun v i wr => ∃ (k : Nat) (A : Option Addr) (c : Nat), k ≤ zs.length ∧ i = .int .i64 ((zs.length : Int) - 1 - k) ∧ v = .slice A k c ∧ wr.ownsRow w.heap.size 3 1 (.slice A k c) k ((zs.reverse.take k).map (Value.int .i64)) ∧ Below w.heap.size w wr) (fun _ i _ => (intOf i + 1).toNat)
  case atStart => exact ⟨0, _, _, by omega, by go_num, rfl, hstart, hb0⟩
  case round =>
    obtain ⟨k, A1, c1, hk, rfl, rfl, hown, hbr⟩ := hrel
    clear hstart hb0
    by_cases hlt : k < zs.length
    · obtain ⟨b, o, rfl, hb, hc⟩ := (hr.below hbr).open (by simp; omega)
      have hcell := ints_at hc (show zs.length - 1 - k < zs.length by omega)
      obtain ⟨d, hd⟩ : ∃ d, zs.length - 1 - k = d := ⟨_, rfl⟩
      have hx : zs.reverse[k]'(by simp; omega) = zs[zs.length - 1 - k] := by rw [List.getElem_reverse]
      obtain ⟨x, hxe⟩ : ∃ x, zs[zs.length - 1 - k] = x := ⟨_, rfl⟩
      rw [hxe] at hcell hx
      rw [hd] at hcell
      have hidx : (zs.length : Int) - 1 - (k : Int) = (d : Int) := by omega
      rw [hidx]
      have hdl : d < zs.length := by omega
      have HX := Lib.hid hx
      have HD := Lib.hid hidx
      clear hc hx hxe hd hidx
      go_wp2_with (at_builtin; refine wpList_push rfl (.tmp 13) (.tmp 18) 22 rfl i0 (.int .i64 0) 8 Try.underlying22 hi0 hz0 hz1 hz2 rfl (by decide) _ _ rfl hown [.int .i64 x] rfl rfl (by simp [Value.oneCell']) (by omega) (by omega) hbr.size ?_)
      intro A' c' w2 hown2 hg2
      have hbr2 := hbr.grown hg2 hbr.size (fun i hi => (hown.lt _ hi).1)
      clear hown hbr hg2 hcell
      go_wp2
      go_roundw
      case rel =>
        refine ⟨k + 1, A', c', by omega, by have := HD.out; exact congrArg (Value.int .i64) (by omega), rfl, ?_, hbr2⟩
        rw [List.take_succ_eq_append_getElem (by simp; omega), HX.out]
        simpa using hown2
      case measure => simp [intOf]
    · have hk' : k = zs.length := by omega
      subst hk'
      go_wp2
      go_ret
      have hcap := own_cap hown
      rw [List.take_of_length_le (by simp)] at hown
      obtain ⟨A1, c1, hv, _, ho⟩ := own_of_row hown
      simp only [Value.slice.injEq] at hv
      obtain ⟨rfl, _, rfl⟩ := hv
      exact ⟨_, _, rfl, hcap, ho, hbr⟩

theorem rowB_of {m : Nat} {zs : List Int} (hl : zs.length ≤ m) (h1 : ∀ i : Nat, (hi : i < zs.length) → 0 ≤ zs[i] ∧ zs[i] < zs.length) (h2 : ∀ i j : Nat, (hi : i < zs.length) → (hj : j < zs.length) → zs[i] = zs[j] → i = j) : rowB m zs = true := by
  refine rowB_yes hl (List.all_eq_true.2 fun k hk => ?_)
  have hk' := List.mem_range.1 hk
  refine okAt_yes hk' (h1 k hk') fun hm => ?_
  obtain ⟨i, hi, he⟩ := List.getElem_of_mem hm
  simp only [List.length_take] at hi
  rw [List.getElem_take] at he
  have := h2 i k (by omega) hk' he
  omega

theorem rowB_rev {m : Nat} {zs : List Int} (h : rowB m zs = true) : rowB m zs.reverse = true := by
  refine rowB_of (by rw [List.length_reverse]; exact rowB_len h) (fun i hi => ?_) (fun i j hi hj he => ?_)
  · rw [List.getElem_reverse, List.length_reverse]
    exact (rowB_at h (by simp at hi; omega)).1
  · rw [List.getElem_reverse, List.getElem_reverse] at he
    simp only [List.length_reverse] at hi hj
    have := rowB_nodup h _ _ (by omega) (by omega) he
    omega

theorem rowB_tab (n : Nat) (hn : n ≤ 9) : rowB 9 (tab n fun j => (j : Int)) = true := by
  refine rowB_of (by rw [tab_length]; exact hn) (fun i hi => ?_) (fun i j hi hj he => ?_)
  · rw [tab_length] at hi ⊢; rw [tab_get hi]; omega
  · rw [tab_length] at hi hj; rw [tab_get hi, tab_get hj] at he; omega

theorem pl_rev {m : Nat} {zs : List Int} (h : rowB m zs = true) {x : Nat} (hx : x < zs.length) : pl zs.reverse (x : Int) = zs.length - 1 - pl zs (x : Int) := by
  have hp := pl_lt h hx
  have hg := pl_get h hx
  have hk : zs.length - 1 - pl zs (x : Int) < zs.reverse.length := by simp; omega
  have := pl_at (rowB_rev h) hk
  rw [List.getElem_reverse] at this
  have e : zs[zs.length - 1 - (zs.length - 1 - pl zs (x : Int))]'(by omega) = (x : Int) := by
    simp only [show zs.length - 1 - (zs.length - 1 - pl zs (x : Int)) = pl zs (x : Int) by omega]; exact hg
  rwa [e] at this

theorem pl_inj {m : Nat} {zs : List Int} (h : rowB m zs = true) {x y : Nat} (hx : x < zs.length) (hy : y < zs.length) (he : pl zs (x : Int) = pl zs (y : Int)) : x = y := by
  have h1 := pl_get h hx
  have h2 := pl_get h hy
  simp only [he] at h1
  omega

theorem runNo_rev {m : Nat} {zs : List Int} (h : rowB m zs = true) {x : Nat} (hx : x < zs.length) : runNo zs.reverse x + runNo zs x = x := by
  induction x with
  | zero => rfl
  | succ d ih =>
    have := ih (by omega)
    have h1 := pl_rev h hx
    have h0 := pl_rev h (show d < zs.length by omega)
    have hl1 := pl_lt h hx
    have hl0 := pl_lt h (show d < zs.length by omega)
    have hne : pl zs ((d + 1 : Nat) : Int) ≠ pl zs (d : Int) := fun e => by have := pl_inj h hx (by omega) e; omega
    simp only [runNo, h1, h0]
    by_cases hlt : pl zs ((d + 1 : Nat) : Int) < pl zs (d : Int)
    · rw [if_pos hlt, if_neg (by omega)]; omega
    · rw [if_neg hlt, if_pos (by omega)]; omega

theorem runNo_tab {n : Nat} (hn : n ≤ 9) {x : Nat} (hx : x < n) : runNo (tab n fun j => (j : Int)) x = 0 := by
  have hp : ∀ y, y < n → pl (tab n fun j => (j : Int)) (y : Int) = y := fun y hy => by
    have := pl_at (rowB_tab n hn) (k := y) (by rw [tab_length]; exact hy)
    rwa [tab_get hy] at this
  induction x with
  | zero => rfl
  | succ d ih => simp only [runNo, ih (by omega), hp _ hx, hp d (by omega)]; rw [if_neg (by omega)]

theorem runsN_tab {n : Nat} (hn : n ≤ 9) (h0 : 0 < n) : runsN (tab n fun j => (j : Int)) = 1 := by
  rw [runsN_yes (rowB_tab n hn)]
  unfold runsNat
  rw [tab_length, if_neg (by omega), runNo_tab hn (by omega)]
  rfl
theorem runsN_rev {zs : List Int} (h : rowB 9 zs = true) (h0 : 0 < zs.length) : runsN zs + runsN zs.reverse = (zs.length : Int) + 1 := by
  rw [runsN_yes h, runsN_yes (rowB_rev h)]
  unfold runsNat
  rw [List.length_reverse, if_neg (by omega), if_neg (by omega)]
  have := runNo_rev h (show zs.length - 1 < zs.length by omega)
  omega

set_option maxRecDepth 100000 in
theorem drawRunsOf_any (A : Option Addr) (c : Nat) (zs : List Int) (w : World) (hr : Own w 0 w.heap.size A (zs.map (Value.int .u8))) (hx : zs.length ≤ c ∧ c ≤ maxLen ∧ ∀ z ∈ zs, (Lit.int .u8 z).wf = true) :
    Calls Try.prog 28 #[.slice A zs.length c] w fun e w' => ∃ (A : Option Addr) (c : Nat) (ds : List Int), e = .returned (.slice A ds.length c) ∧ ds.length ≤ 10 ∧ ds.length ≤ c ∧ Own w' 0 w'.heap.size A (ds.map (Value.int .i64)) ∧ Below w.heap.size w w' := by
  have H := Lib.hid hx
  clear hx
  go_enter Try.func28, Try.ntmps28
  go_wp2_with fail
  refine (newReader_any _ _ _ _ hr H.out).mono ?_
  rintro e w1 ⟨rfl, hrd, hb1⟩
  go_wp2_with fail
  refine (someRow_any _ 0 _ hrd (by omega)).mono ?_
  rintro e w2 ⟨A2, c2, ds, rfl, h10, hc, ho, _, hg⟩
  go_wp2_with fail
  go_ret
  exact ⟨A2, c2, ds, rfl, h10, hc, ho.row, hb1.grown hg hb1.size (fun k hk => by injection hk with hk; omega)⟩
end Go.Proofs.Ytdgdlmpmoafkgaa
