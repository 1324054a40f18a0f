/- How many different numbers. No condition. -/
import Derived.Test.YtldbefmiabgkhabDi
namespace Go.Proofs.Ytldbefmiabgkhab
open Go.RowKit

def firsts : List Int → List Int
  | [] => []
  | x :: xs => x :: (firsts xs).filter (fun y => decide (y ≠ x))
theorem firsts_mem {l : List Int} {x : Int} : x ∈ firsts l ↔ x ∈ l := by
  induction l with
  | nil => simp [firsts]
  | cons a l ih =>
    simp only [firsts, List.mem_cons, List.mem_filter, ih, decide_eq_true_eq]
    constructor
    · rintro (h | ⟨h, _⟩)
      · exact .inl h
      · exact .inr h
    · rintro (h | h)
      · exact .inl h
      · by_cases e : x = a
        · exact .inl e
        · exact .inr ⟨h, e⟩
theorem firsts_nodup (l : List Int) : (firsts l).Nodup := by
  induction l with
  | nil => simp [firsts]
  | cons a l ih =>
    simp only [firsts, List.nodup_cons, List.mem_filter]
    exact ⟨fun h => by simpa using h.2, ih.filter _⟩
theorem firsts_snoc (l : List Int) (x : Int) : (firsts (l ++ [x])).length = (firsts l).length + if x ∈ l then 0 else 1 := by
  have perm : ∀ a b : List Int, a.Nodup → b.Nodup → (∀ y, y ∈ a ↔ y ∈ b) → a.length = b.length := fun a b ha hb h => ((List.perm_ext_iff_of_nodup ha hb).2 h).length_eq
  by_cases hx : x ∈ l
  · rw [if_pos hx]
    refine perm _ _ (firsts_nodup _) (firsts_nodup _) fun y => ?_
    rw [firsts_mem, firsts_mem, List.mem_append, List.mem_singleton]
    exact ⟨fun h => h.elim id (fun e => e ▸ hx), .inl⟩
  · rw [if_neg hx]
    have := perm (firsts (l ++ [x])) (firsts l ++ [x]) (firsts_nodup _) (by
      rw [List.nodup_append]
      refine ⟨firsts_nodup _, by simp, fun a ha b hb => ?_⟩
      simp only [List.mem_singleton] at hb
      subst hb
      intro e; subst e
      exact hx (firsts_mem.1 ha)) fun y => by rw [firsts_mem, List.mem_append, List.mem_append, firsts_mem]
    rw [this]; simp
theorem nodup_leI {l l' : List Int} (hn : l.Nodup) (hs : ∀ y ∈ l, y ∈ l') : l.length ≤ l'.length := by
  induction l generalizing l' with
  | nil => simp
  | cons a l ih =>
    obtain ⟨h1, h2⟩ := List.nodup_cons.1 hn
    have ha : a ∈ l' := hs a (by simp)
    have := ih (l' := l'.erase a) h2 (fun y hy => (List.mem_erase_of_ne (fun (e : y = a) => h1 (by rw [← e]; exact hy))).2 (hs y (by simp [hy])))
    rw [List.length_erase_of_mem ha] at this
    have := List.length_pos_of_mem ha
    simp only [List.length_cons]
    omega
def diffC (l : List Int) : Nat := (firsts l).length
theorem diffC_le (l : List Int) : diffC l ≤ l.length := nodup_leI (firsts_nodup l) fun _ h => firsts_mem.1 h
theorem diffC_step {l : List Int} {k : Nat} (h : k < l.length) : diffC (l.take (k + 1)) = diffC (l.take k) + if l[k] ∈ l.take k then 0 else 1 := by
  rw [List.take_succ_eq_append_getElem h]; exact firsts_snoc _ _
set_option maxRecDepth 100000 in
set_option maxHeartbeats 2000000 in
theorem different2_any (A : Option Addr) (c : Nat) (zs : List Int) (w : World) (hr : Ints w w.heap.size A zs) (hc : zs.length ≤ c) (hl : zs.length ≤ 1000000) :
    Calls Try.prog 23 #[.slice A zs.length c] w fun e w' => e = .returned (.int .i64 (diffC zs : Nat)) ∧ ∃ n, w' = w.drewN n := by
  go_enter Try.func23, Try.ntmps23
  go_wp2
  go_loopw [3, 4] (fun m i wr => ∃ k : Nat, k ≤ zs.length ∧ i = .int .i64 k ∧ m = .int .i64 (diffC (zs.take k) : Nat) ∧ ∃ n, wr = w.drewN n) (fun _ i _ => zs.length - (intOf i).toNat)
  case atStart => exact ⟨0, by omega, rfl, rfl, 0, rfl⟩
  case round =>
    obtain ⟨k, hk, rfl, rfl, hwr⟩ := hrel
    have HWR := Lib.hid hwr
    have hbw : Below w.heap.size w wr := by obtain ⟨n, rfl⟩ := hwr; exact below_drewN (Below.refl _ _) n
    have hrr := hr.below hbw
    have hz := hbw.size
    have hdl : diffC (zs.take k) ≤ k := by have := diffC_le (zs.take k); rw [List.length_take] at this; omega
    obtain ⟨W, hW⟩ : ∃ W : World, W = wr := ⟨_, rfl⟩
    subst hW
    clear hwr
    by_cases hlt : k < zs.length
    · obtain ⟨b, o, rfl, hb, hcc⟩ := hrr.open (by simp; omega)
      have hcell := ints_at hcc hlt
      have HST := Lib.hid (diffC_step hlt)
      obtain ⟨z, hze⟩ : ∃ z, zs[k] = z := ⟨_, rfl⟩
      rw [hze] at hcell HST
      have hsl := slice_uptoI b o zs.length c k (by omega)
      have hrow : Ints W W.heap.size (some ⟨b, o, none⟩) (zs.take k) := by
        have := (hrr.more hz).take k
        rwa [← List.map_take] at this
      have hml : (zs.take k).length = k := by rw [List.length_take]; omega
      have hq := fun m => isIn_any (some ⟨b, o, none⟩) c (zs.take k) z (W.drewN m) (hrow.below (below_drewN (Below.refl _ _) m)) (by omega)
      rw [hml] at hq
      obtain ⟨D, hD⟩ : ∃ D, diffC (zs.take k) = D := ⟨_, rfl⟩
      rw [hD] at HST hdl ⊢
      have hk0 : (0 : Int) ≤ (k : Int) := by omega
      have hkI : (k : Int) < zs.length := by omega
      by_cases hin : z ∈ zs.take k
      · rw [decide_eq_true hin] at hq
        have HQ := Lib.hid hq
        have HF := Lib.hid (show diffC (zs.take (k + 1)) = D by rw [HST.out, if_pos hin]; rfl)
        clear hcc hin hze hq hrow hml hD
        go_wp2
        go_quiet ((go_at_call 22; exact Calls.quiet_of ((HQ.out _).mono fun _ _ ⟨h1, h2⟩ => ⟨h1, 0, h2.symm⟩)))
        go_simp
        clear hsl
        go_wp2
        go_roundw
        case rel => exact ⟨k + 1, by omega, by go_num, by rw [HF.out], by obtain ⟨n, hn⟩ := HWR.out; rw [hn]; exact ⟨_, World.drewN_drewN ..⟩⟩
        case measure => simp [intOf]; omega
      · rw [decide_eq_false hin] at hq
        have HQ := Lib.hid hq
        have HF := Lib.hid (show diffC (zs.take (k + 1)) = D + 1 by rw [HST.out, if_neg hin])
        clear hcc hin hze hq hrow hml hD
        go_wp2
        go_quiet ((go_at_call 22; exact Calls.quiet_of ((HQ.out _).mono fun _ _ ⟨h1, h2⟩ => ⟨h1, 0, h2.symm⟩)))
        go_simp
        clear hsl
        go_wp2
        go_roundw
        case rel => exact ⟨k + 1, by omega, by go_num, by rw [HF.out]; go_num, by obtain ⟨n, hn⟩ := HWR.out; rw [hn]; exact ⟨_, World.drewN_drewN ..⟩⟩
        case measure => simp [intOf]; omega
    · have hk' : k = zs.length := by omega
      subst hk'
      rw [List.take_length]
      clear hdl
      go_wp2
      go_ret
      exact ⟨rfl, HWR.out⟩
end Go.Proofs.Ytldbefmiabgkhab
