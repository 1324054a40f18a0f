/- slices.Backward, and greedyOf over it. No condition. -/
import Derived.Test.YtookdmdlpglbcabY7
import Derived.Test.YtookdmdlpglbcabY9
namespace Go.Proofs.Ytookdmdlpglbcab
open Go.RowKit
open Go.Shelf
attribute [local go_sem] Oper.semAt_some

/-- A place and a stamp. -/
abbrev PS := { p : Nat × Int // 1 ≤ p.2 ∧ p.2 ≤ 12 }
abbrev encP (x : PS) : Array Value := #[.int .i64 (x.1.1 : Int), .int .i64 x.1.2]
/-- What lies below n₀, and in block B, stays. -/
def KeepB (n₀ B : Nat) (W W' : World) : Prop := ∀ a : Addr, (a.block < n₀ ∨ a.block = B) → W'.cell? a = W.cell? a
theorem KeepB.refl (n₀ B : Nat) (W : World) : KeepB n₀ B W W := fun _ _ => rfl
theorem KeepB.trans {n₀ B : Nat} {X Y Z : World} (h : KeepB n₀ B X Y) (k : KeepB n₀ B Y Z) : KeepB n₀ B X Z := fun a ha => (k a ha).trans (h a ha)
theorem KeepB.own {n₀ B : Nat} {X Y : World} (h : KeepB n₀ B X Y) {A : Option Addr} {xs : List Value} (ho : Own X 0 n₀ A xs) : Own Y 0 n₀ A xs := by
  rcases ho with h' | ⟨b, o, rfl, h0, hlt, hc, hf⟩
  · exact .inl h'
  · exact .inr ⟨b, o, rfl, h0, hlt, fun j u hu => (h _ (.inl hlt)).trans (hc j u hu), fun h => by omega⟩
theorem KeepB.setCell (n₀ B : Nat) (W : World) {b i : Nat} (v : Value) (h1 : n₀ ≤ b) (h2 : b ≠ B) : KeepB n₀ B W (W.setCell ⟨b, i, none⟩ v) := fun a ha =>
  World.cell?_setCell_other _ _ _ _ (by rintro rfl; rcases ha with h | h <;> simp only at h <;> omega)
theorem keepB_put (n₀ B : Nat) {n : Nat} (hn : n₀ ≤ n) (hB : B < n) : ∀ (W : World) (l : Nat) (o o' : Obj), n ≤ l → W.heap[l]? = some o → o.isCells = false → o.isWalk = false → KeepB n₀ B W (W.putObj l o') := fun W l o o' hl _ _ _ a ha => by
  have hne : a.block ≠ l := by rcases ha with h | h <;> omega
  simp only [World.cell?, World.putObj_heap_other (w := W) (o := o') hne]

set_option maxHeartbeats 1000000 in
theorem backward1_in (F : Fence) (n : Nat) (hF : F.fn 52) (hro : F.round = none) (hn : 1 ≤ n) (l Bs n₀ : Nat) (A : Option Addr) (c : Nat) (v : List Int) (hp : ∀ s ∈ v, 1 ≤ s ∧ s ≤ 12) (hlen : v.length ≤ 100) (J Jx : List PS → World → Prop)
    (hY : ∀ pre x W, J pre W → pre.length < v.length → YieldAt F (n - 1) Try.prog l (encP x) W fun e W' =>
      (e = .returned (.bool true) ∧ J (pre ++ [x]) W' ∧ KeepB n₀ Bs W W') ∨ (e = .returned (.bool false) ∧ Jx (pre ++ [x]) W'))
    (W : World) (hBs : W.cell? ⟨Bs, 0, none⟩ = some (.slice A v.length c)) (ho : Ints W n₀ A v) (h0 : J [] W) :
    CallsIn F n Try.prog 52 #[.func (.yield l) #[] #[], .pointer (some ⟨Bs, 0, none⟩)] W fun e W' => (∃ v, e = .returned v) ∧
      ((∃ ys : List PS, ys.map (·.1.2) = v.reverse ∧ J ys W') ∨ (∃ pre : List PS, True ∧ Jx pre W')) := by
  refine callsIn_of_wp Try.func52 rfl hF ?_ hro
  simp only [Try.ntmps52, List.size_toArray, List.length_cons, List.length_nil, Nat.reduceAdd, Nat.reduceSub, Array.replicate_succ, Array.replicate_zero, List.push_toArray, List.append_toArray, List.nil_append, List.cons_append]
  have hwl : IntKind.i64.wrap ((v.length : Int) - 1) = (v.length : Int) - 1 := IntWalk.i64_in _ (by omega)
  gi_wp2
  clear hwl
  gi_loopw [3] (fun i wr => ∃ (k : Nat) (pre : List PS), k ≤ v.length ∧ i = .int .i64 ((k : Int) - 1) ∧ pre.map (·.1.2) = (v.drop k).reverse ∧ J pre wr ∧ KeepB n₀ Bs W wr)
    (fun i _ => (intOf i + 1).toNat)
  case atStart => exact ⟨v.length, [], Nat.le_refl _, rfl, by simp, h0, KeepB.refl _ _ _⟩
  case round =>
    obtain ⟨k, pre, hk, rfl, hpre, hJs, hkp⟩ := hrel
    have HP := Lib.hid hpre
    have HK := Lib.hid hkp
    have hplen : pre.length = v.length - k := by have := congrArg List.length hpre; simpa using this
    have hbox := (hkp ⟨Bs, 0, none⟩ (.inr rfl)).trans hBs
    have hor := hkp.own ho
    clear hpre hkp ho
    by_cases hk0 : k = 0
    · subst hk0
      have HE := Lib.hid (show pre.map (·.1.2) = v.reverse by rw [HP.out]; simp)
      gi_wp2
      go_end0
      exact ⟨⟨_, rfl⟩, .inl ⟨pre, HE.out, hJs⟩⟩
    · obtain ⟨j, rfl⟩ : ∃ j, k = j + 1 := ⟨k - 1, by omega⟩
      have hjl : j < v.length := by omega
      obtain ⟨b, o, rfl, hb, hc⟩ := hor.open (by simp; omega)
      have hcell := ints_at hc hjl
      have hs12 := hp _ (List.getElem_mem hjl)
      have HD := Lib.hid (List.drop_eq_getElem_cons hjl)
      obtain ⟨s, hse⟩ : ∃ s, v[j] = s := ⟨_, rfl⟩
      rw [hse] at hcell hs12 HD
      have hi : ((j + 1 : Nat) : Int) - 1 = (j : Int) := by omega
      have hw4 : IntKind.i64.wrap ((j : Int) - 1) = (j : Int) - 1 := IntWalk.i64_in _ (by omega)
      have HN := Lib.hid (show (pre ++ [(⟨(j, s), hs12⟩ : PS)]).map (·.1.2) = (v.drop j).reverse by rw [List.map_append, HP.out, HD.out, List.reverse_cons]; rfl)
      obtain ⟨fn, tmps, assign, body, hy, hR⟩ := hY pre ⟨(j, s), hs12⟩ wr hJs (by omega)
      dsimp only [encP] at hy
      rw [hi]
      clear hc hor hi hse hplen
      gi_wp2
      refine hR.mono ?_
      rintro e W3 (⟨rfl, hJ3, hk3⟩ | ⟨rfl, hJx3⟩)
      · gi_wp2
        go_roundw
        case rel => exact ⟨j, pre ++ [⟨(j, s), hs12⟩], by omega, by go_num, HN.out, hJ3, HK.out.trans hk3⟩
        case measure => simp [intOf]
      · gi_wp2
        refine bodyPost_ret (results_none rfl _ _ _) rfl ?_
        exact ⟨⟨_, rfl⟩, .inr ⟨_, trivial, hJx3⟩⟩

theorem backward_stops (F : Fence) (n : Nat) (hF : F.fn 52) (hro : F.round = none) (hn : 1 ≤ n) (Bs n₀ : Nat) (A : Option Addr) (c : Nat) (v : List Int) (hp : ∀ s ∈ v, 1 ≤ s ∧ s ≤ 12) (hlen : v.length ≤ 100) (w : World)
    (hB : Bs < w.heap.size) (hn₀ : n₀ ≤ w.heap.size) (hc : w.cell? ⟨Bs, 0, none⟩ = some (.slice A v.length c)) (ho : Ints w n₀ A v) :
    SeqStopsK F n Try.prog 52 #[.pointer (some ⟨Bs, 0, none⟩)] encP (KeepB n₀ Bs) (fun ys => ys.map (·.1.2) = v.reverse) (fun _ => True) v.length w :=
  fun l J Jx W hW _ _ hY h0 => backward1_in F n hF hro hn l Bs n₀ A c v hp hlen J Jx hY W ((hW.cell (p := ⟨Bs, 0, none⟩) hB).trans hc) (ho.below (hW.mono hn₀)) h0

set_option maxRecDepth 100000 in
theorem backward_any (A : Option Addr) (n c : Nat) (w : World) :
    Calls Try.prog 48 #[.slice A n c] w fun e w' => e = .returned (.func (.func 52) #[] #[.pointer (some ⟨w.heap.size, 0, none⟩)]) ∧ w' = w.alloc (.cells #[.slice A n c] 23) := by
  go_enter Try.func48, Try.ntmps48
  go_wp2
  go_ret
  exact ⟨rfl, rfl⟩
end Go.Proofs.Ytookdmdlpglbcab
