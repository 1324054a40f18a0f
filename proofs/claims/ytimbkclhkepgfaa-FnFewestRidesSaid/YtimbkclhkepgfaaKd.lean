/- Coaches are sorted. No condition. -/
import Derived.Test.YtimbkclhkepgfaaKc
import Derived.Test.YtimbkclhkepgfaaShelf
import Derived.Shelf.SlSortCmp.SmallK
namespace Go.Proofs.Ytimbkclhkepgfaa
open Go.RowKit
open Go.Shelf Go.Lib Go.Sort

instance : Inhabited Coach := ⟨⟨0, 0, 0, 0⟩⟩

theorem cmpC_lt (x y : Coach) : ltOf (fun x y : Coach => Lib.compareInt x.lv y.lv) x y = decide (x.lv < y.lv) := by
  unfold ltOf Lib.compareInt
  by_cases h1 : x.lv < y.lv
  · simp [h1]
  · by_cases h2 : y.lv < x.lv <;> simp [h1, h2]
theorem cmpC_swo : SWO (ltOf fun x y : Coach => Lib.compareInt x.lv y.lv) where
  irrefl x := by rw [cmpC_lt]; simp
  trans x y z h1 h2 := by rw [cmpC_lt] at *; simp at *; omega
  ntrans x y z h1 h2 := by rw [cmpC_lt] at *; simp at *; omega

set_option maxRecDepth 100000 in
set_option maxHeartbeats 1000000 in
theorem byLeaving_any (x y : Coach) (W : World) : Calls Try.prog 33 #[.agg (cv x).toArray, .agg (cv y).toArray] W fun e w' => e = .returned (.int .i64 (Lib.compareInt x.lv y.lv)) ∧ ∃ q os', w' = grow (W.drewN q) os' := by
  obtain ⟨r, hr⟩ : ∃ r, Lib.compareInt x.lv y.lv = r := ⟨_, rfl⟩
  have hcon := fun W' => Try.cmp_Compare_int x.lv y.lv W'
  rw [hr] at hcon ⊢
  have HC := Lib.hid hcon
  clear hcon hr
  obtain ⟨a1, a2, a3, a4⟩ := x
  obtain ⟨b1, b2, b3, b4⟩ := y
  show Calls Try.prog 33 #[.agg #[.int .i64 a1, .int .i64 a2, .int .i64 a3, .int .i64 a4], .agg #[.int .i64 b1, .int .i64 b2, .int .i64 b3, .int .i64 b4]] W _
  go_enter Try.func33, Try.ntmps33
  go_wp2_with (go_at_call 38; refine (HC.out _).mono ?_; rintro e w' ⟨rfl, rfl⟩)
  go_ret
  exact ⟨rfl, 0, _, by rw [alloc_eq_grow, alloc_eq_grow, grow_grow]; rfl⟩
theorem cmpLaysC (blk off size : Nat) (w : World) : CmpLays Try.prog 33 #[] cv 4 (fun x y : Coach => Lib.compareInt x.lv y.lv) blk off size w :=
  fun _ _ _ _ x y => byLeaving_any x y _
theorem hlenC (n : Nat) (W : World) (h : n ≤ 12) : Calls Try.prog 37 #[.int .u64 n] W fun e w' => (∃ l : Int, e = .returned (.int .i64 l)) ∧ w' = W :=
  (Try.bits_Len n W (by omega) (by omega)).mono fun _ _ ⟨he, hw⟩ => ⟨⟨_, he⟩, hw⟩

theorem flat_at (cs : List Coach) (j : Nat) (h : j < 4 * cs.length) : (flatC cs)[j]? = some (cv (cs.toArray[j / 4]!))[j % 4]! := by
  have h1 : j / 4 < cs.length := by omega
  have h2 := flatC_get cs (j / 4) (j % 4) h1 (by omega)
  rw [show j / 4 * 4 + j % 4 = j by omega] at h2
  rw [h2]
  have h3 : cs.toArray[j / 4]! = cs[j / 4] := by simp [h1]
  rw [h3]
  have h4 : j % 4 < (cv cs[j / 4]).length := by simp [cv]; omega
  rw [List.getElem?_eq_getElem h4, getElem!_pos (cv cs[j / 4]) (j % 4) h4]
theorem holdsC {w : World} {base B b o : Nat} {cs : List Coach} (h : Own w (base + 1) B (some ⟨b, o, none⟩) (flatC cs)) : HoldsK cv 4 w b o cs.toArray := by
  intro j hj
  rw [size_flatK, List.size_toArray] at hj
  obtain ⟨b', o', e, h1, h2, h3, h4⟩ := h.open' (by omega) (by rw [flatC_length]; omega)
  simp only [Option.some.injEq, Addr.mk.injEq, and_true] at e
  obtain ⟨rfl, rfl⟩ := e
  rw [get_flatK _ _ _ _ (by rw [List.size_toArray]; exact hj)]
  exact ⟨h3 j _ (flat_at cs j (by omega)), h4 _⟩
theorem ownC {w : World} {base b o : Nat} {cs : List Coach} {d : Array Coach} (h : HoldsK cv 4 w b o d) (hb : base ≤ b) (hlt : b < w.heap.size) (hd : d.toList = cs) (hf : ∀ j, w.frozen? ⟨b, j, none⟩ = false) : Own w (base + 1) w.heap.size (some ⟨b, o, none⟩) (flatC cs) := by
  subst hd
  refine .inr ⟨b, o, rfl, by omega, hlt, fun j u hu => ?_, fun _ j => hf j⟩
  have hj : j < 4 * d.toList.length := by
    have := (List.getElem?_eq_some_iff.1 hu).1
    rwa [flatC_length] at this
  rw [flat_at _ _ hj] at hu
  have hj2 : j < d.size * 4 := by simp at hj; omega
  have := (h j (by rw [size_flatK]; exact hj2)).1
  rw [get_flatK _ _ _ _ hj2] at this
  rw [this]
  simpa using hu
theorem sortC_grown {w : World} {b o n : Nat} {d : Array Coach} {os : Array Obj} : w.grownBy (sortWorldK cv 4 w b o n d os) (some b) := by
  refine ⟨rfl, rfl, rfl, by unfold sortWorldK putRowK; simp, fun k hk hne => ?_⟩
  have : b ≠ k := fun e => hne (by rw [e])
  unfold sortWorldK putRowK
  rw [heap_grow_old _ _ (by simpa using hk)]
  simp [putRow, mapBlock, Sort.ahead, Array.getElem?_modify, this]

/-- What sorting leaves. -/
def SortedC (w : World) (base : Nat) (A : Option Addr) (b : Nat) (cs : List Coach) (e : Ending) (w' : World) : Prop :=
  e = .returned (.tuple #[]) ∧ ∃ ds, ds.Perm cs ∧ ds.Pairwise (fun a b => a.lv ≤ b.lv) ∧ Own w' (base + 1) w'.heap.size A (flatC ds) ∧ w.grownBy w' (some b)
theorem isAggC : ∀ w, (isAgg 65).run Try.prog w = .ok true w := fun _ => by kernel_rfl
theorem sizeC : ∀ w, (Go.sizeOf 65).run Try.prog w = .ok 4 w := fun _ => by kernel_rfl

theorem sortFuncC_some (b o c base : Nat) (cs : List Coach) (w : World) (ho : Own w (base + 1) w.heap.size (some ⟨b, o, none⟩) (flatC cs)) (h0 : 0 < cs.length) (h10 : cs.length ≤ 10) :
    Calls Try.prog 32 #[.slice (some ⟨b, o, none⟩) cs.length c, .func (.func 33) #[] #[]] w (SortedC w base (some ⟨b, o, none⟩) b cs) := by
  obtain ⟨b', o', e, hb1, hlt, _, hf⟩ := ho.open' (by omega) (by rw [flatC_length]; omega)
  simp only [Option.some.injEq, Addr.mk.injEq, and_true] at e
  obtain ⟨rfl, rfl⟩ := e
  have eg : ∀ args w, (callFunc 33 args).run Try.prog w = .ok (.enter 33 args) w := enters_of Try.func33 (by kernel_rfl) rfl
  have hcon := AnyQ.slices_SortFunc_small_sorted Try.sortCoach 4 isAggC sizeC cv (fun _ => rfl) (fun x v hv => by simp [cv] at hv; rcases hv with rfl | rfl | rfl | rfl <;> rfl) (fun x y : Coach => Lib.compareInt x.lv y.lv) 33 #[] cmpC_swo b o c cs.toArray w eg (cmpLaysC b o cs.toArray.size w) (holdsC ho) hlt (by simpa using (by omega : cs.length ≤ 12)) hlenC
  rw [List.size_toArray] at hcon
  refine Calls.mono hcon ?_
  rintro e w' ⟨rfl, d', n, os, hp, hs, rfl⟩
  have hH := holdsK_sortWorldK_c cv 4 w b o cs.toArray d' n os (holdsC ho) hlt hp.1
  have hsz : d'.size = cs.length := by have := hp.1; simpa using this
  refine ⟨rfl, d'.toList, ?_, ?_, ?_, sortC_grown⟩
  · have h := hp.2.2
    have e1 : d'.extract 0 cs.length = d' := by rw [← hsz]; exact Array.extract_size
    have e2 : cs.toArray.extract 0 cs.length = cs.toArray := by
      have := Array.extract_size (xs := cs.toArray)
      rwa [List.size_toArray] at this
    rw [e1, e2] at h
    simpa using h
  · rw [List.pairwise_iff_getElem]
    intro i j hi hj hij
    simp only [Array.length_toList] at hi hj
    have h := hs i j (by omega) hij (by omega)
    rw [cmpC_lt, getElem!_pos d' j hj, getElem!_pos d' i hi] at h
    have := of_decide_eq_false h
    simp only [Array.getElem_toList]
    omega
  · refine ownC hH (by omega) (Nat.lt_of_lt_of_le hlt sortC_grown.size) rfl (fun j => ?_)
    have := hf j
    unfold sortWorldK putRowK
    rw [frozen?_grow _ _ _ (by simpa using hlt)]
    simpa using this

set_option maxRecDepth 100000 in
theorem insSortC_nil (A : Option Addr) (c : Nat) (F : Value) (w : World) :
    Calls Try.prog 39 #[.slice A 0 c, .int .i64 0, .int .i64 0, F] w fun e w' => e = .returned (.tuple #[]) ∧ w = w' := by
  go_enter Try.func39, Try.ntmps39
  go_wp2
  go_rounds 1
  go_end0
  exact ⟨rfl, rfl⟩
set_option maxRecDepth 100000 in
theorem pdqC_nil (A : Option Addr) (c : Nat) (l : Int) (F : Value) (w : World) :
    Calls Try.prog 36 #[.slice A 0 c, .int .i64 0, .int .i64 0, .int .i64 l, F] w fun e w' => e = .returned (.tuple #[]) ∧ w = w' := by
  have H := Lib.hid (insSortC_nil A c F)
  go_enter Try.func36, Try.ntmps36
  go_wp2
  refine wp_loop_rounds 1 ?_
  rw [rounds_succ]
  go_wp2_with (go_at_call 39; ((with_reducible refine (H.out _).mono ?_); rintro e w2 ⟨rfl, rfl⟩))
  exact bodyPost_ret (results_none (by rfl) _ _ _) rfl ⟨rfl, rfl⟩
set_option maxRecDepth 100000 in
theorem sortFuncC_nil (A : Option Addr) (c : Nat) (F : Value) (w : World) :
    Calls Try.prog 32 #[.slice A 0 c, F] w fun e w' => e = .returned (.tuple #[]) ∧ w = w' := by
  have H := Lib.hid (fun l => pdqC_nil A c l F)
  have HL := Lib.hid (fun W => hlenC 0 W (by omega))
  go_enter Try.func32, Try.ntmps32
  go_wp2_with (first | (go_at_call 37; refine (HL.out _).mono ?_; rintro e w' ⟨⟨l, rfl⟩, rfl⟩) | (go_at_call 36; refine (H.out _ _).mono ?_; rintro e w' ⟨rfl, rfl⟩))
  go_end0
  exact ⟨rfl, rfl⟩
end Go.Proofs.Ytimbkclhkepgfaa
