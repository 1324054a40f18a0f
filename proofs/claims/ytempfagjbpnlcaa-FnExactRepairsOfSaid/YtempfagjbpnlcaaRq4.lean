/- Repairs: arrays of four are sorted (written by gen_xrpb.py). No condition. -/
import Derived.Test.YtempfagjbpnlcaaRq3
import Derived.Test.YtempfagjbpnlcaaShelf
import Derived.Shelf.SlSortCmp.SmallK
import Derived.Test.YtempfagjbpnlcaaG6
namespace Go.Proofs.Ytempfagjbpnlcaa
open Go.RowKit
open Go.Shelf Go.Lib Go.Sort

structure Four where
  a : Int
  b : Int
  c : Int
  d : Int
instance : Inhabited Four := ⟨⟨0, 0, 0, 0⟩⟩
def fl (x : Four) : List Int := [x.a, x.b, x.c, x.d]
def fv (x : Four) : List Value := [.int .i64 x.a, .int .i64 x.b, .int .i64 x.c, .int .i64 x.d]
def flatQ (cs : List Four) : List Value := cs.flatMap fv

theorem cmp4_lt (a b c d p q r s : Int) : cmpL [a, b, c, d] [p, q, r, s] < 0 ↔ (a < p ∨ (a = p ∧ (b < q ∨ (b = q ∧ (c < r ∨ (c = r ∧ d < s)))))) := by
  simp only [cmpL]
  repeat' split
  all_goals omega
theorem cmp4_le (a b c d p q r s : Int) (h : ¬ (p < a ∨ (p = a ∧ (q < b ∨ (q = b ∧ (r < c ∨ (r = c ∧ s < d))))))) : cmpL [a, b, c, d] [p, q, r, s] ≤ 0 := by
  simp only [cmpL]
  repeat' split
  all_goals omega
theorem cmpQ_lt (x y : Four) : ltOf (fun x y : Four => cmpL (fl x) (fl y)) x y = decide (x.a < y.a ∨ (x.a = y.a ∧ (x.b < y.b ∨ (x.b = y.b ∧ (x.c < y.c ∨ (x.c = y.c ∧ x.d < y.d)))))) := by
  unfold ltOf fl
  exact decide_eq_decide.2 (cmp4_lt _ _ _ _ _ _ _ _)
theorem cmpQ_swo : SWO (ltOf fun x y : Four => cmpL (fl x) (fl y)) where
  irrefl x := by rw [cmpQ_lt]; simp
  trans x y z h1 h2 := by rw [cmpQ_lt] at *; simp only [decide_eq_true_eq] at *; omega
  ntrans x y z h1 h2 := by rw [cmpQ_lt] at *; simp only [decide_eq_false_iff_not] at *; omega

theorem grow_drewN (w : World) (os : Array Obj) (n : Nat) : (grow w os).drewN n = grow (w.drewN n) os := by
  rfl

set_option maxRecDepth 100000 in
set_option maxHeartbeats 2000000 in
theorem cmpFourG_any (p q r s a b c d : Int) (w : World) :
    Calls Try.prog 39 #[.agg #[.int .i64 p, .int .i64 q, .int .i64 r, .int .i64 s], .agg #[.int .i64 a, .int .i64 b, .int .i64 c, .int .i64 d]] w fun e w' => e = .returned (.int .i64 (cmpL [p, q, r, s] [a, b, c, d])) ∧ ∃ q os', w' = grow (w.drewN q) os' := by
  obtain ⟨V, hV⟩ : ∃ V, (w.alloc (.cells #[.int .i64 p, .int .i64 q, .int .i64 r, .int .i64 s] 42)).alloc (.cells #[.int .i64 a, .int .i64 b, .int .i64 c, .int .i64 d] 42) = V := ⟨_, rfl⟩
  have hbV : Below w.heap.size w V := by rw [← hV]; exact ((Below.refl _ _).alloc (Nat.le_refl _) _).alloc (by simp) _
  have hsz : V.heap.size = w.heap.size + 2 := by rw [← hV]; simp
  have o1 : Ints V V.heap.size (some ⟨w.heap.size, 0, none⟩) [p, q, r, s] := by
    have h := own_new w #[.int .i64 p, .int .i64 q, .int .i64 r, .int .i64 s] 42
    have h' : Ints (w.alloc (.cells #[.int .i64 p, .int .i64 q, .int .i64 r, .int .i64 s] 42)) (w.alloc (.cells #[.int .i64 p, .int .i64 q, .int .i64 r, .int .i64 s] 42)).heap.size (some ⟨w.heap.size, 0, none⟩) [p, q, r, s] := h.more (by simp)
    have h2 := h'.below ((Below.refl _ _).alloc (Nat.le_refl _) (.cells #[.int .i64 a, .int .i64 b, .int .i64 c, .int .i64 d] 42))
    rw [hV] at h2
    exact h2.more (by rw [hsz]; simp)
  have o2 : Ints V V.heap.size (some ⟨w.heap.size + 1, 0, none⟩) [a, b, c, d] := by
    have h := own_newAt' (w.alloc (.cells #[.int .i64 p, .int .i64 q, .int .i64 r, .int .i64 s] 42)) #[.int .i64 a, .int .i64 b, .int .i64 c, .int .i64 d] 42 (World.size_alloc _ _)
    rw [hV] at h
    exact h.more (by omega)
  have hcp := fun n => compareL_any _ _ 4 4 _ _ (V.drewN n) (o1.below (below_drewN (Below.refl _ _) n)) (o2.below (below_drewN (Below.refl _ _) n)) (by simp) (by simp)
  have HCP := Lib.hid hcp
  have hgr : ∀ n, ∃ q os', V.drewN n = grow (w.drewN q) os' := fun n => ⟨n, _, by rw [← hV, alloc_eq_grow, alloc_eq_grow, grow_grow, grow_drewN]⟩
  have HGR := Lib.hid hgr
  clear hcp o1 o2 hbV hsz hgr
  go_enter Try.func39, Try.ntmps39
  go_wp2_with fail
  go_quiet ((go_at_call 40; exact Calls.quiet_of ((HCP.out _).mono fun _ _ ⟨h1, h2⟩ => ⟨h1, 0, h2.symm⟩)))
  go_wp2
  go_ret
  exact ⟨rfl, HGR.out _⟩

theorem cmpLaysQ (blk off size : Nat) (w : World) : CmpLays Try.prog 39 #[] fv 4 (fun x y : Four => cmpL (fl x) (fl y)) blk off size w :=
  fun _ _ _ _ _ _ => cmpFourG_any _ _ _ _ _ _ _ _ _
theorem flatQ_length (cs : List Four) : (flatQ cs).length = 4 * cs.length := by
  induction cs with
  | nil => rfl
  | cons r rs ih => simp only [flatQ, fv, List.flatMap_cons, List.length_append, List.length_cons, List.length_nil] at ih ⊢; omega
theorem flatQ_cons (r : Four) (rs : List Four) : flatQ (r :: rs) = fv r ++ flatQ rs := rfl
theorem flatQ_append (rs ss : List Four) : flatQ (rs ++ ss) = flatQ rs ++ flatQ ss := by simp [flatQ]
theorem flatQ_get (rs : List Four) (k j : Nat) (h : k < rs.length) (hj : j < 4) : (flatQ rs)[k * 4 + j]? = (fv rs[k])[j]? := by
  induction rs generalizing k with
  | nil => simp at h
  | cons r rs ih =>
    rw [flatQ_cons]
    cases k with
    | zero => rw [List.getElem?_append_left (by simp [fv]; omega)]; simp
    | succ k =>
      simp only [List.length_cons] at h
      rw [List.getElem?_append_right (by simp [fv]; omega)]
      simp only [List.getElem_cons_succ]
      rw [show (k + 1) * 4 + j - (fv r).length = k * 4 + j by simp [fv]; omega]
      exact ih k (by omega)
theorem hlenQ (n : Nat) (W : World) (h : n ≤ 12) : Calls Try.prog 55 #[.int .u64 n] W fun e w' => (∃ l : Int, e = .returned (.int .i64 l)) ∧ w' = W :=
  (Try.bits_Len n W (by omega) (by omega)).mono fun _ _ ⟨he, hw⟩ => ⟨⟨_, he⟩, hw⟩

theorem flatQ_at (cs : List Four) (j : Nat) (h : j < 4 * cs.length) : (flatQ cs)[j]? = some (fv (cs.toArray[j / 4]!))[j % 4]! := by
  have h1 : j / 4 < cs.length := by omega
  have h2 := flatQ_get cs (j / 4) (j % 4) h1 (by omega)
  rw [show j / 4 * 4 + j % 4 = j by omega] at h2
  rw [h2]
  have h3 : cs.toArray[j / 4]! = cs[j / 4] := by simp [h1]
  rw [h3]
  have h4 : j % 4 < (fv cs[j / 4]).length := by simp [fv]; omega
  rw [List.getElem?_eq_getElem h4, getElem!_pos (fv cs[j / 4]) (j % 4) h4]
theorem holdsQ {w : World} {base B b o : Nat} {cs : List Four} (h : Own w (base + 1) B (some ⟨b, o, none⟩) (flatQ cs)) : HoldsK fv 4 w b o cs.toArray := by
  intro j hj
  rw [size_flatK, List.size_toArray] at hj
  obtain ⟨b', o', e, h1, h2, h3, h4⟩ := h.open' (by omega) (by rw [flatQ_length]; omega)
  simp only [Option.some.injEq, Addr.mk.injEq, and_true] at e
  obtain ⟨rfl, rfl⟩ := e
  rw [get_flatK _ _ _ _ (by rw [List.size_toArray]; exact hj)]
  exact ⟨h3 j _ (flatQ_at cs j (by omega)), h4 _⟩
theorem ownQ {w : World} {base b o : Nat} {cs : List Four} {d : Array Four} (h : HoldsK fv 4 w b o d) (hb : base ≤ b) (hlt : b < w.heap.size) (hd : d.toList = cs) (hf : ∀ j, w.frozen? ⟨b, j, none⟩ = false) : Own w (base + 1) w.heap.size (some ⟨b, o, none⟩) (flatQ cs) := by
  subst hd
  refine .inr ⟨b, o, rfl, by omega, hlt, fun j u hu => ?_, fun _ j => hf j⟩
  have hj : j < 4 * d.toList.length := by
    have := (List.getElem?_eq_some_iff.1 hu).1
    rwa [flatQ_length] at this
  rw [flatQ_at _ _ hj] at hu
  have hj2 : j < d.size * 4 := by simp at hj; omega
  have := (h j (by rw [size_flatK]; exact hj2)).1
  rw [get_flatK _ _ _ _ hj2] at this
  rw [this]
  simpa using hu
theorem sortQ_grown {w : World} {b o n : Nat} {d : Array Four} {os : Array Obj} : w.grownBy (sortWorldK fv 4 w b o n d os) (some b) := by
  refine ⟨rfl, rfl, rfl, by unfold sortWorldK putRowK; simp, fun k hk hne => ?_⟩
  have : b ≠ k := fun e => hne (by rw [e])
  unfold sortWorldK putRowK
  rw [heap_grow_old _ _ (by simpa using hk)]
  simp [putRow, mapBlock, Sort.ahead, Array.getElem?_modify, this]

/-- What sorting leaves. -/
def SortedQ (w : World) (base : Nat) (A : Option Addr) (b : Nat) (cs : List Four) (e : Ending) (w' : World) : Prop :=
  e = .returned (.tuple #[]) ∧ ∃ ds, ds.Perm cs ∧ ds.Pairwise (fun a b => cmpL (fl a) (fl b) ≤ 0) ∧ Own w' (base + 1) w'.heap.size A (flatQ ds) ∧ w.grownBy w' (some b)
theorem isAggQ : ∀ w, (isAgg 42).run Try.prog w = .ok true w := fun _ => by kernel_rfl
theorem sizeQ : ∀ w, (Go.sizeOf 42).run Try.prog w = .ok 4 w := fun _ => by kernel_rfl

theorem sortFuncQ_some (b o c base : Nat) (cs : List Four) (w : World) (ho : Own w (base + 1) w.heap.size (some ⟨b, o, none⟩) (flatQ cs)) (h0 : 0 < cs.length) (h10 : cs.length ≤ 10) :
    Calls Try.prog 38 #[.slice (some ⟨b, o, none⟩) cs.length c, .func (.func 39) #[] #[]] w (SortedQ w base (some ⟨b, o, none⟩) b cs) := by
  obtain ⟨b', o', e, hb1, hlt, _, hf⟩ := ho.open' (by omega) (by rw [flatQ_length]; omega)
  simp only [Option.some.injEq, Addr.mk.injEq, and_true] at e
  obtain ⟨rfl, rfl⟩ := e
  have eg : ∀ args w, (callFunc 39 args).run Try.prog w = .ok (.enter 39 args) w := enters_of Try.func39 (by kernel_rfl) rfl
  have hcon := AnyQ.slices_SortFunc_small_sorted Try.sortF 4 isAggQ sizeQ fv (fun _ => rfl) (fun x v hv => by simp [fv] at hv; rcases hv with rfl | rfl | rfl | rfl <;> rfl) (fun x y : Four => cmpL (fl x) (fl y)) 39 #[] cmpQ_swo b o c cs.toArray w eg (cmpLaysQ b o cs.toArray.size w) (holdsQ ho) hlt (by simpa using (by omega : cs.length ≤ 12)) hlenQ
  rw [List.size_toArray] at hcon
  refine Calls.mono hcon ?_
  rintro e w' ⟨rfl, d', n, os, hp, hs, rfl⟩
  have hH := holdsK_sortWorldK_c fv 4 w b o cs.toArray d' n os (holdsQ ho) hlt hp.1
  have hsz : d'.size = cs.length := by have := hp.1; simpa using this
  refine ⟨rfl, d'.toList, ?_, ?_, ?_, sortQ_grown⟩
  · have h := hp.2.2
    have e1 : d'.extract 0 cs.length = d' := by rw [← hsz]; exact Array.extract_size
    have e2 : cs.toArray.extract 0 cs.length = cs.toArray := by
      have := Array.extract_size (xs := cs.toArray)
      rwa [List.size_toArray] at this
    rw [e1, e2] at h
    simpa using h
  · rw [List.pairwise_iff_getElem]
    intro i j hi hj hij
    simp only [Array.length_toList] at hi hj
    have h := hs i j (by omega) hij (by omega)
    rw [cmpQ_lt, getElem!_pos d' j hj, getElem!_pos d' i hi] at h
    have := of_decide_eq_false h
    simp only [Array.getElem_toList]
    exact cmp4_le _ _ _ _ _ _ _ _ this
  · refine ownQ hH (by omega) (Nat.lt_of_lt_of_le hlt sortQ_grown.size) rfl (fun j => ?_)
    have := hf j
    unfold sortWorldK putRowK
    rw [frozen?_grow _ _ _ (by simpa using hlt)]
    simpa using this



def toF (y : List Int) : Four := ⟨y.getD 0 0, y.getD 1 0, y.getD 2 0, y.getD 3 0⟩
def nearS (d : List Int) : List Four := (nearL d).map toF
def passF (c : Int) (y : Four) : Bool := checkF (fl y) == c
def foundS (D : Four) (c : Int) (N : List Four) (k : Nat) : List Four := D :: (N.take k).filter (passF c)
def okF (y : Four) : Prop := (0 ≤ y.a ∧ y.a ≤ 9) ∧ (0 ≤ y.b ∧ y.b ≤ 9) ∧ (0 ≤ y.c ∧ y.c ≤ 9) ∧ (0 ≤ y.d ∧ y.d ≤ 9)

theorem flatF_map (cs : List Four) : flatF (cs.map fl) = flatQ cs := by
  induction cs with
  | nil => rfl
  | cons y cs ih => simp only [List.map_cons]; unfold flatF flatQ at *; rw [List.flatMap_cons, List.flatMap_cons, ih]; rfl
theorem flatQ_push (cs : List Four) (y : Four) : flatQ (cs ++ [y]) = flatQ cs ++ fv y := by simp [flatQ]
theorem okF_valid {y : Four} (h : okF y) : validD (fl y) = true := validD_four h.1 h.2.1 h.2.2.1 h.2.2.2
theorem okF_check {y : Four} (h : okF y) : checkF (fl y) = (y.a + 2 * y.b + 3 * y.c + 4 * y.d) % 11 := checkF_four (okF_valid h)

section
variable {d0 d1 d2 d3 c : Int} (h0 : 0 ≤ d0 ∧ d0 ≤ 9) (h1 : 0 ≤ d1 ∧ d1 ≤ 9) (h2 : 0 ≤ d2 ∧ d2 ≤ 9) (h3 : 0 ≤ d3 ∧ d3 ≤ 9)
include h0 h1 h2 h3
theorem nearS_ok : ∀ y ∈ nearS [d0, d1, d2, d3], okF y := by
  intro y hy
  obtain ⟨z, hz, rfl⟩ := List.mem_map.1 hy
  obtain ⟨e0, e1, e2, e3, rfl, k0, k1, k2, k3, -⟩ := (mem_near h0 h1 h2 h3).1 hz
  exact ⟨k0, k1, k2, k3⟩
theorem nearS_fl : (nearS [d0, d1, d2, d3]).map fl = nearL [d0, d1, d2, d3] := by
  unfold nearS
  rw [List.map_map]
  refine (List.map_congr_left fun z hz => ?_).trans (List.map_id _)
  obtain ⟨e0, e1, e2, e3, rfl, -⟩ := (mem_near h0 h1 h2 h3).1 hz
  rfl
omit h0 h1 h2 h3 in
theorem nearS_len : (nearS [d0, d1, d2, d3]).length = (nearL [d0, d1, d2, d3]).length ∧ (nearS [d0, d1, d2, d3]).length ≤ 44 := by
  have h := nearP_len [d0, d1, d2, d3] 4 0
  rw [nearP_all] at h
  unfold nearS
  rw [List.length_map]
  exact ⟨rfl, h⟩
theorem foundS_all : (foundS ⟨d0, d1, d2, d3⟩ c (nearS [d0, d1, d2, d3]) (nearS [d0, d1, d2, d3]).length).map fl = foundL [d0, d1, d2, d3] c := by
  unfold foundS foundL
  rw [List.take_length, List.map_cons]
  congr 1
  rw [← nearS_fl h0 h1 h2 h3, List.filter_map]
  rfl
theorem foundS_len (k : Nat) : (foundS ⟨d0, d1, d2, d3⟩ c (nearS [d0, d1, d2, d3]) k).length ≤ 8 := by
  have h := found_len (c := c) (validD_four h0 h1 h2 h3)
  rw [← foundS_all h0 h1 h2 h3, List.length_map] at h
  refine Nat.le_trans ?_ h
  unfold foundS
  rw [List.take_length, List.length_cons, List.length_cons]
  exact Nat.succ_le_succ (((List.take_sublist k _).filter _).length_le)
theorem foundS_ok (k : Nat) : ∀ y ∈ foundS ⟨d0, d1, d2, d3⟩ c (nearS [d0, d1, d2, d3]) k, okF y := by
  intro y hy
  rcases List.mem_cons.1 hy with rfl | hy
  · exact ⟨h0, h1, h2, h3⟩
  · exact nearS_ok h0 h1 h2 h3 y (List.mem_of_mem_take (List.mem_filter.1 hy).1)
end
theorem foundS_yes {D : Four} {c : Int} {N : List Four} {k : Nat} (hk : k < N.length) (h : passF c N[k] = true) : foundS D c N (k + 1) = foundS D c N k ++ [N[k]] := by
  unfold foundS
  rw [List.take_succ_eq_append_getElem hk, List.filter_append]
  simp [h]
theorem foundS_no {D : Four} {c : Int} {N : List Four} {k : Nat} (hk : k < N.length) (h : passF c N[k] = false) : foundS D c N (k + 1) = foundS D c N k := by
  unfold foundS
  rw [List.take_succ_eq_append_getElem hk, List.filter_append]
  simp [h]
theorem foundS_one (D : Four) (c : Int) (N : List Four) : foundS D c N 0 = [D] := rfl

theorem row_below {w w' : World} {base : Nat} {e : TypeId} {size n : Nat} {v : Value} {xs : List Value} (h : w.ownsRow base e size v n xs) (hb : Below w.heap.size w w') : w'.ownsRow base e size v n xs :=
  h.kept (row := Option.none) ⟨hb.os, hb.tape, hb.output, hb.size, fun i hi _ => hb.block i hi⟩ (by by_cases h : v.ownBlock = Option.none; exact .inl h; exact .inr h)

/-- What impl.RepairsOf leaves. -/
def RepPost (w : World) (T : List (List UInt8)) (e : Ending) (w' : World) : Prop :=
  ∃ A c, e = .returned (.slice A T.length c) ∧ T.length ≤ c ∧ Own w' (w.heap.size + 1) w'.heap.size A (T.map str) ∧ Below w.heap.size w w'

/-- The two rows of the first loop. -/
def FInv (w wr : World) (A1 : Option Addr) (c1 : Nat) (N : List Four) (A : Option Addr) (c : Nat) (fs : List Four) : Prop :=
  wr.ownsRow w.heap.size 42 4 (.slice A fs.length c) fs.length (flatQ fs) ∧ wr.ownsRow w.heap.size 42 4 (.slice A1 N.length c1) N.length (flatQ N) ∧ (∀ i, A.map (·.block) = some i → A1.map (·.block) ≠ some i) ∧ Below w.heap.size w wr
theorem FInv.grown {w wr W : World} {A1 : Option Addr} {c1 : Nat} {N : List Four} {A : Option Addr} {c : Nat} {fs : List Four} (h : FInv w wr A1 c1 N A c fs) (hg : wr.grownBy W none) : FInv w W A1 c1 N A c fs :=
  ⟨h.1.kept hg (Decidable.em _), h.2.1.kept hg (Decidable.em _), h.2.2.1, h.2.2.2.grown hg h.2.2.2.size (fun i hi => by cases hi)⟩
theorem FInv.below {w wr W : World} {A1 : Option Addr} {c1 : Nat} {N : List Four} {A : Option Addr} {c : Nat} {fs : List Four} (h : FInv w wr A1 c1 N A c fs) (hb : Below wr.heap.size wr W) : FInv w W A1 c1 N A c fs :=
  ⟨row_below h.1 hb, row_below h.2.1 hb, h.2.2.1, h.2.2.2.trans (hb.mono h.2.2.2.size)⟩
/-- A number's four cells. -/
theorem FInv.four {w wr : World} {A1 : Option Addr} {c1 : Nat} {N : List Four} {A : Option Addr} {c : Nat} {fs : List Four} (h : FInv w wr A1 c1 N A c fs) {k : Nat} (hk : k < N.length) :
    ∃ g, A1 = some ⟨g, 0, none⟩ ∧ g < wr.heap.size ∧ wr.cell? ⟨g, k * 4, none⟩ = some (.int .i64 N[k].a) ∧ wr.cell? ⟨g, k * 4 + 1, none⟩ = some (.int .i64 N[k].b) ∧ wr.cell? ⟨g, k * 4 + 2, none⟩ = some (.int .i64 N[k].c) ∧ wr.cell? ⟨g, k * 4 + 3, none⟩ = some (.int .i64 N[k].d) := by
  have ho := own_of_rowS (by omega) h.2.1
  rcases h.2.1.2 with ⟨_, hn⟩ | ⟨g, cap, cur, hv, hb, hh, _⟩
  · omega
  · simp only [Value.slice.injEq] at hv
    obtain ⟨rfl, -, rfl⟩ := hv
    obtain ⟨b', o', e, _, hlt, hc, _⟩ := ho.open' (by omega) (by rw [flatQ_length]; omega)
    simp only [Option.some.injEq, Addr.mk.injEq, and_true] at e
    obtain ⟨rfl, rfl⟩ := e
    simp only [Nat.zero_add] at hc
    have hq := fun j hj => flatQ_get N k j hk hj
    exact ⟨g, rfl, hlt, hc _ _ (hq 0 (by omega)), hc _ _ (hq 1 (by omega)), hc _ _ (hq 2 (by omega)), hc _ _ (hq 3 (by omega))⟩
theorem row_base {w : World} {base base' : Nat} {e : TypeId} {size n : Nat} {v : Value} {xs : List Value} (h : w.ownsRow base e size v n xs) (hb : base' ≤ base) : w.ownsRow base' e size v n xs := by
  obtain ⟨h1, h2⟩ := h
  rcases h2 with h2 | ⟨g, cap, cur, hv, hg, rest⟩
  · exact ⟨h1, .inl h2⟩
  · exact ⟨h1, .inr ⟨g, cap, cur, hv, by omega, rest⟩⟩
theorem FInv.push {w wr W : World} {A1 : Option Addr} {c1 : Nat} {N : List Four} {A A' : Option Addr} {c c' : Nat} {fs : List Four} {y : Four} (h : FInv w wr A1 c1 N A c fs)
    (ho : W.ownsRow w.heap.size 42 4 (.slice A' (fs.length + 1) c') (fs.length + 1) (flatQ fs ++ fv y)) (hg : wr.grownBy W (Value.slice A fs.length c).ownBlock)
    (ha : A'.map (·.block) = A.map (·.block) ∨ A'.map (·.block) = some (wr.heap.size + 1)) : FInv w W A1 c1 N A' c' (fs ++ [y]) := by
  have hlt := h.2.1.lt
  rw [slice_block] at hg hlt
  refine ⟨by rw [List.length_append, flatQ_push]; exact ho, h.2.1.kept hg ?_, ?_, h.2.2.2.grown hg h.2.2.2.size ?_⟩
  · rw [slice_block]
    cases hA1 : A1.map (·.block) with
    | none => exact .inl rfl
    | some i => exact .inr fun e => h.2.2.1 i e.symm hA1
  · intro i hi e
    rcases ha with ha | ha
    · exact h.2.2.1 i (ha.symm.trans hi) e
    · rw [hi] at ha
      simp only [Option.some.injEq] at ha
      have := (hlt i e).2
      omega
  · intro i hi
    exact (h.1.lt i (by rw [slice_block]; exact hi)).1
theorem FInv.start {w w2 w3 : World} {A1 : Option Addr} {c1 : Nat} {N : List Four} (p q r t : Int) (hb : Below w.heap.size w w2)
    (ho : w3.ownsRow ((w2.alloc (.cells #[.int .i64 p, .int .i64 q, .int .i64 r, .int .i64 t] 42)).heap.size + 2) 42 4 (.slice A1 N.length c1) N.length (flatQ N))
    (hb3 : Below (w2.alloc (.cells #[.int .i64 p, .int .i64 q, .int .i64 r, .int .i64 t] 42)).heap.size (w2.alloc (.cells #[.int .i64 p, .int .i64 q, .int .i64 r, .int .i64 t] 42)) w3) :
    FInv w w3 A1 c1 N (some ⟨w2.heap.size, 0, none⟩) 1 [⟨p, q, r, t⟩] := by
  have hz := hb.size
  have hlt := ho.lt
  rw [slice_block] at hlt
  refine ⟨row_below (World.ownsRow_lit w2 #[.int .i64 p, .int .i64 q, .int .i64 r, .int .i64 t] 1 hz (by unfold maxLen; omega) rfl) hb3, row_base ho (by simp; omega), ?_, (hb.alloc hz _).trans (hb3.mono (by simp; omega))⟩
  intro i hi e
  simp only [Option.map_some, Option.some.injEq] at hi
  have := (hlt i e).1
  simp only [World.size_alloc] at this
  omega
theorem four_at {w : World} {b o : Nat} {rs : List Four} (hc : ∀ j u, (flatQ rs)[j]? = some u → w.cell? ⟨b, o + j, none⟩ = some u) {k : Nat} (hk : k < rs.length) :
    w.cell? ⟨b, o + k * 4, none⟩ = some (.int .i64 rs[k].a) ∧ w.cell? ⟨b, o + k * 4 + 1, none⟩ = some (.int .i64 rs[k].b) ∧ w.cell? ⟨b, o + k * 4 + 2, none⟩ = some (.int .i64 rs[k].c) ∧ w.cell? ⟨b, o + k * 4 + 3, none⟩ = some (.int .i64 rs[k].d) := by
  have h := fun j hj => flatQ_get rs k j hk hj
  exact ⟨hc _ _ (h 0 (by omega)), by rw [Nat.add_assoc]; exact hc _ _ (h 1 (by omega)), by rw [Nat.add_assoc]; exact hc _ _ (h 2 (by omega)), by rw [Nat.add_assoc]; exact hc _ _ (h 3 (by omega))⟩
def codeS (y : Four) : Value := str (codeL (fl y) (checkF (fl y)))
/-- What is left to say where the loops have ended. -/
theorem rep_end {p q r t c : Int} {F Y : List Four} (hF : F.map fl = foundL [p, q, r, t] c) (hok : ∀ y ∈ F, okF y) (hp : Y.Perm F) (hs : Y.Pairwise fun a b => cmpL (fl a) (fl b) ≤ 0)
    (hr : ∀ Z : List (List Int), Z.Perm (foundL [p, q, r, t] c) → Z.Pairwise (fun a b => val4 a ≤ val4 b) → Z.map (fun y => codeL y (checkF y)) = repT (codeL [p, q, r, t] c) 10000) :
    (repT (codeL [p, q, r, t] c) 10000).length = F.length ∧ (repT (codeL [p, q, r, t] c) 10000).map str = Y.map codeS := by
  have h := hr (Y.map fl) (by rw [← hF]; exact hp.map fl) (by
    rw [List.pairwise_map]
    exact hs.imp_of_mem fun {a b} ha hb h => cmp_val (okF_valid (hok a (hp.mem_iff.1 ha))) (okF_valid (hok b (hp.mem_iff.1 hb))) h)
  rw [← h]
  refine ⟨by rw [List.length_map, List.length_map]; exact hp.length_eq, ?_⟩
  rw [List.map_map, List.map_map]
  rfl

open Go.Shelf Go.Lib Go.Sort

set_option maxRecDepth 100000 in
set_option maxHeartbeats 8000000 in
theorem impRepairs_run (s : ByteArray) (p q r t c : Int) (w : World) (hp : 0 ≤ p ∧ p ≤ 9) (hq : 0 ≤ q ∧ q ≤ 9) (hr : 0 ≤ r ∧ r ≤ 9) (ht : 0 ≤ t ∧ t ≤ 9) (hc : 0 ≤ c ∧ c ≤ 10) (hne : (p + 2 * q + 3 * r + 4 * t) % 11 ≠ c)
    (hsp : ∀ W, Calls Try.prog 33 #[.string s] W fun e w' => e = .returned (.tuple #[.agg #[.int .i64 p, .int .i64 q, .int .i64 r, .int .i64 t], .int .i64 c, .bool true]) ∧ Below W.heap.size W w') :
    Calls Try.prog 16 #[.string s] w (RepPost w (repT (codeL [p, q, r, t] c) 10000)) := by
  obtain ⟨i0, hi0, hz0, hz1, hz2⟩ := info_parts Try.infoF
  obtain ⟨j0, hj0, hy0, hy1, hy2⟩ := info_parts Try.info9s
  have hv := validD_four hp hq hr ht
  have hck := checkF_four hv
  obtain ⟨K, hK⟩ : ∃ K, (p + 2 * q + 3 * r + 4 * t) % 11 = K := ⟨_, rfl⟩
  have hco := fun W => checkOf_any p q r t W hp hq hr ht
  rw [hK] at hck hne hco
  have hn : (K == c) = false := by simpa using hne
  have hrs := fun Y h1 h2 => repairs_sorted (Y := Y) hv hc (by rw [hck]; exact hne) h1 h2
  have HRS := Lib.hid hrs
  have HSP := Lib.hid hsp
  have HCO := Lib.hid hco
  have hnr := fun W => nearTo_any p q r t W
  have hnl := nearS_len (d0 := p) (d1 := q) (d2 := r) (d3 := t)
  have hno := nearS_ok hp hq hr ht
  have hfl := fun k => foundS_len (c := c) hp hq hr ht k
  have hfo := fun k => foundS_ok (c := c) hp hq hr ht k
  have hfa := foundS_all (c := c) hp hq hr ht
  rw [← nearS_fl hp hq hr ht] at hnr
  simp only [List.length_map, flatF_map] at hnr
  have hnl' := hnl.2
  clear hnl
  obtain ⟨N, hN⟩ : ∃ N, nearS [p, q, r, t] = N := ⟨_, rfl⟩
  rw [hN] at hnr hno hfl hfo hfa hnl'
  have HNE := Lib.hid hnr
  have HNO := Lib.hid hno
  have HFL := Lib.hid hfl
  have HFO := Lib.hid hfo
  have HFA := Lib.hid hfa
  clear hnr hno hfl hfo hfa hN
  have HBD := Lib.hid (And.intro hp (And.intro hq (And.intro hr ht)))
  clear hrs hsp hco hck hK hne hv hp hq hr ht
  go_enter Try.func16, Try.ntmps16
  go_wp2_with (first | (go_at_call 33; refine (HSP.out _).mono ?_; rintro e w1 ⟨rfl, hb1⟩) | (go_at_call 34; refine (HCO.out _).mono ?_; rintro e w2 ⟨rfl, hb2⟩; have hbx : w2.heap[w1.heap.size]? = some (.cells #[.int .i64 p, .int .i64 q, .int .i64 r, .int .i64 t] 42 (0, 0)) := (hb2.block w1.heap.size (by simp)).trans (heap_new _ rfl); obtain ⟨m0, m1, m2, m3, _⟩ := four_facts hbx; have hz12 : w1.heap.size < w2.heap.size := by (have := hb2.size; simp at this; omega)))
  have hb12 : Below w.heap.size w w2 := (hb1.alloc hb1.size _).trans (hb2.mono (by have := hb1.size; simp; omega))
  have HB12 := Lib.hid hb12
  have HBX := Lib.hid hbx
  clear hb1 hb2 hb12 hbx
  refine (HNE.out _).mono ?_
  rintro e w3 ⟨A1, c1, rfl, hoN, hb3⟩
  have HI := Lib.hid (FInv.start p q r t HB12.out hoN hb3)
  clear hoN hb3 m0 m1 m2 m3
  go_wp2
  go_loopw [6, 31] (fun v i wr => ∃ (k : Nat) (A : Option Addr) (c' : Nat), k ≤ N.length ∧ i = .int .i64 k ∧ v = .slice A (foundS ⟨p, q, r, t⟩ c N k).length c' ∧ FInv w wr A1 c1 N A c' (foundS ⟨p, q, r, t⟩ c N k)) (fun _ i _ => N.length - (intOf i).toNat)
  case atStart => exact ⟨0, _, _, by omega, rfl, rfl, HI.out⟩
  case round =>
    obtain ⟨k, A, c', hk, rfl, rfl, hinv⟩ := hrel
    have hfl := HFL.out k
    clear HI
    by_cases hlt : k < N.length
    · obtain ⟨g, rfl, hg, n0, n1, n2, n3⟩ := hinv.four hlt
      have hyes := foundS_yes (D := ⟨p, q, r, t⟩) (c := c) hlt
      have hno := foundS_no (D := ⟨p, q, r, t⟩) (c := c) hlt
      have hok := HNO.out _ (List.getElem_mem hlt)
      obtain ⟨y, hy⟩ : ∃ y, N[k] = y := ⟨_, rfl⟩
      rw [hy] at n0 n1 n2 n3 hyes hno hok
      obtain ⟨e0, e1, e2, e3⟩ := y
      simp only at n0 n1 n2 n3
      have hkk := okF_check hok
      obtain ⟨k0, k1, k2, k3⟩ := hok
      have hco := fun W => checkOf_any e0 e1 e2 e3 W k0 k1 k2 k3
      simp only at hkk
      obtain ⟨Q, hQ⟩ : ∃ Q, (e0 + 2 * e1 + 3 * e2 + 4 * e3) % 11 = Q := ⟨_, rfl⟩
      rw [hQ] at hkk hco
      have HCO2 := Lib.hid hco
      have HI := Lib.hid hinv
      have hpf : passF c ⟨e0, e1, e2, e3⟩ = (Q == c) := by unfold passF; rw [hkk]
      rw [hpf] at hyes hno
      obtain ⟨F, hF⟩ : ∃ F, foundS ⟨p, q, r, t⟩ c N k = F := ⟨_, rfl⟩
      rw [hF] at hyes hno HI hfl
      rw [hF]
      have HY := Lib.hid (And.intro hyes hno)
      clear hco hinv hyes hno hpf hkk hQ hy k0 k1 k2 k3 hF
      by_cases hqc : Q = c
      · have hqb : (Q == c) = true := by simpa using hqc
        clear hqc
        go_wp2_with fail
        refine (HCO2.out _).mono ?_
        rintro e w4 ⟨rfl, hb4⟩
        have hbx4 : w4.heap[wr.heap.size]? = some (.cells #[.int .i64 e0, .int .i64 e1, .int .i64 e2, .int .i64 e3] 42 (0, 0)) := (hb4.block wr.heap.size (by simp)).trans (heap_new _ rfl)
        obtain ⟨u0, u1, u2, u3, _⟩ := four_facts hbx4
        have hz4 : wr.heap.size < w4.heap.size := by (have := hb4.size; simp at this; omega)
        have HI4 := Lib.hid ((HI.out.grown (World.grownBy_alloc wr (.cells #[.int .i64 e0, .int .i64 e1, .int .i64 e2, .int .i64 e3] 42) none)).below hb4)
        have hown4 := HI4.out.1
        have hbz4 := HI4.out.2.2.2.size
        clear hb4 hbx4 HI
        go_wp2_with (at_builtin; refine wpList_push_at rfl (.tmp 39) (.tmp 41) 51 rfl i0 (.agg #[.int .i64 0, .int .i64 0, .int .i64 0, .int .i64 0]) 32 Try.underlying51 hi0 hz0 hz1 hz2 rfl (by decide) _ _ rfl hown4 [.int .i64 e0, .int .i64 e1, .int .i64 e2, .int .i64 e3] rfl rfl (by simp [Value.oneCell']) (by omega) (by omega) hbz4 ?_)
        intro A' c2 w5 hown5 hg5 hat5
        have HI5 := Lib.hid (HI4.out.push (y := ⟨e0, e1, e2, e3⟩) hown5 hg5 (hat5.imp id fun ⟨a, h1, h2⟩ => by rw [h1]; simp [h2]))
        have HF5 := Lib.hid (show (F ++ [(⟨e0, e1, e2, e3⟩ : Four)]).length = F.length + 1 by simp)
        have HYY := Lib.hid (HY.out.1 hqb)
        clear hown5 hg5 hat5 hown4 HI4 HY hqb u0 u1 u2 u3 n0 n1 n2 n3
        go_wp2
        go_roundw
        case rel => exact ⟨k + 1, A', c2, by omega, by go_num, by rw [HYY.out, HF5.out], by rw [HYY.out]; exact HI5.out⟩
        case measure => simp [intOf]; omega
      · have hqb : (Q == c) = false := by simpa using hqc
        clear hqc
        go_wp2_with (first | (go_at_call 34; refine (HCO2.out _).mono ?_; rintro e w4 ⟨rfl, hb4⟩))
        have HI5 := Lib.hid ((HI.out.grown (World.grownBy_alloc wr (.cells #[.int .i64 e0, .int .i64 e1, .int .i64 e2, .int .i64 e3] 42) none)).below hb4)
        have HYY := Lib.hid (HY.out.2 hqb)
        clear hb4 HI HY hqb n0 n1 n2 n3
        go_roundw
        case rel => exact ⟨k + 1, A, c', by omega, by go_num, by rw [HYY.out], by rw [HYY.out]; exact HI5.out⟩
        case measure => simp [intOf]; omega
    · have hkN : k = N.length := by omega
      subst hkN
      have hper := HFA.out
      have hok := HFO.out N.length
      obtain ⟨F, hF⟩ : ∃ F, foundS ⟨p, q, r, t⟩ c N N.length = F := ⟨_, rfl⟩
      have hpos : 0 < F.length := by rw [← hF]; simp [foundS]
      rw [hF] at hper hok hinv hfl
      rw [hF]
      have ho := own_of_rowS (by omega) hinv.1
      obtain ⟨b, o, rfl, hb0, hbl, _, _⟩ := ho.open' (by omega) (by rw [flatQ_length]; omega)
      have hsr := sortFuncQ_some b o c' w.heap.size F wr ho hpos (by omega)
      have HSR := Lib.hid hsr
      have HB := Lib.hid hinv.2.2.2
      have HPO := Lib.hid (And.intro hper hok)
      clear hinv hsr ho hper hok HNO HFL HFO HFA HNE HCO HSP hF
      go_wp2_with fail
      refine HSR.out.mono ?_
      rintro e w4 ⟨rfl, Y, hperm, hsort, hoY, hgY⟩
      have HB4 := Lib.hid (HB.out.grown hgY HB.out.size (fun i hi => by injection hi with hi; omega))
      have HEN := Lib.hid (rep_end HPO.out.1 HPO.out.2 hperm hsort HRS.out)
      have HOK := Lib.hid (fun y hy => HPO.out.2 y (hperm.mem_iff.1 hy))
      have HYF := Lib.hid hperm.length_eq
      have HOY := Lib.hid hoY
      clear hperm hsort hoY hgY HB HSR HRS HPO
      go_wp2_with (at_make; refine wpList_make_own _ rfl (.const (.int .i64 0)) (.tmp 47) _ rfl w4.heap.size 9 j0 (.string ⟨#[]⟩) 1 Try.underlying31 hj0 hy0 hy1 _ _ _ F.length rfl rfl rfl (by rw [hy2]; omega) (by unfold maxLen; omega) (Nat.le_refl _) ?_)
      intro w5 hown5 hg5
      have HST := Lib.hid (show w5.ownsRow w4.heap.size 9 1 (.slice (some ⟨w4.heap.size, 0, none⟩) 0 F.length) 0 ((Y.take 0).map codeS) from hown5)
      have HBS := Lib.hid ((Below.refl w4.heap.size w4).grown hg5 (Nat.le_refl _) (by simp))
      clear hown5 hg5
      go_wp2
      go_loopw [9, 51] (fun v i wr => ∃ (k : Nat) (A2 : Option Addr) (c2 : Nat), k ≤ F.length ∧ i = .int .i64 k ∧ v = .slice A2 k c2 ∧ wr.ownsRow w4.heap.size 9 1 (.slice A2 k c2) k ((Y.take k).map codeS) ∧ Below w4.heap.size w4 wr) (fun _ i _ => F.length - (intOf i).toNat)
      case atStart => exact ⟨0, _, _, by omega, rfl, rfl, HST.out, HBS.out⟩
      case round =>
        obtain ⟨k, A2, c2, hk, rfl, rfl, hown, hbr⟩ := hrel
        clear HST HBS
        by_cases hlt : k < F.length
        · have hkY : k < Y.length := by rw [HYF.out]; exact hlt
          obtain ⟨b', o', e, _, _, hcc, _⟩ := (HOY.out.below hbr).open' (by omega) (by rw [flatQ_length]; omega)
          simp only [Option.some.injEq, Addr.mk.injEq, and_true] at e
          obtain ⟨rfl, rfl⟩ := e
          obtain ⟨n0, n1, n2, n3⟩ := four_at hcc hkY
          have hok := HOK.out _ (List.getElem_mem hkY)
          have htk := List.take_succ_eq_append_getElem hkY
          obtain ⟨y, hy⟩ : ∃ y, Y[k] = y := ⟨_, rfl⟩
          rw [hy] at n0 n1 n2 n3 hok htk
          obtain ⟨e0, e1, e2, e3⟩ := y
          simp only at n0 n1 n2 n3
          have hkk := okF_check hok
          obtain ⟨k0, k1, k2, k3⟩ := hok
          have hct := fun W => impCodeText_any' e0 e1 e2 e3 W k0 k1 k2 k3
          simp only at hkk
          rw [← hkk] at hct
          obtain ⟨T, hT⟩ : ∃ T : ByteArray, str (codeL [e0, e1, e2, e3] (checkF (fl ⟨e0, e1, e2, e3⟩))) = .string T := ⟨_, rfl⟩
          have hcs : codeS ⟨e0, e1, e2, e3⟩ = .string T := hT
          rw [hT] at hct
          have HCT := Lib.hid hct
          have HTK := Lib.hid (show (Y.take (k + 1)).map codeS = (Y.take k).map codeS ++ [.string T] by rw [htk, List.map_append, List.map_singleton, hcs])
          have HBR := Lib.hid hbr
          have hbz := hbr.size
          obtain ⟨M, hM⟩ : ∃ M, (Y.take k).map codeS = M := ⟨_, rfl⟩
          rw [hM] at hown HTK
          clear hcc hy htk hkk k0 k1 k2 k3 hct hT hcs hM hbr
          go_wp2_with fail
          refine (HCT.out _).mono ?_
          rintro e w6 ⟨rfl, hb6⟩
          have hown6 := row_below (hown.alloc _) hb6
          have hz6 : wr.heap.size < w6.heap.size := by (have := hb6.size; simp at this; omega)
          have hbz6 : w4.heap.size ≤ w6.heap.size := by omega
          have HB6 := Lib.hid ((HBR.out.alloc hbz _).trans (hb6.mono (by simp; omega)))
          clear hb6 hown n0 n1 n2 n3 HCT
          go_wp2_with (at_builtin; refine wpList_push rfl (.tmp 55) (.tmp 58) 31 rfl j0 (.string ⟨#[]⟩) 16 Try.underlying31 hj0 hy0 hy1 hy2 rfl (by decide) _ _ rfl hown6 [.string T] rfl rfl (by simp [Value.oneCell']) (by omega) (by omega) hbz6 ?_)
          intro A3 c3 w7 hown7 hg7
          have HF7 := Lib.hid (And.intro hown7 (HB6.out.grown hg7 hbz6 (fun i hi => (hown6.lt _ hi).1)))
          clear hown7 hg7 hown6 HB6 HBR
          go_wp2
          go_roundw
          case rel => exact ⟨k + 1, A3, c3, by omega, by go_num, rfl, by rw [HTK.out]; exact HF7.out.1, HF7.out.2⟩
          case measure => simp [intOf]; omega
        · have hkF : k = F.length := by omega
          subst hkF
          have hcap := own_cap hown
          obtain ⟨A4, c4, hv, _, ho⟩ := own_of_row hown
          simp only [Value.slice.injEq] at hv
          obtain ⟨rfl, _, rfl⟩ := hv
          have hfin : Own wr (w.heap.size + 1) wr.heap.size A2 ((repT (codeL [p, q, r, t] c) 10000).map str) := by
            rw [HEN.out.2]
            have h : Y.take F.length = Y := by rw [← HYF.out]; exact List.take_length
            rw [h] at ho
            exact ho.less (by have := HB4.out.size; omega)
          have HFI := Lib.hid (And.intro hcap (And.intro hfin (HB4.out.trans (hbr.mono HB4.out.size))))
          clear hown hbr hcap ho hfin
          go_wp2
          go_ret
          exact ⟨A2, c2, by rw [HEN.out.1]; rfl, by rw [HEN.out.1]; exact HFI.out.1, HFI.out.2.1, HFI.out.2.2⟩


theorem shaped_split {s : ByteArray} (h : ¬ ∃ b0 b1 b2 b3 b5 c, s = ⟨#[b0, b1, b2, b3, 45, b5]⟩ ∧ onlyD [b0, b1, b2, b3] = true ∧ Lib.indexByte signs b5 = c ∧ 0 ≤ c) : shapedB s.data.toList = false := by
  rw [Bool.eq_false_iff]
  intro hs
  have h6 := shaped_len hs
  rw [Array.length_toList] at h6
  obtain ⟨b0, b1, b2, b3, b4, b5, rfl⟩ := six_of s h6
  simp only [shapedB, Bool.and_eq_true, decide_eq_true_eq, beq_iff_eq, List.all_eq_true, List.mem_range] at hs
  obtain ⟨⟨-, h4⟩, hall⟩ := hs
  have e4 : b4 = 45 := by simpa using h4
  subst e4
  have hd : ∀ k, k < 4 → isDig ([b0, b1, b2, b3, 45, b5].getD k 0) = true := by
    intro k hk
    have := hall k (by omega)
    simp only [okC, Bool.or_eq_true, Bool.and_eq_true, beq_iff_eq] at this
    rcases this with (h | h) | h
    · omega
    · exact h
    · omega
  have g0 := hd 0 (by omega)
  have g1 := hd 1 (by omega)
  have g2 := hd 2 (by omega)
  have g3 := hd 3 (by omega)
  have g5 := hall 5 (by omega)
  simp at g0 g1 g2 g3 g5
  have hsg : ∃ c, 0 ≤ c ∧ c ≤ 10 ∧ sg c = b5 := by
    simp [okC] at g5
    rcases g5 with g5 | g5
    · simp [isDig] at g5
      exact ⟨(b5.toNat : Int) - 48, by omega, by omega, sg_digit b5 (by omega)⟩
    · exact ⟨10, by omega, by omega, by rw [g5]; rfl⟩
  obtain ⟨c, c0, c1, hc⟩ := hsg
  rcases sign_find b5 with ⟨-, hn⟩ | ⟨c', hc0', -, hi, -⟩
  · exact hn c c0 c1 hc
  · exact h ⟨b0, b1, b2, b3, b5, c', rfl, by simp [onlyD, g0, g1, g2, g3], hi, hc0'⟩

theorem shaped_yes {b0 b1 b2 b3 b5 : UInt8} {c : Int} (hd : onlyD [b0, b1, b2, b3] = true) (hc : Lib.indexByte signs b5 = c) (hc0 : 0 ≤ c) :
    shapedB [b0, b1, b2, b3, 45, b5] = true ∧ c ≤ 10 ∧ codeL [(b0.toNat : Int) - 48, (b1.toNat : Int) - 48, (b2.toNat : Int) - 48, (b3.toNat : Int) - 48] c = [b0, b1, b2, b3, 45, b5] := by
  obtain ⟨h0, h1, h2, h3⟩ := onlyD_four.1 hd
  have hb5 : 0 ≤ c ∧ c ≤ 10 ∧ sg c = b5 := by
    rcases sign_find b5 with ⟨hi, _⟩ | ⟨c', hc0', hc1', hi, hs⟩
    · rw [hi] at hc; omega
    · rw [hi] at hc; subst hc; exact ⟨hc0', hc1', hs⟩
  refine ⟨?_, hb5.2.1, ?_⟩
  · simp only [shapedB, Bool.and_eq_true, decide_eq_true_eq, beq_iff_eq, List.all_eq_true, List.mem_range]
    refine ⟨⟨rfl, rfl⟩, ?_⟩
    intro k hk
    have g0 : isDig b0 = true := by simp [isDig]; omega
    have g1 : isDig b1 = true := by simp [isDig]; omega
    have g2 : isDig b2 = true := by simp [isDig]; omega
    have g3 : isDig b3 = true := by simp [isDig]; omega
    have g5 : isDig b5 = true ∨ b5 = 120 := by
      rw [← hb5.2.2]
      rcases digit_cases ⟨hb5.1, hb5.2.1⟩ with e | e | e | e | e | e | e | e | e | e | e <;> rw [e] <;> decide
    obtain rfl | rfl | rfl | rfl | rfl | rfl : k = 0 ∨ k = 1 ∨ k = 2 ∨ k = 3 ∨ k = 4 ∨ k = 5 := by omega
    · simp [okC, g0]
    · simp [okC, g1]
    · simp [okC, g2]
    · simp [okC, g3]
    · simp [okC]
    · simp [okC]; exact g5
  · simp only [codeL, List.map_cons, List.map_nil, sg_digit _ h0, sg_digit _ h1, sg_digit _ h2, sg_digit _ h3, hb5.2.2]; rfl

set_option maxRecDepth 100000 in
set_option maxHeartbeats 2000000 in
theorem impRepairs_any (s : ByteArray) (w : World) :
    Calls Try.prog 16 #[.string s] w (RepPost w (repV s.data.toList)) := by
  by_cases h : ∃ b0 b1 b2 b3 b5 c, s = ⟨#[b0, b1, b2, b3, 45, b5]⟩ ∧ onlyD [b0, b1, b2, b3] = true ∧ Lib.indexByte signs b5 = c ∧ 0 ≤ c
  · obtain ⟨b0, b1, b2, b3, b5, c, rfl, hd, hc, hc0⟩ := h
    obtain ⟨hv, hiff⟩ := read_split hd hc hc0
    obtain ⟨hsh, hc1, hcl⟩ := shaped_yes hd hc hc0
    have hsp := fun W => split_yes b0 b1 b2 b3 b5 W c hd hc hc0
    have hdg : digs [b0, b1, b2, b3, 45, b5] = [(b0.toNat : Int) - 48, (b1.toNat : Int) - 48, (b2.toNat : Int) - 48, (b3.toNat : Int) - 48] := rfl
    obtain ⟨h0, h1, h2, h3⟩ := onlyD_four.1 hd
    obtain ⟨p, hp⟩ : ∃ p, (b0.toNat : Int) - 48 = p := ⟨_, rfl⟩
    obtain ⟨q, hq⟩ : ∃ q, (b1.toNat : Int) - 48 = q := ⟨_, rfl⟩
    obtain ⟨r, hr⟩ : ∃ r, (b2.toNat : Int) - 48 = r := ⟨_, rfl⟩
    obtain ⟨t, ht⟩ : ∃ t, (b3.toNat : Int) - 48 = t := ⟨_, rfl⟩
    have hsp2 : ∀ W, Calls Try.prog 33 #[.string ⟨#[b0, b1, b2, b3, 45, b5]⟩] W fun e w' => e = .returned (.tuple #[.agg #[.int .i64 p, .int .i64 q, .int .i64 r, .int .i64 t], .int .i64 c, .bool true]) ∧ Below W.heap.size W w' := fun W => by
      have := hsp W
      simp only [List.map_cons, List.map_nil, hp, hq, hr, ht] at this
      exact this
    have hp' : 0 ≤ p ∧ p ≤ 9 := by omega
    have hq' : 0 ≤ q ∧ q ≤ 9 := by omega
    have hr' : 0 ≤ r ∧ r ≤ 9 := by omega
    have ht' : 0 ≤ t ∧ t ≤ 9 := by omega
    rw [hp, hq, hr, ht] at hdg hcl
    rw [hdg] at hv hiff
    have hck := checkF_four hv
    rw [hck] at hiff
    by_cases hkc : (p + 2 * q + 3 * r + 4 * t) % 11 = c
    · have HV := Lib.hid (repV_no (l := [b0, b1, b2, b3, 45, b5]) (.inr (hiff.2 hkc)))
      have hco := fun W => checkOf_any p q r t W hp' hq' hr' ht'
      rw [hkc] at hco
      have hn : (c == c) = true := by simp
      have HSP := Lib.hid hsp2
      have HCO := Lib.hid hco
      clear hsp hsp2 hco hiff hdg hck hkc hv hp hq hr ht hd hc h0 h1 h2 h3 hsh hcl
      go_enter Try.func16, Try.ntmps16
      go_wp2_with (first | (go_at_call 33; refine (HSP.out _).mono ?_; rintro e w1 ⟨rfl, hb1⟩) | (go_at_call 34; refine (HCO.out _).mono ?_; rintro e w2 ⟨rfl, hb2⟩))
      go_ret
      show RepPost _ (repV [b0, b1, b2, b3, 45, b5]) _ _
      rw [HV.out]
      exact ⟨none, 0, rfl, by simp, .inl rfl, (hb1.alloc hb1.size _).trans (hb2.mono (by have := hb1.size; simp; omega))⟩
    · have hok : readOk [b0, b1, b2, b3, 45, b5] = false := by
        rw [Bool.eq_false_iff]; exact fun e => hkc (hiff.1 e)
      have hrun := impRepairs_run _ p q r t c w hp' hq' hr' ht' ⟨hc0, hc1⟩ hkc hsp2
      rw [hcl, ← repV_yes hsh hok] at hrun
      exact hrun
  · have HV := Lib.hid (repV_no (l := s.data.toList) (.inl (shaped_split h)))
    have hsp := fun W => split_no s W h
    have HSP := Lib.hid hsp
    clear hsp h
    go_enter Try.func16, Try.ntmps16
    go_wp2_with (first | (go_at_call 33; refine (HSP.out _).mono ?_; rintro e w1 ⟨rfl, hb1⟩; unfold splitNo))
    go_ret
    rw [HV.out]
    exact ⟨none, 0, rfl, by simp, .inl rfl, hb1.alloc hb1.size _⟩
end Go.Proofs.Ytempfagjbpnlcaa
