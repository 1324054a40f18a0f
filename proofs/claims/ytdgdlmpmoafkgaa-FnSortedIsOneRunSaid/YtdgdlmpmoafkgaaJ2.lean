/- impl.OneStack. No condition. -/
import Derived.Test.YtdgdlmpmoafkgaaI9
import Derived.Test.YtdgdlmpmoafkgaaS4
namespace Go.Proofs.Ytdgdlmpmoafkgaa
open Go.RowKit

theorem popped_lt {S : List Int} {x : Int} (h : x ∉ S) : popped S x = S.reverse.takeWhile (fun t => decide (t < x)) ∧ (stays S x).reverse = S.reverse.dropWhile (fun t => decide (t < x)) := by
  have key : ∀ l : List Int, x ∉ l → (l.takeWhile fun t => !decide (x < t)) = l.takeWhile (fun t => decide (t < x)) ∧ (l.dropWhile fun t => !decide (x < t)) = l.dropWhile (fun t => decide (t < x)) := by
    intro l
    induction l with
    | nil => intro _; exact ⟨rfl, rfl⟩
    | cons a l ih =>
      intro hl
      simp only [List.mem_cons, not_or] at hl
      obtain ⟨h1, h2⟩ := ih hl.2
      have e : (!decide (x < a)) = decide (a < x) := by
        by_cases h : x < a
        · rw [decide_eq_true h, decide_eq_false (by omega)]; rfl
        · rw [decide_eq_false h, decide_eq_true (by omega)]; rfl
      rw [List.takeWhile_cons, List.takeWhile_cons, List.dropWhile_cons, List.dropWhile_cons, e, h1, h2]
      exact ⟨rfl, rfl⟩
  obtain ⟨h1, h2⟩ := key S.reverse (by simpa using h)
  exact ⟨h1, by unfold stays; rw [List.reverse_reverse, h2]⟩
theorem osL_make {S : List Int} {x : Int} {r : List Int} (h : x ∉ S) : osL S.reverse (x :: r) = popped S x ++ osL (stays S x ++ [x]).reverse r := by
  obtain ⟨h1, h2⟩ := popped_lt h
  rw [rev_snoc, h1, h2]; rfl
theorem stays_sub (S : List Int) (x : Int) : ∀ z ∈ stays S x, z ∈ S := fun z hz => by
  unfold stays at hz
  have := (List.dropWhile_sublist _).subset (List.mem_reverse.1 hz)
  exact List.mem_reverse.1 this
theorem popped_len (S : List Int) (x : Int) : (popped S x).length + (stays S x).length = S.length := by
  unfold popped stays
  rw [List.length_reverse, ← List.length_append, List.takeWhile_append_dropWhile, List.length_reverse]
theorem popped_all {S : List Int} {x : Int} (h : ∀ z ∈ S, z < x) : popped S x = S.reverse := by
  unfold popped
  have : ∀ l : List Int, (∀ z ∈ l, z < x) → l.takeWhile (fun t => !decide (x < t)) = l := by
    intro l
    induction l with
    | nil => intro _; rfl
    | cons a l ih =>
      intro h
      have := h a (by simp)
      rw [List.takeWhile_cons, decide_eq_false (by omega), ih (fun z hz => h z (by simp [hz]))]
      rfl
  exact this _ (fun z hz => h z (by simpa using hz))

/-- 'append(out, xs...)', xs whatever row, and which block the new slice lies in. -/
theorem wpList_extend_at {w : World} {base : Nat} {e : TypeId} {size n : Nat} {xs : List Value} {P : Program} {ops : Array Oper} {rest : List Oper} {o : Oper} {a : Act} {Q : Exit → Act → World → Prop} (hgd : o.guard = none) (s x : Operand) (t : TypeId)
    (ho : o.op = .call { callee := .builtin .append, args := #[s, x], argTypes := #[t, t] })
    (i : TypeInfo) (z : Value) (bytes : Nat) (ht : P.underlying t = some (.slice e)) (hi : P.info? e = some i) (hz : i.zero = some z)
    (hsize : i.size = size) (hby : i.bytes = bytes) (hzs : z.cells.size = size) (hsz : 0 < size)
    (A : Option Addr) (c : Nat) (hs : a.eval s = .slice A n c) (hown : w.ownsRow base e size (.slice A n c) n xs)
    (B : Option Addr) (m d BB : Nat) (us : List Value) (hx : a.eval x = .slice B m d) (hus : us.length = m * size) (hsrc : Own w 0 BB B us) (h1 : ∀ u ∈ us, u.oneCell' = true)
    (hn : n + m ≤ 1000000000) (hbytes : bytes ≤ 1000) (hbase : base ≤ w.heap.size)
    (h : ∀ A' c' w', w'.ownsRow base e size (.slice A' (n + m) c') (n + m) (xs ++ us) → w.grownBy w' (Value.slice A n c).ownBlock → (A'.map (·.block) = A.map (·.block) ∨ A'.map (·.block) = some w.heap.size) → wpList P ops Q rest (a.put o.dst (.slice A' (n + m) c')) w') :
    wpList P ops Q (o :: rest) a w := by
  have hb : (n + m) * bytes ≤ 1000000000 * 1000 := Nat.mul_le_mul (by omega) hbytes
  cases B with
  | some ad =>
    refine wpList_append_own_at _ hgd s x t ho base e i z size bytes ht hi hz hsize hby hzs hsz _ _ _ hs hown ad m d us hx hus ?_ h1 (by unfold maxLen; omega) (by omega) hbase ?_
    · intro j u hj
      rcases hsrc with rfl | ⟨b', o', hA, _, _, hc, _⟩
      · simp at hj
      · simp only [Option.some.injEq] at hA
        subst hA
        rw [Addr.add_lit]
        exact hc j u hj
    · intro v' w' hown' hg' _ hat
      obtain ⟨A', c', rfl⟩ := own_form hown'
      rw [slice_block, slice_block] at hat
      exact h A' c' w' hown' hg' hat
  | none =>
    have hnil : us = [] := by
      rcases hsrc with h | ⟨_, _, hA, _⟩
      · exact h
      · cases hA
    subst hnil
    have hm : m = 0 := by
      rcases Nat.eq_zero_or_pos m with h | h
      · exact h
      · have := Nat.mul_pos h hsz
        simp at hus
        omega
    subst hm
    refine wpList_plain hgd fun K hK => ?_
    have hrun : (Builtin.append_ #[t, t] o.type #[.slice A n c, .slice none 0 d]).run P w = .ok (.slice A n c) w := by
      rcases hown.2 with ⟨hv, hn0⟩ | ⟨g, cap, cur, hv, _, _, hnc, _⟩
      · simp only [Value.slice.injEq] at hv
        obtain ⟨rfl, rfl, rfl⟩ := hv
        simp [Builtin.append_, run_underlying ht, sizeOf, typeInfo, hi, Builtin.lenOf, Builtin.firstCells]
      · simp only [Value.slice.injEq] at hv
        obtain ⟨rfl, _, rfl⟩ := hv
        simp [Builtin.append_, run_underlying ht, sizeOf, typeInfo, hi, Builtin.lenOf, Builtin.firstCells, hnc, storeCells]
    unfold Oper.wp
    simp [execOp, ho, resolve, invoke, builtin, hs, hx, hrun, Result.andThen]
    exact hK _ _ (h A c w (by simpa using hown) (World.grownBy.refl w _) (.inl rfl))

/-- The stack in its box, and what came. -/
def OneI (w0 W : World) (g base : Nat) (A : Option Addr) (m c : Nat) (S : List Int) (H : Option Addr) (p c2 : Nat) (X : List Int) : Prop :=
  g < base ∧ base ≤ W.heap.size ∧ W.frozen? ⟨g, 0, none⟩ = false ∧ W.cell? ⟨g, 0, none⟩ = some (.slice A m c) ∧ S.length = m ∧ X.length = p ∧
  W.ownsRow base 3 1 (.slice A m c) m (S.map (Value.int .i64)) ∧ W.ownsRow base 3 1 (.slice H p c2) p (X.map (Value.int .i64)) ∧ (A.map (·.block) = none ∨ A.map (·.block) ≠ H.map (·.block)) ∧ w0.heap.size ≤ g ∧ Below w0.heap.size w0 W
section
variable {w0 W w2 : World} {g base m c p c2 : Nat} {A H : Option Addr} {S X : List Int}
theorem OneI.taken {r : Nat} {S' : List Int} (h : OneI w0 W g base A m c S H p c2 X) (h1 : w2.cell? ⟨g, 0, none⟩ = some (.slice A r c)) (h2 : w2.ownsRow base 3 1 (.slice A r c) r (S'.map (Value.int .i64))) (hr : S'.length = r) (h3 : StW W w2 g 0 none) : OneI w0 w2 g base A r c S' H p c2 X := by
  obtain ⟨k1, k2, k3, k4, k5, k6, k7, k8, k9, ka, kb⟩ := h
  exact ⟨k1, Nat.le_trans k2 h3.size, (h3.frozen 0).trans k3, h1, hr, k6, h2, h3.kept k8 k1 (fun _ _ e => by cases e), k9, ka, kb.trans (h3.below ka kb.size (fun i hi => by cases hi))⟩
theorem OneI.added {p' c2' : Nat} {H' : Option Addr} {X' : List Int} (h : OneI w0 W g base A m c S H p c2 X) (h1 : w2.ownsRow base 3 1 (.slice H' p' c2') p' (X'.map (Value.int .i64))) (hl : X'.length = p') (hg : W.grownBy w2 (Value.slice H p c2).ownBlock)
    (hat : H'.map (·.block) = H.map (·.block) ∨ H'.map (·.block) = some W.heap.size) : OneI w0 w2 g base A m c S H' p' c2' X' := by
  obtain ⟨k1, k2, k3, k4, k5, k6, k7, k8, k9, ka, kb⟩ := h
  have hgb := hg.block g (by omega) (fun e => by have := (k8.lt g e.symm).1; omega)
  refine ⟨k1, Nat.le_trans k2 hg.size, (World.frozen?_of_block (a := ⟨g, 0, none⟩) hgb).trans k3, (World.cell?_of_block (a := ⟨g, 0, none⟩) hgb).trans k4, k5, hl, ?_, h1, ?_, ka, kb.grown hg kb.size (fun i hi => by have := (k8.lt i hi).1; omega)⟩
  · refine k7.kept hg ?_
    rw [slice_block, slice_block]
    exact k9
  · rcases k9 with k9 | k9
    · exact .inl k9
    · by_cases hA : A.map (·.block) = none
      · exact .inl hA
      · right
        rcases hat with e | e
        · rw [e]; exact k9
        · rw [e]
          intro e2
          have := (k7.lt W.heap.size (by rw [slice_block]; exact e2)).2
          omega
theorem OneI.put {x : Int} (h : OneI w0 W g base A m c S H p c2 X) (hp : PutPost W g 0 base m A S x w2) : ∃ A' c', OneI w0 w2 g base A' (m + 1) c' (S ++ [x]) H p c2 X := by
  obtain ⟨k1, k2, k3, k4, k5, k6, k7, k8, k9, ka, kb⟩ := h
  obtain ⟨A', c', p1, p2, p3, p4⟩ := hp
  refine ⟨A', c', k1, Nat.le_trans k2 p3.size, (p3.frozen 0).trans k3, p1, by simp [k5], k6, p2, p3.kept k8 k1 (fun i hi e => ?_), ?_, ka, kb.trans (p3.below ka kb.size (fun i hi => ?_))⟩
  · rw [slice_block] at hi
    rcases k9 with k9 | k9
    · rw [k9] at e; cases e
    · exact k9 (e.trans hi.symm)
  · rcases p4 with e | e
    · rw [e]; exact k9
    · right
      rw [e]
      intro e2
      have := (k8.lt _ (by rw [slice_block]; exact e2.symm)).2
      omega
  · have := (k7.lt i (by rw [slice_block]; exact hi)).1
    omega
end

set_option maxRecDepth 100000 in
set_option maxHeartbeats 8000000 in
theorem impOneStack_any (A0 : Option Addr) (c0 : Nat) (zs : List Int) (w : World) (hr : Ints w w.heap.size A0 zs) (hc0 : zs.length ≤ c0) :
    Calls Try.prog 26 #[.slice A0 zs.length c0] w (iRes w (oneV zs)) := by
  obtain ⟨i0, hi0, hz0, hz1, hz2⟩ := info_parts Try.info3
  have hva := impValidRow_any A0 c0 zs w hr hc0
  by_cases hv : rowB 9 zs = true
  · rw [hv] at hva
    have HVA := Lib.hid hva
    have HR := Lib.hid hv
    have hl9 := rowB_len hv
    rw [oneV_yes hv]
    clear hva hv
    obtain ⟨W0, hW0⟩ : ∃ W0, w.alloc (.cells #[.slice none 0 0] 52) = W0 := ⟨_, rfl⟩
    have HW0 := Lib.hid hW0
    have HZ0 := Lib.hid (show W0.heap.size = w.heap.size + 1 by rw [← hW0]; simp)
    go_enter Try.func26, Try.ntmps26
    go_wp2_with (first | (go_at_call 18; refine HVA.out.mono ?_; rintro e w' ⟨rfl, rfl⟩) | (at_make; refine wpList_make_own _ rfl (.const (.int .i64 0)) (.tmp 11) _ rfl W0.heap.size 3 i0 (.int .i64 0) 1 Try.underlying22 hi0 hz0 hz1 _ _ _ _ rfl rfl rfl (by rw [hz2]; omega) (by unfold maxLen; omega) (Nat.le_refl _) ?_))
    intro w1 hown hg
    have hin : OneI w w1 w.heap.size (w.heap.size + 1) none 0 0 [] (some ⟨W0.heap.size, 0, none⟩) 0 zs.length [] := by
      have hz := HZ0.out
      have hgb := hg.block w.heap.size (by omega) (by simp)
      have hn : W0.heap[w.heap.size]? = some (.cells #[.slice none 0 0] 52 (0, 0)) := by rw [← HW0.out]; exact heap_alloc_new w _
      refine ⟨by omega, by have := hg.size; omega, (World.frozen?_of_block (a := ⟨w.heap.size, 0, none⟩) hgb).trans (frozen_of_row _ _ _ _ _ hn), (World.cell?_of_block (a := ⟨w.heap.size, 0, none⟩) hgb).trans (by rw [cell_of_row _ _ 0 _ _ _ hn]; rfl), rfl, rfl, World.ownsRow_nil _ _ _ _, own_base hown (by omega), .inl rfl, Nat.le_refl _, ?_⟩
      have hb0 : Below w.heap.size w W0 := by rw [← HW0.out]; exact (Below.refl _ _).alloc (Nat.le_refl _) _
      exact hb0.grown hg hb0.size (by simp)
    have HIN := Lib.hid hin
    obtain ⟨h, hh⟩ : ∃ h, W0.heap.size = h := ⟨_, rfl⟩
    rw [hh] at HIN ⊢
    clear hin hown hg hW0 HW0 HZ0 hh
    go_wp2
    go_loopw [4, 15] (fun v j wr => ∃ (k m c p c2 : Nat) (A H : Option Addr) (S X : List Int), k ≤ zs.length ∧ j = .int .i64 k ∧ v = .slice H p c2 ∧ p + m = k ∧ OneI w wr w.heap.size (w.heap.size + 1) A m c S H p c2 X ∧ osR zs = X ++ osL S.reverse (zs.drop k) ∧ ∀ z ∈ S, z ∈ zs.take k) (fun _ j _ => zs.length - (intOf j).toNat)
    case atStart => exact ⟨0, 0, 0, 0, _, none, _, [], [], by omega, rfl, rfl, rfl, HIN.out, rfl, by simp⟩
    case round =>
      clear HIN
      obtain ⟨k, m, c, p, c2, A, H, S, X, hk, rfl, rfl, hpm, hst, hos, hsub⟩ := hrel
      have HST := Lib.hid hst
      have HOS := Lib.hid hos
      have HSU := Lib.hid hsub
      have hbr := hst.2.2.2.2.2.2.2.2.2.2
      have hmr := fun x : Int => makeRoom_any w.heap.size 0 (w.heap.size + 1) A m c S x wr hst.2.2.2.1 hst.2.2.1 hst.2.2.2.2.1.symm hst.2.2.2.2.2.2.1 hst.1 hst.2.1 (by omega)
      have HMR := Lib.hid hmr
      by_cases hlt : k < zs.length
      · obtain ⟨b, o, rfl, hb, hc⟩ := (hr.below hbr).open (by simp; omega)
        have hcI := ints_atD hc hlt
        have hnx : zs.getD k 0 ∉ S := fun hm => (rowB_at HR.out hlt).2 (by have := hsub _ hm; rwa [getD_get hlt] at this)
        obtain ⟨x, hx⟩ : ∃ x, zs.getD k 0 = x := ⟨_, rfl⟩
        rw [hx] at hcI hnx
        have HNX := Lib.hid (show osR zs = (X ++ popped S x) ++ osL (stays S x ++ [x]).reverse (zs.drop (k + 1)) by rw [HOS.out, drop_get hlt, hx, osL_make hnx, List.append_assoc])
        have HNS := Lib.hid (show ∀ z ∈ stays S x ++ [x], z ∈ zs.take (k + 1) from fun z hz => by
          rw [List.take_succ_eq_append_getElem hlt, ← getD_get hlt, hx]
          rcases List.mem_append.1 hz with hz | hz
          · exact List.mem_append_left _ (HSU.out z (stays_sub S x z hz))
          · exact List.mem_append_right _ hz)
        have HPL := Lib.hid (show (popped S x).length + (stays S x).length = m by rw [popped_len]; exact hst.2.2.2.2.1)
        have HPM := Lib.hid hpm
        have hk1 : k + 1 ≤ zs.length := by omega
        clear hc hx hnx hst hos hsub hbr hmr hpm
        go_wp2_with fail
        refine (HMR.out x).mono ?_
        rintro e w2 ⟨B, d, rfl, q1, q2, q3, q4⟩
        have hpl := HPL.out
        obtain ⟨P, hP⟩ : ∃ P, popped S x = P := ⟨_, rfl⟩
        obtain ⟨R, hRR⟩ : ∃ R, stays S x = R := ⟨_, rfl⟩
        rw [hP] at q1 HNX hpl ⊢
        rw [hRR] at q2 q3 HNX HNS hpl
        have H2 := Lib.hid (HST.out.taken (S' := R) q2 q3 rfl q4)
        have HSRC := Lib.hid (own_of_rowS (by decide) q1).row
        have hH := H2.out.2.2.2.2.2.2.2.1
        have hsz2 := H2.out.2.1
        obtain ⟨q, hq⟩ : ∃ q, P.length = q := ⟨_, rfl⟩
        obtain ⟨r, hrr⟩ : ∃ r, R.length = r := ⟨_, rfl⟩
        have HQ := Lib.hid (And.intro hq hrr)
        rw [hq] at hpl ⊢
        rw [hrr] at hpl H2
        have HPL2 := Lib.hid (And.intro hpl HPM.out)
        have hqm : p + q ≤ 1000 := by have := HPM.out; omega
        have HUL := Lib.hid (show (P.map (Value.int .i64)).length = q * 1 by rw [List.length_map, hq, Nat.mul_one])
        have hrl : r ≤ 1000 := by have := HPM.out; omega
        clear q1 q2 q3 q4 hq hrr hpl hP hRR
        go_wp2_with (at_builtin; refine wpList_extend_at rfl (.tmp 19) (.tmp 21) 22 rfl i0 (.int .i64 0) 8 Try.underlying22 hi0 hz0 hz1 hz2 rfl (by decide) _ _ rfl hH B q d _ (P.map (Value.int .i64)) rfl HUL.out HSRC.out (ones_ints _) (by omega) (by omega) hsz2 ?_)
        intro H' c2' w3 hown3 hg3 hat3
        have H3 := Lib.hid (H2.out.added (X' := X ++ P) (by rw [List.map_append]; exact hown3) (by rw [List.length_append, H2.out.2.2.2.2.2.1, HQ.out.1]) hg3 (at_form hat3))
        have hpu := put_any w.heap.size 0 (w.heap.size + 1) A r c R x w3 H3.out.2.2.2.1 H3.out.2.2.1 H3.out.2.2.2.2.2.2.1 H3.out.1 H3.out.2.1 (by omega)
        have HPU := Lib.hid hpu
        clear hown3 hg3 hat3 hpu hH
        go_wp2_with fail
        refine HPU.out.mono ?_
        rintro e w4 ⟨rfl, hpost⟩
        have H4 := Lib.hid (H3.out.put hpost)
        clear hpost
        go_wp2_with fail
        go_roundw
        case rel =>
          obtain ⟨A', c', h4⟩ := H4.out
          exact ⟨k + 1, r + 1, c', p + q, c2', A', H', R ++ [x], X ++ P, by omega, by go_num, rfl, by have := HPL2.out.1; have := HPL2.out.2; omega, h4, HNX.out, HNS.out⟩
        case measure => simp [intOf]; omega
      · have hkn : k = zs.length := by omega
        have hall : ∀ z ∈ S, z < (zs.length : Int) := fun z hz => by
          have := List.mem_of_mem_take (hsub z hz)
          obtain ⟨i, hi, rfl⟩ := List.getElem_of_mem this
          exact (rowB_at HR.out hi).1.2
        have HNX := Lib.hid (show osR zs = X ++ popped S (zs.length : Int) by rw [HOS.out, hkn, List.drop_length, popped_all hall]; rfl)
        have HPL := Lib.hid (show (popped S (zs.length : Int)).length + (stays S (zs.length : Int)).length = m by rw [popped_len]; exact hst.2.2.2.2.1)
        have HPM := Lib.hid hpm
        clear hst hos hsub hbr hmr hpm hall hkn
        go_wp2_with fail
        refine (HMR.out _).mono ?_
        rintro e w2 ⟨B, d, rfl, q1, q2, q3, q4⟩
        have hpl := HPL.out
        obtain ⟨P, hP⟩ : ∃ P, popped S (zs.length : Int) = P := ⟨_, rfl⟩
        obtain ⟨R, hRR⟩ : ∃ R, stays S (zs.length : Int) = R := ⟨_, rfl⟩
        rw [hP] at q1 HNX hpl ⊢
        rw [hRR] at q2 q3 hpl
        have H2 := Lib.hid (HST.out.taken (S' := R) q2 q3 rfl q4)
        have HSRC := Lib.hid (own_of_rowS (by decide) q1).row
        have hH := H2.out.2.2.2.2.2.2.2.1
        have hsz2 := H2.out.2.1
        obtain ⟨q, hq⟩ : ∃ q, P.length = q := ⟨_, rfl⟩
        have HQ := Lib.hid hq
        rw [hq] at hpl ⊢
        have hqm : p + q ≤ 1000 := by have := HPM.out; omega
        have HUL := Lib.hid (show (P.map (Value.int .i64)).length = q * 1 by rw [List.length_map, hq, Nat.mul_one])
        clear q1 q2 q3 q4 hq hpl hP hRR
        go_wp2_with (at_builtin; refine wpList_extend_at rfl (.tmp 26) (.tmp 29) 22 rfl i0 (.int .i64 0) 8 Try.underlying22 hi0 hz0 hz1 hz2 rfl (by decide) _ _ rfl hH B q d _ (P.map (Value.int .i64)) rfl HUL.out HSRC.out (ones_ints _) (by omega) (by omega) hsz2 ?_)
        intro H' c2' w3 hown3 hg3 hat3
        have H3 := Lib.hid (H2.out.added (X' := X ++ P) (by rw [List.map_append]; exact hown3) (by rw [List.length_append, H2.out.2.2.2.2.2.1, HQ.out]) hg3 (at_form hat3))
        have HF := Lib.hid (iRes_row (V := osR zs) (w := w) (by rw [HNX.out]; exact own_base H3.out.2.2.2.2.2.2.2.1 (by omega)) (by rw [HNX.out]; exact H3.out.2.2.2.2.2.1.symm) H3.out.2.2.2.2.2.2.2.2.2.2)
        clear hown3 hg3 hat3 hH
        go_wp2
        go_ret
        exact HF.out
  · have hv' : rowB 9 zs = false := by simpa using hv
    rw [hv'] at hva
    have HVA := Lib.hid hva
    rw [oneV_no hv']
    clear hva hv hv'
    go_enter Try.func26, Try.ntmps26
    go_wp2_with (go_at_call 18; refine HVA.out.mono ?_; rintro e w' ⟨rfl, rfl⟩)
    go_ret
    exact iRes.none rfl (Below.refl _ _)
end Go.Proofs.Ytdgdlmpmoafkgaa
