/- The walk of the law FnRoundsNeedWays. No condition. -/
import Derived.Test.YtekckjjfggclnaaN16
import Derived.Test.YtekckjjfggclnaaN19
import Derived.Test.YtekckjjfggclnaaEqR
import Derived.Test.YtekckjjfggclnaaEx
import Derived.Test.YtekckjjfggclnaaRc5
namespace Go.Proofs.Ytekckjjfggclnaa
open Go.RowKit
section
def cross (S : Nat → Bool) (s : St) : Nat := if S s.1 = S s.2.1 then 0 else 1
def crossT (S : Nat → Bool) (es : List St) : Nat := (es.map (cross S)).sum
theorem sum_zero (l : List Nat) : (l.map fun _ => 0).sum = 0 := by
  induction l with
  | nil => rfl
  | cons a l ih => rw [List.map_cons, List.sum_cons, ih]
theorem sum_pick {n a : Nat} (S : Nat → Bool) (h : a < n) : ((List.range n).map fun v => if S v = true then (if a = v then 1 else 0) else 0).sum = if S a = true then 1 else 0 := by
  by_cases hs : S a = true
  · rw [if_pos hs]
    refine Eq.trans (congrArg List.sum (List.map_congr_left fun v _ => ?_)) (sum_one n a h)
    by_cases e : a = v
    · subst e; rw [if_pos hs]
    · rw [if_neg e, ite_self]
  · rw [if_neg hs]
    refine Eq.trans (congrArg List.sum (List.map_congr_left fun v _ => ?_)) (sum_zero (List.range n))
    by_cases e : a = v
    · subst e; rw [if_neg hs]
    · rw [if_neg e, ite_self]
theorem cross_parity {n : Nat} (S : Nat → Bool) {es : List St} (h : ∀ s ∈ es, s.1 < n ∧ s.2.1 < n) : ((List.range n).map fun v => if S v = true then degT es v else 0).sum % 2 = crossT S es % 2 := by
  induction es with
  | nil =>
    have : ((List.range n).map fun v => if S v = true then degT [] v else 0) = (List.range n).map fun _ => 0 := List.map_congr_left fun v _ => by simp [degT]
    rw [this, sum_zero]; rfl
  | cons s es ih =>
    have h1 := h s List.mem_cons_self
    have e : ((List.range n).map fun v => if S v = true then degT (s :: es) v else 0) = (List.range n).map fun v => ((if S v = true then (if s.1 = v then 1 else 0) else 0) + (if S v = true then (if s.2.1 = v then 1 else 0) else 0)) + (if S v = true then degT es v else 0) := List.map_congr_left fun v _ => by
      by_cases hv : S v = true
      · simp only [if_pos hv]; simp [degT, ends1]
      · simp only [if_neg hv]
    rw [e, sum_add, sum_add, sum_pick S h1.1, sum_pick S h1.2]
    have ih' := ih (fun t ht => h t (List.mem_cons_of_mem _ ht))
    show _ = (((s :: es).map (cross S)).sum) % 2
    rw [List.map_cons, List.sum_cons]
    change _ = (cross S s + crossT S es) % 2
    unfold cross
    cases S s.1 <;> cases S s.2.1 <;> simp <;> omega
theorem cut_even {n : Nat} (S : Nat → Bool) {es : List St} (h : ∀ s ∈ es, s.1 < n ∧ s.2.1 < n) (he : ∀ v, v < n → degT es v % 2 = 0) : crossT S es % 2 = 0 := by
  rw [← cross_parity S h]
  have : ∀ l : List Nat, (∀ v ∈ l, v < n) → (l.map fun v => if S v = true then degT es v else 0).sum % 2 = 0 := by
    intro l
    induction l with
    | nil => intro _; rfl
    | cons a l ih =>
      intro hl
      have h1 := ih fun v hv => hl v (List.mem_cons_of_mem _ hv)
      have h2 := he a (hl a List.mem_cons_self)
      rw [List.map_cons, List.sum_cons]
      split <;> omega
  exact this _ fun v hv => List.mem_range.1 hv
theorem cut_sum_le (x y : Nat) (hxy : x ≤ y) (T : Nat) : ((List.range T).map fun t => if decide (x ≤ t) = decide (y ≤ t) then 0 else 1).sum = min y T - min x T := by
  induction T with
  | zero => simp
  | succ T ih =>
    rw [List.range_succ, List.map_append, List.sum_append, ih]
    by_cases h1 : x ≤ T <;> by_cases h2 : y ≤ T <;> simp [h1, h2] <;> omega
theorem cut_sum {x y l : Nat} (h1 : x ≤ y + l) (h2 : y ≤ x + l) (T : Nat) : ((List.range T).map fun t => if decide (x ≤ t) = decide (y ≤ t) then 0 else 1).sum ≤ l := by
  by_cases h : x ≤ y
  · rw [cut_sum_le x y h T]; omega
  · have e : ((List.range T).map fun t => if decide (x ≤ t) = decide (y ≤ t) then 0 else 1) = (List.range T).map fun t => if decide (y ≤ t) = decide (x ≤ t) then 0 else 1 := List.map_congr_left fun t _ => by
      by_cases e : decide (x ≤ t) = decide (y ≤ t)
      · rw [if_pos e, if_pos e.symm]
      · rw [if_neg e, if_neg fun h => e h.symm]
    rw [e, cut_sum_le y x (by omega) T]; omega
theorem cuts_le {f : Nat → Nat} {es : List St} (h : ∀ s ∈ es, f s.1 ≤ f s.2.1 + s.2.2 ∧ f s.2.1 ≤ f s.1 + s.2.2) (T : Nat) : ((List.range T).map fun t => crossT (fun v => decide (f v ≤ t)) es).sum ≤ totL es := by
  induction es with
  | nil =>
    have : ((List.range T).map fun t => crossT (fun v => decide (f v ≤ t)) []) = (List.range T).map fun _ => 0 := List.map_congr_left fun v _ => rfl
    rw [this, sum_zero]; exact Nat.zero_le _
  | cons s es ih =>
    have e : ((List.range T).map fun t => crossT (fun v => decide (f v ≤ t)) (s :: es)) = (List.range T).map fun t => (if decide (f s.1 ≤ t) = decide (f s.2.1 ≤ t) then 0 else 1) + crossT (fun v => decide (f v ≤ t)) es := List.map_congr_left fun v _ => by
      simp only [crossT, List.map_cons, List.sum_cons]; rfl
    have h1 := h s List.mem_cons_self
    have h2 := cut_sum h1.1 h1.2 T
    have h3 := ih fun t ht => h t (List.mem_cons_of_mem _ ht)
    rw [e, sum_add]
    unfold totL at h3 ⊢
    rw [List.map_cons, List.sum_cons]
    omega
theorem crossT_none {S : Nat → Bool} {es : List St} (h : crossT S es = 0) : ∀ s ∈ es, S s.1 = S s.2.1 := by
  induction es with
  | nil => intro s hs; cases hs
  | cons s es ih =>
    simp only [crossT, List.map_cons, List.sum_cons] at h
    intro t ht
    rcases List.mem_cons.1 ht with rfl | ht
    · have : cross S t = 0 := by omega
      unfold cross at this
      by_cases e : S t.1 = S t.2.1
      · exact e
      · rw [if_neg e] at this; omega
    · exact ih (by unfold crossT; omega) t ht
theorem sum_ge (g : Nat → Nat) (T c : Nat) (h : ∀ t, t < T → c ≤ g t) : c * T ≤ ((List.range T).map g).sum := by
  induction T with
  | zero => simp
  | succ T ih =>
    have h1 := ih fun t ht => h t (by omega)
    have h2 := h T (by omega)
    rw [List.range_succ, List.map_append, List.sum_append]
    simp only [List.map_cons, List.map_nil, List.sum_cons, List.sum_nil]
    rw [Nat.mul_succ]; omega
theorem pairTo_is {D : Nat → Nat → Int} {F : List Nat → Int} {x : Nat} {r : List Nat} : ∀ j, 0 < j → ∃ i, i < j ∧ pairTo D F x r j = D x (r.getD i 0) + F (dropAt r i)
  | j + 1, _ => by
    show ∃ i, i < j + 1 ∧ bestS (pairTo D F x r j) _ = _
    unfold bestS
    by_cases h : pairTo D F x r j < 0 ∨ D x (r.getD j 0) + F (dropAt r j) < pairTo D F x r j
    · rw [if_pos h]; exact ⟨j, by omega, rfl⟩
    · rw [if_neg h]
      cases j with
      | zero => exact absurd (.inl (show (-1 : Int) < 0 by omega)) h
      | succ j =>
        obtain ⟨i, hi, he⟩ := pairTo_is (D := D) (F := F) (x := x) (r := r) (j + 1) (by omega)
        exact ⟨i, by omega, he⟩
theorem count_drop {r : List Nat} {j : Nat} (h : j < r.length) (v : Nat) : r.count v = (dropAt r j).count v + (if r.getD j 0 = v then 1 else 0) := by
  have e : r = r.take j ++ r[j] :: r.drop (j + 1) := by rw [← List.drop_eq_getElem_cons h, List.take_append_drop]
  have hg : r.getD j 0 = r[j] := by rw [List.getD, List.getElem?_eq_getElem h]; rfl
  rw [hg]
  have e2 := congrArg (List.count v) e
  rw [List.count_append, List.count_cons] at e2
  unfold dropAt
  rw [List.count_append]
  by_cases hv : r[j] = v
  · rw [if_pos hv]; simp [hv] at e2; omega
  · rw [if_neg hv]; simp [hv] at e2; omega
theorem pairF_is {n : Nat} {D : Nat → Nat → Int} (hD : ∀ i k, i < n → k < n → 0 ≤ D i k) : ∀ (m : Nat) (l : List Nat), l.length = 2 * m → (∀ y ∈ l, y < n) →
    ∃ ps : List St, (∀ s ∈ ps, s.1 < n ∧ s.2.1 < n ∧ (s.2.2 : Int) = D s.1 s.2.1) ∧ (totL ps : Int) = pairF D m l ∧ ∀ v, degT ps v = l.count v
  | 0, l, hl, _ => by
    have : l = [] := List.length_eq_zero_iff.1 (by omega)
    subst this
    exact ⟨[], ⟨(fun s hs => absurd hs List.not_mem_nil), ⟨rfl, fun v => rfl⟩⟩⟩
  | m + 1, [], hl, _ => by simp at hl
  | m + 1, x :: r, hl, hn => by
    simp only [List.length_cons] at hl
    have hx := hn x (by simp)
    have hr : ∀ y ∈ r, y < n := fun y hy => hn y (by simp [hy])
    obtain ⟨j, hj, he⟩ := pairTo_is (D := D) (F := pairF D m) (x := x) (r := r) r.length (by omega)
    obtain ⟨ps, h1, h2, h3⟩ := pairF_is hD m (dropAt r j) (by have := dropAt_len hj; omega) (dropAt_lt hr)
    have hy : r.getD j 0 < n := by rw [List.getD, List.getElem?_eq_getElem hj]; exact hr _ (List.getElem_mem hj)
    have h0 := hD x _ hx hy
    refine ⟨(x, r.getD j 0, (D x (r.getD j 0)).toNat) :: ps, fun s hs => ?_, ?_, fun v => ?_⟩
    · rcases List.mem_cons.1 hs with rfl | hs
      · exact ⟨hx, hy, Int.toNat_of_nonneg h0⟩
      · exact h1 s hs
    · show _ = pairTo D (pairF D m) x r r.length
      rw [he, ← h2]
      unfold totL
      rw [List.map_cons, List.sum_cons]
      push_cast
      rw [Int.toNat_of_nonneg h0]
    · have h4 := h3 v
      unfold degT at h4 ⊢
      rw [List.map_cons, List.sum_cons, h4, List.count_cons, count_drop hj v]
      unfold ends1
      by_cases e : x = v
      · simp [e]; omega
      · simp [e]; omega
theorem count_odd (p : Nat → Bool) (n v : Nat) : ((List.range n).filter p).count v = if v < n ∧ p v = true then 1 else 0 := by
  induction n with
  | zero => simp
  | succ n ih =>
    rw [List.range_succ, List.filter_append, List.count_append, ih]
    by_cases e : v = n
    · subst e
      cases h : p v <;> simp [h]
    · have e' : ¬ n = v := fun h => e h.symm
      cases h : p n <;> simp [h, e'] <;> (congr 1; simp; omega)
/-- A round is at least there and back. -/
theorem round_ge {n : Nat} {ss : List St} {D : Nat → Nat → Int} (hlt : ∀ s ∈ ss, s.1 < n ∧ s.2.1 < n) (hD : ∀ i k, i < n → k < n → 0 ≤ D i k) (htr : ∀ i j k, i < n → j < n → k < n → D i k ≤ D i j + D j k) (h0 : ∀ i, i < n → D i i = 0) (hsy : ∀ i k, i < n → k < n → D k i = D i k)
    (hst : ∀ a b l : Nat, (a, b, l) ∈ ss → a < n → b < n → D a b ≤ (l : Int)) {k : Nat} (hk : k < n) (hw : ∃ w, Wk ss n 0 k w) :
    2 * D 0 k ≤ (totL ss : Int) + pairF D ((oddL n ss).length / 2) (oddL n ss) := by
  have hn0 : 0 < n := by omega
  obtain ⟨ps, h1, h2, h3⟩ := pairF_is hD ((oddL n ss).length / 2) (oddL n ss) (oddL_even hlt) (oddL_lt n ss)
  rw [← h2]
  obtain ⟨f, hf⟩ : ∃ f : Nat → Nat, f = fun v => (min (D 0 v) (D 0 k)).toNat := ⟨_, rfl⟩
  have hf0 : f 0 = 0 := by rw [hf]; have := h0 0 hn0; have := hD 0 k hn0 hk; show (min (D 0 0) (D 0 k)).toNat = 0; omega
  have hfk : f k = (D 0 k).toNat := by rw [hf]; show (min (D 0 k) (D 0 k)).toNat = _; omega
  have hed : ∀ a b l : Nat, a < n → b < n → D a b ≤ (l : Int) → f a ≤ f b + l ∧ f b ≤ f a + l := fun a b l ha hb hl => by
    have g1 := htr 0 a b hn0 ha hb
    have g2 := htr 0 b a hn0 hb ha
    have g3 := hsy a b ha hb
    rw [hf]
    show (min (D 0 a) (D 0 k)).toNat ≤ (min (D 0 b) (D 0 k)).toNat + l ∧ (min (D 0 b) (D 0 k)).toNat ≤ (min (D 0 a) (D 0 k)).toNat + l
    omega
  have hes : ∀ s ∈ ss ++ ps, s.1 < n ∧ s.2.1 < n := fun s hs => by
    rcases List.mem_append.1 hs with hs | hs
    · exact hlt s hs
    · exact ⟨(h1 s hs).1, (h1 s hs).2.1⟩
  have hev : ∀ v, v < n → degT (ss ++ ps) v % 2 = 0 := fun v hv => by
    have e : degT (ss ++ ps) v = degT ss v + degT ps v := by unfold degT; rw [List.map_append, List.sum_append]
    rw [e, h3 v]
    unfold oddL
    rw [count_odd]
    by_cases ho : degT ss v % 2 = 1
    · rw [if_pos ⟨hv, by simp [ho]⟩]; omega
    · rw [if_neg fun h => ho (by simpa using h.2)]; omega
  have hsum := cuts_le (f := f) (es := ss ++ ps) (fun s hs => by
    rcases List.mem_append.1 hs with hs | hs
    · exact hed _ _ _ (hlt s hs).1 (hlt s hs).2 (hst _ _ _ hs (hlt s hs).1 (hlt s hs).2)
    · exact hed _ _ _ (h1 s hs).1 (h1 s hs).2.1 (by rw [(h1 s hs).2.2]; exact Int.le_refl _)) (D 0 k).toNat
  have htwo := sum_ge (fun t => crossT (fun v => decide (f v ≤ t)) (ss ++ ps)) (D 0 k).toNat 2 fun t ht => by
    have g1 := cut_even (fun v => decide (f v ≤ t)) hes hev
    by_cases g2 : crossT (fun v => decide (f v ≤ t)) (ss ++ ps) = 0
    · have g3 := crossT_none g2
      obtain ⟨w, hw⟩ := hw
      have g4 : decide (f 0 ≤ t) = decide (f k ≤ t) := Wk.shut (r := fun v => decide (f v ≤ t)) (fun s hs => g3 s (List.mem_append_left _ hs)) hw
      rw [hf0, hfk] at g4
      have g5 : decide (0 ≤ t) = true := by simp
      rw [g5] at g4
      have := of_decide_eq_true g4.symm
      omega
    · omega
  have e : totL (ss ++ ps) = totL ss + totL ps := by unfold totL; rw [List.map_append, List.sum_append]
  rw [e] at hsum
  have := hD 0 k hn0 hk
  omega
end
theorem town_D {n : Nat} {rs : List (List Int)} {D : Nat → Nat → Int} (h : townB (n : Int) rs = true) (hD : IsDist n (rs.map st) D) :
    (∀ i k, i < n → k < n → 0 ≤ D i k ∧ D i k ≤ 140) ∧ Fair n D ∧ (∀ i, i < n → D i i = 0) ∧ (∀ i k, i < n → k < n → D k i = D i k) ∧ ∀ a b l : Nat, (a, b, l) ∈ rs.map st → a < n → b < n → D a b ≤ (l : Int) := by
  obtain ⟨m, hm, h1, h5, h7, hok, hre⟩ := townB_parts h
  have hnm : n = m := by omega
  subst hnm
  have hr : ∀ i k, i < n → k < n → 0 ≤ D i k ∧ D i k ≤ 140 := fun i k hi hk => by
    obtain ⟨w, hw, hb⟩ := town_short (street_lt hok) (street_len hok) (by rw [List.length_map]; exact h7) hre hi hk
    have := (hD i k hi hk).2.2 w hw
    omega
  have hw : ∀ i k, i < n → k < n → ∃ w : Nat, D i k = (w : Int) ∧ Wk (rs.map st) n i k w := fun i k hi hk => (hD i k hi hk).2.1 (hr i k hi hk).1
  refine ⟨hr, fun i j k hi hj hk => ?_, fun i hi => ?_, fun i k hi hk => ?_, fun a b l hm ha hb => ?_⟩
  · obtain ⟨x, hx, g1⟩ := hw i j hi hj
    obtain ⟨y, hy, g2⟩ := hw j k hj hk
    have := ((hD i k hi hk).2.2 _ (Wk.cat hj g1 g2)).2
    push_cast at this
    omega
  · have := ((hD i i hi hi).2.2 0 (Wk.nil _ _ _)).2
    have := (hr i i hi hi).1
    omega
  · obtain ⟨x, hx, g1⟩ := hw i k hi hk
    obtain ⟨y, hy, g2⟩ := hw k i hk hi
    have a1 := ((hD k i hk hi).2.2 _ g1.turn).2
    have a2 := ((hD i k hi hk).2.2 _ g2.turn).2
    omega
  · exact ((hD a b ha hb).2.2 l (Wk.to hm)).2
theorem drew_b (w : World) (n : Nat) : Below w.heap.size w (w.drewN n) := drewBelow w n
theorem round_town {n : Nat} {rs : List (List Int)} {V : Int} {D : Nat → Nat → Int} (hV : IsRound n rs V) (h : townB (n : Int) rs = true) (hD : IsDist n (rs.map st) D) : ∀ k, k < n → 2 * D 0 k ≤ V := by
  have hT := town_D h hD
  obtain ⟨m, hm, h1, h5, h7, hok, hre⟩ := townB_parts h
  have hnm : n = m := by omega
  subst hnm
  intro k hk
  rw [hV.yes h hD]
  obtain ⟨w, hw, _⟩ := town_short (street_lt hok) (street_len hok) (by rw [List.length_map]; exact h7) hre (show 0 < n by omega) hk
  exact round_ge (street_lt hok) (fun i k hi hk => (hT.1 i k hi hk).1) (fun i j k hi hj hk => hT.2.1 i j k hi hj hk) hT.2.2.1 hT.2.2.2.1 hT.2.2.2.2 hk ⟨w, hw⟩


set_option maxRecDepth 100000 in
set_option maxHeartbeats 8000000 in
theorem roundsNeedWays_law (A : Option Addr) (c : Nat) (zs : List Int) (v0 : World) (hr : Own v0 0 v0.heap.size A (zs.map (Value.int .u8))) (hx : zs.length ≤ c ∧ c ≤ maxLen ∧ ∀ z ∈ zs, (Lit.int .u8 z).wf = true) :
    Calls Try.prog 4 #[.slice A zs.length c] v0 fun e w' => e = .returned (.bool true) ∧ Below v0.heap.size v0 w' := by
  have hl : zs.length ≤ 9223372036854775807 := by have := hx.1; have := hx.2.1; unfold maxLen at this; omega
  have HX := Lib.hid hx
  clear hx
  by_cases h20 : zs.length ≤ 1048576
  · go_enter Try.func4, Try.ntmps4
    go_wp2_with fail
    refine (DrawApartOf_any _ _ _ _ hr HX.out).mono ?_
    rintro e w ⟨B, d, rs, n, rfl, hn1, hn6, h9, hdc, hln, hrg, hb0⟩
    have HM := Lib.hid (show ∀ r ∈ rs, r.length ≤ 1000000000 from fun r h => by have := hln r h; omega)
    have HB0 := Lib.hid hb0
    have z00 := hb0.size
    clear hln hb0
    obtain ⟨q, hq⟩ := exists_apart (n : Int) rs
    have hbq := hq.bd
    obtain ⟨V, hrv⟩ := exists_round (n : Int) rs
    cases hv : townB (n : Int) rs with
    | false =>
      have hqn := hq.no hv
      subst hqn
      have hVn := hrv.no hv
      subst hVn
      have HV := Lib.hid hq
      have HRV := Lib.hid hrv
      clear hv hbq hq hrv
      have g0 := hrg
      clear hrg
      have p0 := Below.refl w.heap.size w
      have z0 : w.heap.size ≤ w.heap.size := Nat.le_refl _
      go_wp2_with fail
      refine (impApartOf_any _ _ _ _ _ (g0.row.more (by omega)) HM.out HV.out).mono ?_
      rintro e w1 ⟨A1, c1, rfl, hc1, o1, e1⟩
      have z1 := e1.size
      have g1 := g0.keep (by omega) e1
      clear g0
      have a1 := o1
      clear o1
      have p1 := p0.trans (e1.mono (by omega))
      clear p0 e1
      go_wp2_with fail
      refine (specApartOf_any _ _ _ _ _ (g1.row.more (by omega)) (by omega) HM.out HV.out).mono ?_
      rintro e w2 ⟨A2, c2, rfl, hc2, o2, e2⟩
      have z2 := e2.size
      have g2 := g1.keep (by omega) e2
      clear g1
      have a2 := a1.keep (by omega) e2
      clear a1
      have s2 := o2
      clear o2
      have p2 := p1.trans (e2.mono (by omega))
      clear p1 e2
      have HEN := Lib.hid (eqG_self [])
      have HRN := Lib.hid (show ∀ (i : Nat) (hi : i < ([] : List (List Int)).length), ([] : List (List Int))[i].length ≤ 1000000000 from fun i hi => by simp at hi)
      go_wp2_with fail
      refine (equalRows_any _ _ _ _ [] [] _ (a2.row.more (by omega)) (s2.row.more (by omega)) (by simp) HRN.out).mono ?_
      rw [HEN.out]
      rintro e w3 ⟨rfl, n3, hw3⟩
      have e3 : Below w2.heap.size w2 w3 := by rw [hw3]; exact drew_b _ _
      clear hw3
      have z3 := e3.size
      have g3 := g2.keep (by omega) e3
      clear g2
      have a3 := a2.keep (by omega) e3
      clear a2
      have s3 := s2.keep (by omega) e3
      clear s2
      have p3 := p2.trans (e3.mono (by omega))
      clear p2 e3
      clear s3
      clear a3
      go_wp2_with fail
      refine (impRoundCost_any _ _ _ _ _ (g3.row.more (by omega)) HM.out HRV.out).mono ?_
      rintro e w4 ⟨rfl, e4⟩
      have z4 := e4.size
      have g4 := g3.keep (by omega) e4
      clear g3
      have p4 := p3.trans (e4.mono (by omega))
      clear p3 e4
      go_wp2_with fail
      refine (impApartOf_any _ _ _ _ _ (g4.row.more (by omega)) HM.out HV.out).mono ?_
      rintro e w5 ⟨A5, c5, rfl, hc5, o5, e5⟩
      have z5 := e5.size
      have g5 := g4.keep (by omega) e5
      clear g4
      have a5 := o5
      clear o5
      have p5 := p4.trans (e5.mono (by omega))
      clear p4 e5
      go_wp2_with fail
      go_loopw [7] (fun v wr => v = .int .i64 (0 : Int) ∧ Below w.heap.size w wr) (fun _ _ => 0)
      case atStart => exact ⟨rfl, p5⟩
      case round =>
        obtain ⟨rfl, hbw⟩ := hrel
        have HBW := Lib.hid hbw
        clear hbw p5
        go_wp2_with fail
        go_ret
        exact ⟨rfl, HB0.out.trans (HBW.out.mono z00)⟩
    | true =>
      obtain ⟨D, hD⟩ := exists_dist n (rs.map st)
      have hqm := hq.yes hv hD
      have hTD := town_D hv hD
      have hge := round_town hrv hv hD
      have hnn5 : n ≤ 5 := by obtain ⟨m, hm, _, h5, _⟩ := townB_parts hv; omega
      have HRq := Lib.hid (show ∀ (i : Nat) (hi : i < q.length), q[i].length ≤ 1000000000 from fun i hi => by have := hbq.2 _ (List.getElem_mem hi); omega)
      have HMq := Lib.hid (show ∀ y ∈ q, y.length ≤ 1000000000 from fun y hy => by have := hbq.2 y hy; omega)
      have hlq := hbq.1
      have hq0 : decide ((0 : Int) < (q.length : Int)) = true := by rw [hqm, mat_len]; exact decide_eq_true (by omega)
      have HV := Lib.hid hq
      have HRV := Lib.hid hrv
      have HGE := Lib.hid hge
      have HEQ := Lib.hid (eqG_self q)
      have HQM := Lib.hid hqm
      have HTD := Lib.hid hTD
      clear hv hbq hq hqm hTD hD hrv hge
      have g0 := hrg
      clear hrg
      have p0 := Below.refl w.heap.size w
      have z0 : w.heap.size ≤ w.heap.size := Nat.le_refl _
      go_wp2_with fail
      refine (impApartOf_any _ _ _ _ _ (g0.row.more (by omega)) HM.out HV.out).mono ?_
      rintro e w1 ⟨A1, c1, rfl, hc1, o1, e1⟩
      have z1 := e1.size
      have g1 := g0.keep (by omega) e1
      clear g0
      have a1 := o1
      clear o1
      have p1 := p0.trans (e1.mono (by omega))
      clear p0 e1
      go_wp2_with fail
      refine (specApartOf_any _ _ _ _ _ (g1.row.more (by omega)) (by omega) HM.out HV.out).mono ?_
      rintro e w2 ⟨A2, c2, rfl, hc2, o2, e2⟩
      have z2 := e2.size
      have g2 := g1.keep (by omega) e2
      clear g1
      have a2 := a1.keep (by omega) e2
      clear a1
      have s2 := o2
      clear o2
      have p2 := p1.trans (e2.mono (by omega))
      clear p1 e2
      go_wp2_with fail
      refine (equalRows_any _ _ _ _ _ _ _ (a2.row.more (by omega)) (s2.row.more (by omega)) (by omega) HRq.out).mono ?_
      rw [HEQ.out]
      rintro e w3 ⟨rfl, n3, hw3⟩
      have e3 : Below w2.heap.size w2 w3 := by rw [hw3]; exact drew_b _ _
      clear hw3
      have z3 := e3.size
      have g3 := g2.keep (by omega) e3
      clear g2
      have a3 := a2.keep (by omega) e3
      clear a2
      have s3 := s2.keep (by omega) e3
      clear s2
      have p3 := p2.trans (e3.mono (by omega))
      clear p2 e3
      clear s3
      clear a3
      go_wp2_with fail
      refine (impRoundCost_any _ _ _ _ _ (g3.row.more (by omega)) HM.out HRV.out).mono ?_
      rintro e w4 ⟨rfl, e4⟩
      have z4 := e4.size
      have g4 := g3.keep (by omega) e4
      clear g3
      have p4 := p3.trans (e4.mono (by omega))
      clear p3 e4
      go_wp2_with fail
      refine (impApartOf_any _ _ _ _ _ (g4.row.more (by omega)) HM.out HV.out).mono ?_
      rintro e w5 ⟨A5, c5, rfl, hc5, o5, e5⟩
      have z5 := e5.size
      have g5 := g4.keep (by omega) e5
      clear g4
      have a5 := o5
      clear o5
      have p5 := p4.trans (e5.mono (by omega))
      clear p4 e5
      have hA3 : Grid w5 0 w5.heap.size A5 (mat n D) := by rw [← HQM.out]; exact (a5.row.more (by omega))
      have hqlen : q.length = n := by rw [HQM.out, mat_len]
      rw [hqlen] at hq0 ⊢
      clear g5 a5
      obtain ⟨wS, hwS⟩ : ∃ wS, wS = w5 := ⟨_, rfl⟩
      rw [← hwS] at hA3 p5 ⊢
      have HP := Lib.hid p5
      have hps := p5.size
      obtain ⟨bO, oO, pO, qO, cO, hAO, hsq⟩ := hA3.sq (by omega)
      have HSQ := Lib.hid hsq
      subst hAO
      clear hwS p5 hA3 hsq hlq hqlen
      go_wp2_with fail
      go_loopw [7] (fun v wr => ∃ j : Nat, j ≤ n ∧ v = .int .i64 (j : Int) ∧ ∃ m, wr = wS.drewN m) (fun v _ => n - (intOf v).toNat)
      case atStart => exact ⟨0, by omega, rfl, 0, rfl⟩
      case round =>
        obtain ⟨j, hj, rfl, hdr⟩ := hrel
        have HDR := Lib.hid hdr
        have hbw : Below wS.heap.size wS wr := by obtain ⟨m, rfl⟩ := hdr; exact drewBelow _ _
        by_cases hlj : j < n
        · clear hq0
          have hn00 : 0 < n := by omega
          obtain ⟨_, hall⟩ := HSQ.out.below hbw
          obtain ⟨x1, _, x3⟩ := hall 0 hn00
          have x4 := x3 j hlj
          simp only [Nat.add_zero] at x1
          have d1 := HTD.out.1 0 j hn00 hlj
          have hge := HGE.out j hlj
          obtain ⟨u, hu⟩ : ∃ u, D 0 j = u := ⟨_, rfl⟩
          rw [hu] at x4 d1 hge
          have hw : IntKind.i64.wrap (2 * u) = 2 * u := IntWalk.i64_in _ (by omega)
          have hdl : decide (V < 2 * u) = false := decide_eq_false (by omega)
          have j1 : (0 : Int) ≤ j := by omega
          have j2 : (j : Int) < n := by omega
          have j3 : (0 : Int) < n := by omega
          clear hall x3 hu hge hdr hbw
          go_wp2_with fail
          exact ⟨⟨j + 1, by omega, by go_num, HDR.out⟩, by simp [intOf]; omega⟩
        · have HBW := Lib.hid hbw
          clear hdr hbw
          go_wp2_with fail
          go_ret
          exact ⟨rfl, HB0.out.trans ((HP.out.trans (HBW.out.mono (by omega))).mono z00)⟩
  · go_enter Try.func4, Try.ntmps4
    go_wp2
    go_ret
    exact ⟨rfl, Below.refl _ _⟩
end Go.Proofs.Ytekckjjfggclnaa
