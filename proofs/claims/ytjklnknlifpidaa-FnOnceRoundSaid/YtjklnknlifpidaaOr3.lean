/- A next street for a round that goes once over each street, plain. No condition. -/
import Derived.Test.YtjklnknlifpidaaRn0
import Derived.Test.YtjklnknlifpidaaN5
namespace Go.Proofs.Ytjklnknlifpidaa
open Go.RowKit

section
/-- The streets that are left: u says which have been walked. -/
def leftL : List St → (Nat → Bool) → List St
  | [], _ => []
  | s :: ss, u => if u 0 = true then leftL ss fun k => u (k + 1) else s :: leftL ss fun k => u (k + 1)
def walkU (u : Nat → Bool) (i : Nat) : Nat → Bool := fun k => if k = i then true else u k
def Su (ss : List St) (u : Nat → Bool) (r : Nat → Bool) : Prop := ∀ k (h : k < ss.length), u k = false → r ss[k].1 = r ss[k].2.1
/-- One corner is reached from another over the streets that are left: no closed set parts them. -/
def Ru (ss : List St) (u : Nat → Bool) (a b : Nat) : Prop := ∀ r : Nat → Bool, Su ss u r → r a = r b
theorem mem_leftL {ss : List St} {u : Nat → Bool} {s : St} : s ∈ leftL ss u ↔ ∃ k, ∃ h : k < ss.length, u k = false ∧ ss[k] = s := by
  induction ss generalizing u with
  | nil => exact ⟨fun h => absurd h List.not_mem_nil, fun ⟨k, h, _⟩ => absurd h (by simp)⟩
  | cons t ss ih =>
    unfold leftL
    by_cases hu : u 0 = true
    · rw [if_pos hu, ih]
      constructor
      · rintro ⟨k, h, h1, h2⟩; exact ⟨k + 1, by simp; omega, h1, by simpa using h2⟩
      · rintro ⟨k, h, h1, h2⟩
        cases k with
        | zero => rw [hu] at h1; cases h1
        | succ k => exact ⟨k, by simp at h; omega, h1, by simpa using h2⟩
    · rw [if_neg hu, List.mem_cons, ih]
      constructor
      · rintro (rfl | ⟨k, h, h1, h2⟩)
        · exact ⟨0, by simp, by simpa using hu, rfl⟩
        · exact ⟨k + 1, by simp; omega, h1, by simpa using h2⟩
      · rintro ⟨k, h, h1, h2⟩
        cases k with
        | zero => exact .inl (by simpa using h2.symm)
        | succ k => exact .inr ⟨k, by simp at h; omega, h1, by simpa using h2⟩
theorem crossT_walk {S : Nat → Bool} {ss : List St} {u : Nat → Bool} {i : Nat} (h : i < ss.length) (hu : u i = false) : crossT S (leftL ss u) = crossT S (leftL ss (walkU u i)) + cross S ss[i] := by
  induction ss generalizing u i with
  | nil => simp at h
  | cons t ss ih =>
    cases i with
    | zero =>
      have e : (fun k => walkU u 0 (k + 1)) = fun k => u (k + 1) := by funext k; simp [walkU]
      have e0 : walkU u 0 0 = true := by simp [walkU]
      have hu' : ¬ u 0 = true := by rw [hu]; simp
      show crossT S (leftL (t :: ss) u) = crossT S (leftL (t :: ss) (walkU u 0)) + cross S t
      unfold leftL
      rw [if_neg hu', if_pos e0, e]
      unfold crossT
      rw [List.map_cons, List.sum_cons]; omega
    | succ i =>
      have e : (fun k => walkU u (i + 1) (k + 1)) = walkU (fun k => u (k + 1)) i := by funext k; simp [walkU]
      have e0 : walkU u (i + 1) 0 = u 0 := by simp [walkU]
      have h1 := ih (u := fun k => u (k + 1)) (i := i) (by simpa using h) hu
      show crossT S (leftL (t :: ss) u) = crossT S (leftL (t :: ss) (walkU u (i + 1))) + cross S (ss[i]'(by simpa using h))
      unfold leftL
      rw [e, e0]
      by_cases h0 : u 0 = true
      · rw [if_pos h0, if_pos h0]; exact h1
      · rw [if_neg h0, if_neg h0]
        unfold crossT at h1 ⊢
        rw [List.map_cons, List.sum_cons, List.map_cons, List.sum_cons]; omega
theorem cut_even_in {n : Nat} (S : Nat → Bool) {es : List St} (h : ∀ s ∈ es, s.1 < n ∧ s.2.1 < n) (he : ∀ v, v < n → S v = true → degT es v % 2 = 0) : crossT S es % 2 = 0 := by
  rw [← cross_parity S h]
  have : ∀ l : List Nat, (∀ v ∈ l, v < n) → (l.map fun v => if S v = true then degT es v else 0).sum % 2 = 0 := by
    intro l
    induction l with
    | nil => intro _; rfl
    | cons a l ih =>
      intro hl
      have h1 := ih fun v hv => hl v (List.mem_cons_of_mem _ hv)
      rw [List.map_cons, List.sum_cons]
      by_cases hs : S a = true
      · have h2 := he a (hl a List.mem_cons_self) hs
        rw [if_pos hs]; omega
      · rw [if_neg hs]; omega
  exact this _ fun v hv => List.mem_range.1 hv
theorem crossT_shut {S : Nat → Bool} {es : List St} (h : ∀ s ∈ es, S s.1 = S s.2.1) : crossT S es = 0 := by
  induction es with
  | nil => rfl
  | cons s es ih =>
    have h1 : cross S s = 0 := by unfold cross; rw [if_pos (h s List.mem_cons_self)]
    have h2 := ih fun t ht => h t (List.mem_cons_of_mem _ ht)
    unfold crossT at h2 ⊢
    rw [List.map_cons, List.sum_cons]; omega
variable {ss : List St} {u : Nat → Bool} {n a : Nat}
open Classical in
theorem comp_shut (c : Nat) : Su ss u fun v => decide (Ru ss u c v) := fun k h hk => by
  refine decide_eq_decide.2 ⟨fun h1 r hr => (h1 r hr).trans (hr k h hk), fun h1 r hr => (h1 r hr).trans (hr k h hk).symm⟩
/-- The street k leads from a to t. -/
def Leads (s : St) (a t : Nat) : Prop := (s.1 = a ∧ s.2.1 = t) ∨ (s.2.1 = a ∧ s.1 = t)
theorem Su.walk {r : Nat → Bool} {i : Nat} (h : Su ss (walkU u i) r) (hi : ∀ h : i < ss.length, r ss[i].1 = r ss[i].2.1) : Su ss u r := fun k hk hu => by
  by_cases e : k = i
  · subst e; exact hi hk
  · exact h k hk (by simp [walkU, e, hu])
theorem Su.less {r : Nat → Bool} {i : Nat} (h : Su ss u r) : Su ss (walkU u i) r := fun k hk hu => by
  by_cases e : k = i
  · simp [walkU, e] at hu
  · simp [walkU, e] at hu; exact h k hk hu
theorem Leads.same {s : St} {t : Nat} {r : Nat → Bool} (h : Leads s a t) : (r s.1 = r s.2.1) ↔ (r a = r t) := by
  rcases h with ⟨h1, h2⟩ | ⟨h1, h2⟩
  · rw [h1, h2]
  · rw [h1, h2]; exact eq_comm
/-- What is no bridge may be next. -/
theorem next_loop {i t : Nat} (hi : i < ss.length) (hl : Leads ss[i] a t) (hj : ∀ k (h : k < ss.length), u k = false → Ru ss u a ss[k].1) (hb : Ru ss (walkU u i) t a) : ∀ k (h : k < ss.length), walkU u i k = false → Ru ss (walkU u i) t ss[k].1 := fun k hk hu r hr => by
  have h1 := hb r hr
  have h2 : Su ss u r := hr.walk fun _ => hl.same.2 h1.symm
  have h3 : u k = false := by
    by_cases e : k = i
    · simp [walkU, e] at hu
    · simpa [walkU, e] using hu
  exact h1.trans (hj k hk h3 r h2)
open Classical in
/-- Behind a bridge lies the corner 0. -/
theorem bridge_zero {i t : Nat} (hlt : ∀ s ∈ ss, s.1 < n ∧ s.2.1 < n) (hi : i < ss.length) (hui : u i = false) (hl : Leads ss[i] a t) (he : ∀ v, v < n → v ≠ a → v ≠ 0 → degT (leftL ss u) v % 2 = 0) (hb : ¬ Ru ss (walkU u i) t a) : Ru ss (walkU u i) t 0 := by
  by_cases h0 : Ru ss (walkU u i) t 0
  · exact h0
  · exfalso
    have hsh := comp_shut (ss := ss) (u := walkU u i) t
    obtain ⟨S, hS⟩ : ∃ S : Nat → Bool, S = fun v => decide (Ru ss (walkU u i) t v) := ⟨_, rfl⟩
    rw [← hS] at hsh
    have st : S t = true := by rw [hS]; exact decide_eq_true fun _ _ => rfl
    have sa : S a = false := by rw [hS]; exact decide_eq_false hb
    have s0 : S 0 = false := by rw [hS]; exact decide_eq_false h0
    have h1 := cut_even_in (n := n) S (es := leftL ss u) (fun s hs => by
      obtain ⟨k, hk, _, rfl⟩ := mem_leftL.1 hs
      exact hlt _ (List.getElem_mem hk)) fun v hv hs => he v hv (fun e => by rw [e, sa] at hs; cases hs) (fun e => by rw [e, s0] at hs; cases hs)
    rw [crossT_walk hi hui, crossT_shut (es := leftL ss (walkU u i)) fun s hs => by
      obtain ⟨k, hk, h2, rfl⟩ := mem_leftL.1 hs
      exact hsh k hk h2] at h1
    have h2 : cross S ss[i] = 1 := by
      unfold cross
      rw [if_neg fun h => by have := hl.same.1 h; rw [st, sa] at this; cases this]
    omega
open Classical in
/-- There is a next street as long as one is left. -/
theorem next_street (hlt : ∀ s ∈ ss, s.1 < n ∧ s.2.1 < n) (he : ∀ v, v < n → v ≠ a → v ≠ 0 → degT (leftL ss u) v % 2 = 0) (hj : ∀ k (h : k < ss.length), u k = false → Ru ss u a ss[k].1) (hne : ∃ k, k < ss.length ∧ u k = false) :
    ∃ i t, ∃ hi : i < ss.length, u i = false ∧ Leads ss[i] a t ∧ ∀ k (h : k < ss.length), walkU u i k = false → Ru ss (walkU u i) t ss[k].1 := by
  have touch : ∀ u' : Nat → Bool, (∃ k, ∃ h : k < ss.length, u' k = false ∧ Ru ss u' a ss[k].1) → ∃ i t, ∃ hi : i < ss.length, u' i = false ∧ Leads ss[i] a t := by
    rintro u' ⟨k, hk, hu, hr⟩
    by_cases hx : ∃ i t, ∃ hi : i < ss.length, u' i = false ∧ Leads ss[i] a t
    · exact hx
    · have hsh : Su ss u' fun v => decide (v = a) := fun j hj hu => decide_eq_decide.2 ⟨fun h => absurd ⟨j, _, hj, hu, .inl ⟨h, rfl⟩⟩ hx, fun h => absurd ⟨j, _, hj, hu, .inr ⟨h, rfl⟩⟩ hx⟩
      have h1 : decide (a = a) = decide (ss[k].1 = a) := hr _ hsh
      have h2 : ss[k].1 = a := by simpa using h1.symm
      exact absurd ⟨k, _, hk, hu, .inl ⟨h2, rfl⟩⟩ hx
  obtain ⟨k0, hk0, hu0⟩ := hne
  obtain ⟨i, t, hi, hui, hl⟩ := touch u ⟨k0, hk0, hu0, hj k0 hk0 hu0⟩
  by_cases hb : Ru ss (walkU u i) t a
  · exact ⟨i, t, hi, hui, hl, next_loop hi hl hj hb⟩
  · by_cases hw : ∀ k (h : k < ss.length), walkU u i k = false → Ru ss (walkU u i) t ss[k].1
    · exact ⟨i, t, hi, hui, hl, hw⟩
    · have hx : ∃ k, ∃ h : k < ss.length, walkU u i k = false ∧ ¬ Ru ss (walkU u i) t ss[k].1 := by
        by_cases hx : ∃ k, ∃ h : k < ss.length, walkU u i k = false ∧ ¬ Ru ss (walkU u i) t ss[k].1
        · exact hx
        · exact absurd (fun k h h1 => Classical.byContradiction fun h2 => hx ⟨k, h, h1, h2⟩) hw
      obtain ⟨k, hk, huk, hnk⟩ := hx
      have huk' : u k = false := by
        by_cases e : k = i
        · simp [walkU, e] at huk
        · simpa [walkU, e] using huk
      have hak : Ru ss (walkU u i) a ss[k].1 := fun r hr => by
        -- join r with what lies behind the bridge
        have hT := comp_shut (ss := ss) (u := walkU u i) t
        obtain ⟨T, hTe⟩ : ∃ T : Nat → Bool, T = fun v => decide (Ru ss (walkU u i) t v) := ⟨_, rfl⟩
        rw [← hTe] at hT
        have tt : T t = true := by rw [hTe]; exact decide_eq_true fun _ _ => rfl
        have ta : T a = false := by rw [hTe]; exact decide_eq_false hb
        have tk : T ss[k].1 = false := by rw [hTe]; exact decide_eq_false hnk
        have h1 : Su ss u fun v => if T v = true then r a else r v := Su.walk (i := i) (fun j hj hu => by
          have e1 := hT j hj hu
          have e2 := hr j hj hu
          show (if T ss[j].1 = true then r a else r ss[j].1) = if T ss[j].2.1 = true then r a else r ss[j].2.1
          rw [e1, e2]) fun _ => (hl.same (r := fun v => if T v = true then r a else r v)).2 (by
            show (if T a = true then r a else r a) = if T t = true then r a else r t
            rw [if_pos tt, ite_self])
        have h2 := hj k hk huk' _ h1
        have h3 : (if T a = true then r a else r a) = if T ss[k].1 = true then r a else r ss[k].1 := h2
        rw [ite_self, tk] at h3
        simpa using h3
      obtain ⟨f, t2, hf, huf, hlf⟩ := touch (walkU u i) ⟨k, hk, huk, hak⟩
      have hfi : f ≠ i := fun e => by simp [walkU, e] at huf
      have huf' : u f = false := by simpa [walkU, hfi] using huf
      by_cases hb2 : Ru ss (walkU u f) t2 a
      · exact ⟨f, t2, hf, huf', hlf, next_loop hf hlf hj hb2⟩
      · exfalso
        have z1 := bridge_zero hlt hi hui hl he hb
        have z2 := bridge_zero hlt hf huf' hlf he hb2
        have hQ := comp_shut (ss := ss) (u := walkU u i) t
        have hP := comp_shut (ss := ss) (u := walkU u f) t2
        obtain ⟨Q, hQe⟩ : ∃ Q : Nat → Bool, Q = fun v => decide (Ru ss (walkU u i) t v) := ⟨_, rfl⟩
        obtain ⟨P, hPe⟩ : ∃ P : Nat → Bool, P = fun v => decide (Ru ss (walkU u f) t2 v) := ⟨_, rfl⟩
        rw [← hQe] at hQ
        rw [← hPe] at hP
        have qa : Q a = false := by rw [hQe]; exact decide_eq_false hb
        have q0 : Q 0 = true := by rw [hQe]; exact decide_eq_true z1
        have pa : P a = false := by rw [hPe]; exact decide_eq_false hb2
        have p0 : P 0 = true := by rw [hPe]; exact decide_eq_true z2
        have pt : P t = false := by
          have h1 := hP i hi (by simp [walkU, Ne.symm hfi, hui])
          have := hl.same.1 h1
          rw [pa] at this; exact this.symm
        have hR : Su ss (walkU u i) fun v => P v && Q v := fun j hj hu => by
          show (P ss[j].1 && Q ss[j].1) = (P ss[j].2.1 && Q ss[j].2.1)
          by_cases e : j = f
          · subst e
            have h1 := hQ j hj hu
            have h2 := hlf.same.1 h1
            have q1 : Q ss[j].1 = false ∧ Q ss[j].2.1 = false := by
              rcases hlf with ⟨g1, g2⟩ | ⟨g1, g2⟩
              · rw [g1, g2, ← h2, qa]; exact ⟨rfl, rfl⟩
              · rw [g1, g2, ← h2, qa]; exact ⟨rfl, rfl⟩
            rw [q1.1, q1.2, Bool.and_false, Bool.and_false]
          · have hu2 : walkU u f j = false := by
              by_cases e2 : j = i
              · simp [walkU, e2] at hu
              · simpa [walkU, e, e2] using hu
            rw [hQ j hj hu, hP j hj hu2]
        have h9 : (P t && Q t) = (P 0 && Q 0) := z1 _ hR
        rw [pt, p0, q0] at h9
        cases h9
end


section
variable {ss : List St} {u : Nat → Bool} {n a : Nat}
theorem degT_walk {i : Nat} (v : Nat) (h : i < ss.length) (hu : u i = false) : degT (leftL ss u) v = degT (leftL ss (walkU u i)) v + ends1 v ss[i] := by
  induction ss generalizing u i with
  | nil => simp at h
  | cons t ss ih =>
    cases i with
    | zero =>
      have e : (fun k => walkU u 0 (k + 1)) = fun k => u (k + 1) := by funext k; simp [walkU]
      have e0 : walkU u 0 0 = true := by simp [walkU]
      have hu' : ¬ u 0 = true := by rw [hu]; simp
      show degT (leftL (t :: ss) u) v = degT (leftL (t :: ss) (walkU u 0)) v + ends1 v t
      unfold leftL
      rw [if_neg hu', if_pos e0, e]
      unfold degT
      rw [List.map_cons, List.sum_cons]; omega
    | succ i =>
      have e : (fun k => walkU u (i + 1) (k + 1)) = walkU (fun k => u (k + 1)) i := by funext k; simp [walkU]
      have e0 : walkU u (i + 1) 0 = u 0 := by simp [walkU]
      have h1 := ih (u := fun k => u (k + 1)) (i := i) (by simpa using h) hu
      show degT (leftL (t :: ss) u) v = degT (leftL (t :: ss) (walkU u (i + 1))) v + ends1 v (ss[i]'(by simpa using h))
      unfold leftL
      rw [e, e0]
      by_cases h0 : u 0 = true
      · rw [if_pos h0, if_pos h0]; exact h1
      · rw [if_neg h0, if_neg h0]
        unfold degT at h1 ⊢
        rw [List.map_cons, List.sum_cons, List.map_cons, List.sum_cons]; omega
/-- What holds where one stands at a, and the streets of u have been walked. -/
def RInv (n : Nat) (ss : List St) (u : Nat → Bool) (a : Nat) : Prop :=
  (∀ v, v < n → (degT (leftL ss u) v + (if v = a then 1 else 0) + (if v = 0 then 1 else 0)) % 2 = 0) ∧ ∀ k (h : k < ss.length), u k = false → Ru ss u a ss[k].1
theorem RInv.next (h : RInv n ss u a) (hlt : ∀ s ∈ ss, s.1 < n ∧ s.2.1 < n) (hne : ∃ k, k < ss.length ∧ u k = false) :
    ∃ i t, ∃ hi : i < ss.length, u i = false ∧ Leads ss[i] a t ∧ ∀ k (h : k < ss.length), walkU u i k = false → Ru ss (walkU u i) t ss[k].1 :=
  next_street hlt (fun v hv h1 h2 => by have := h.1 v hv; rw [if_neg h1, if_neg h2] at this; omega) h.2 hne
theorem RInv.step {i t : Nat} (h : RInv n ss u a) (hi : i < ss.length) (hu : u i = false) (hl : Leads ss[i] a t) (hj : ∀ k (h : k < ss.length), walkU u i k = false → Ru ss (walkU u i) t ss[k].1) : RInv n ss (walkU u i) t := by
  refine ⟨fun v hv => ?_, hj⟩
  have h1 := h.1 v hv
  rw [degT_walk v hi hu] at h1
  have h2 : ends1 v ss[i] = (if v = a then 1 else 0) + (if v = t then 1 else 0) := by
    unfold ends1
    rcases hl with ⟨g1, g2⟩ | ⟨g1, g2⟩
    · rw [g1, g2]; simp only [eq_comm (a := v)]
    · rw [g1, g2]; simp only [eq_comm (a := v)]; omega
  rw [h2] at h1
  omega
theorem leftL_none {ss : List St} {u : Nat → Bool} (h : ∀ k, k < ss.length → u k = true) : leftL ss u = [] := by
  induction ss generalizing u with
  | nil => rfl
  | cons t ss ih =>
    unfold leftL
    rw [if_pos (h 0 (by simp))]
    exact ih fun k hk => h (k + 1) (by simp; omega)
theorem leftL_all (ss : List St) : leftL ss (fun _ => false) = ss := by
  induction ss with
  | nil => rfl
  | cons t ss ih =>
    unfold leftL
    rw [if_neg (by simp)]
    exact congrArg _ ih
/-- The last street leads back. -/
theorem RInv.back (h : RInv n ss u a) (ha : a < n) (hu : ∀ k, k < ss.length → u k = true) : a = 0 := by
  have h1 := h.1 a ha
  rw [leftL_none hu] at h1
  by_cases e : a = 0
  · exact e
  · rw [if_pos rfl, if_neg e] at h1
    simp [degT] at h1
theorem RInv.start (hlt : ∀ s ∈ ss, s.1 < n ∧ s.2.1 < n) (hr : ∀ v, v < n → ∃ w, Wk ss n 0 v w) (ho : ∀ v, v < n → degT ss v % 2 = 0) : RInv n ss (fun _ => false) 0 := by
  refine ⟨fun v hv => ?_, fun k hk _ r hr2 => ?_⟩
  · rw [leftL_all]
    have := ho v hv
    split <;> omega
  · obtain ⟨w, hw⟩ := hr _ (hlt _ (List.getElem_mem hk)).1
    refine Wk.shut (r := r) (fun s hs => ?_) hw
    obtain ⟨j, hj, rfl⟩ := List.getElem_of_mem hs
    exact hr2 j hj rfl
end


/-- Where a street leads from one of its corners. -/
def oth (s : St) (a : Nat) : Nat := if s.1 = a then s.2.1 else s.1
/-- All streets that are left are reached. -/
def Jn (ss : List St) (u : Nat → Bool) (t : Nat) : Prop := ∀ k (h : k < ss.length), u k = false → Ru ss u t ss[k].1
def MayP (ss : List St) (u : Nat → Bool) (i a : Nat) : Prop := ∃ h : i < ss.length, u i = false ∧ (ss[i].1 = a ∨ ss[i].2.1 = a) ∧ Jn ss (walkU u i) (oth ss[i] a)
def inU (L : List Nat) (j : Nat) : Nat → Bool := fun k => decide (k ∈ L.take j)
structure Way (n : Nat) (ss : List St) (m : Nat) (L : List Nat) (q : Nat → Nat) : Prop where
  len : L.length = m
  z : q 0 = 0
  lt : ∀ j, j ≤ m → q j < n
  may : ∀ j, j < m → MayP ss (inU L j) (L.getD j 0) (q j)
  least : ∀ j, j < m → ∀ i, i < L.getD j 0 → ¬ MayP ss (inU L j) i (q j)
  nx : ∀ j, j < m → q (j + 1) = oth (ss.getD (L.getD j 0) (0, 0, 0)) (q j)
theorem st_getD {ss : List St} {i : Nat} (h : i < ss.length) : ss.getD i (0, 0, 0) = ss[i] := by simp [List.getD, List.getElem?_eq_getElem h]
theorem nat_getD {L : List Nat} {i : Nat} (h : i < L.length) : L.getD i 0 = L[i] := by simp [List.getD, List.getElem?_eq_getElem h]
theorem leads_oth {s : St} {a t : Nat} (h : Leads s a t) : (s.1 = a ∨ s.2.1 = a) ∧ t = oth s a := by
  rcases h with ⟨h1, h2⟩ | ⟨h1, h2⟩
  · exact ⟨.inl h1, by rw [oth, if_pos h1, h2]⟩
  · refine ⟨.inr h1, ?_⟩
    unfold oth
    split
    · rename_i h3; rw [h1, ← h2, h3]
    · exact h2.symm
theorem oth_leads {s : St} {a : Nat} (h : s.1 = a ∨ s.2.1 = a) : Leads s a (oth s a) := by
  unfold oth
  split
  · rename_i h3; exact .inl ⟨h3, rfl⟩
  · rename_i h3
    rcases h with h | h
    · exact absurd h h3
    · exact .inr ⟨h, rfl⟩
theorem inU_walk {L : List Nat} {j : Nat} (h : j < L.length) : walkU (inU L j) (L.getD j 0) = inU L (j + 1) := by
  funext k
  have h1 : (k ∈ L.take (j + 1)) ↔ (k ∈ L.take j ∨ k = L[j]) := by
    rw [List.take_succ_eq_append_getElem h, List.mem_append, List.mem_singleton]
  rw [nat_getD h]
  unfold walkU inU
  by_cases e : k = L[j]
  · rw [if_pos e]; exact (decide_eq_true (h1.2 (.inr e))).symm
  · rw [if_neg e]
    exact decide_eq_decide.2 ⟨fun h2 => h1.2 (.inl h2), fun h2 => (h1.1 h2).resolve_right e⟩
theorem inU_app {L : List Nat} {i j : Nat} (h : j ≤ L.length) : inU (L ++ [i]) j = inU L j := by
  funext k
  simp only [inU]
  rw [List.take_append_of_le_length h]
theorem getD_appN {L : List Nat} {i j : Nat} (h : j < L.length) : (L ++ [i]).getD j 0 = L.getD j 0 := by
  rw [nat_getD h, nat_getD (by simp; omega), List.getElem_append_left h]
theorem least_of {P : Nat → Prop} (h : ∃ n, P n) : ∃ n, P n ∧ ∀ m, m < n → ¬ P m := by
  obtain ⟨n, hn⟩ := h
  induction n using Nat.strongRecOn with
  | ind n ih =>
    by_cases h2 : ∃ m, m < n ∧ P m
    · obtain ⟨m, h3, h4⟩ := h2
      exact ih m h3 h4
    · exact ⟨n, hn, fun m hm hp => h2 ⟨m, hm, hp⟩⟩
theorem some_left {L : List Nat} {N : Nat} (h : L.length < N) : ∃ k, k < N ∧ k ∉ L := by
  refine Classical.byContradiction fun hno => ?_
  have hall : ∀ k, k < N → k ∈ L := fun k hk => Classical.byContradiction fun h2 => hno ⟨k, hk, h2⟩
  have h1 : (List.range N).length ≤ L.length := by
    have key : ∀ (l l' : List Nat), l.Nodup → (∀ y ∈ l, y ∈ l') → l.length ≤ l'.length := by
      intro l
      induction l with
      | nil => intro l' _ _; simp
      | cons a t ih =>
        intro l' hn hs
        have h1 := List.nodup_cons.1 hn
        have h3 := ih (l'.erase a) h1.2 (fun y hy => (List.mem_erase_of_ne (fun e => h1.1 (by rw [← e]; exact hy))).2 (hs y (by simp [hy])))
        have h4 := hs a (by simp)
        rw [List.length_erase_of_mem h4] at h3
        have := List.length_pos_of_mem h4
        simp only [List.length_cons]; omega
    exact key _ _ List.nodup_range (fun y hy => hall y (List.mem_range.1 hy))
  rw [List.length_range] at h1
  omega
theorem exists_way {n : Nat} {ss : List St} (hlt : ∀ s ∈ ss, s.1 < n ∧ s.2.1 < n) (hn : 0 < n) (h0 : RInv n ss (fun _ => false) 0) : ∃ L q, Way n ss ss.length L q := by
  have key : ∀ m, m ≤ ss.length → ∃ L q, Way n ss m L q ∧ RInv n ss (inU L m) (q m) := by
    intro m
    induction m with
    | zero =>
      intro _
      refine ⟨[], fun _ => 0, ⟨rfl, rfl, fun j _ => hn, fun j hj => by omega, fun j hj => by omega, fun j hj => by omega⟩, ?_⟩
      have e : inU [] 0 = fun _ => false := by funext k; simp [inU]
      rw [e]; exact h0
    | succ m ih =>
      intro hm
      obtain ⟨L, q, hw, hr⟩ := ih (by omega)
      have hl := hw.len
      obtain ⟨k, hk, hkL⟩ := some_left (L := L) (N := ss.length) (by omega)
      obtain ⟨i, t, hi, hui, hle, hjn⟩ := hr.next hlt ⟨k, hk, by
        simp only [inU, decide_eq_false_iff_not]
        rw [List.take_of_length_le (by omega)]; exact hkL⟩
      obtain ⟨he, rfl⟩ := leads_oth hle
      obtain ⟨i2, hmay, hleast⟩ := least_of (P := fun i => MayP ss (inU L m) i (q m)) ⟨i, hi, hui, he, hjn⟩
      obtain ⟨hi2, hu2, he2, hj2⟩ := hmay
      have hnew : (L ++ [i2]).getD m 0 = i2 := by rw [nat_getD (by simp; omega)]; simp [← hl]
      have hold : ∀ j, j < m → (L ++ [i2]).getD j 0 = L.getD j 0 := fun j hj => getD_appN (by omega)
      refine ⟨L ++ [i2], fun j => if j ≤ m then q j else oth ss[i2] (q m), ⟨by simp [hl], by simp [hw.z], fun j hj => ?_, fun j hj => ?_, fun j hj i hi => ?_, fun j hj => ?_⟩, ?_⟩
      · by_cases h : j ≤ m
        · simp only [if_pos h]; exact hw.lt j h
        · simp only [if_neg h]
          have := hlt _ (List.getElem_mem hi2)
          unfold oth
          split
          · exact this.2
          · exact this.1
      · by_cases h : j < m
        · rw [inU_app (by omega), hold j h]
          simp only [if_pos (show j ≤ m by omega)]
          exact hw.may j h
        · have e : j = m := by omega
          subst e
          rw [inU_app (by omega), hnew]
          simp only [Nat.le_refl, if_true]
          exact ⟨hi2, hu2, he2, hj2⟩
      · by_cases h : j < m
        · rw [inU_app (by omega)]
          rw [hold j h] at hi
          simp only [if_pos (show j ≤ m by omega)]
          exact hw.least j h i hi
        · have e : j = m := by omega
          subst e
          rw [inU_app (by omega)]
          rw [hnew] at hi
          simp only [Nat.le_refl, if_true]
          exact hleast i hi
      · by_cases h : j < m
        · simp only [if_pos (show j + 1 ≤ m by omega), if_pos (show j ≤ m by omega)]
          rw [hold j h]; exact hw.nx j h
        · have e : j = m := by omega
          subst e
          simp only [if_neg (show ¬ j + 1 ≤ j by omega), Nat.le_refl, if_true]
          rw [hnew, st_getD hi2]
      · simp only [if_neg (show ¬ m + 1 ≤ m by omega)]
        have e : inU (L ++ [i2]) (m + 1) = walkU (inU L m) i2 := by
          rw [← inU_walk (L := L ++ [i2]) (by simp; omega), hnew, inU_app (by omega)]
        rw [e]
        exact hr.step hi2 hu2 (oth_leads he2) hj2
  obtain ⟨L, q, hw, _⟩ := key ss.length (Nat.le_refl _)
  exact ⟨L, q, hw⟩
theorem Way.in {n m : Nat} {ss : List St} {L : List Nat} {q : Nat → Nat} (h : Way n ss m L q) {j : Nat} (hj : j < m) : L.getD j 0 < ss.length := by
  obtain ⟨h1, _⟩ := h.may j hj; exact h1
/-- What is told of a round. -/
def OnceV (n : Int) (rs : List (List Int)) (V : List Int) (b : Bool) : Prop :=
  ((townB n rs && decide (oddsTo n.toNat (rs.map st) = [])) = false ∧ V = [] ∧ b = false) ∨ (townB n rs = true ∧ oddsTo n.toNat (rs.map st) = [] ∧ b = true ∧ ∃ L q, Way n.toNat (rs.map st) rs.length L q ∧ V = L.map fun k : Nat => (k : Int))


structure Sn (ss : List St) (u : Nat → Bool) (f n : Nat) (r : Nat → Bool) : Prop where
  st : r f = true
  ok : ∀ v, r v = true → v < n ∧ Ru ss u f v
theorem Sn.start {ss : List St} {u : Nat → Bool} {f n : Nat} (hf : f < n) : Sn ss u f n (fun v => v == f) :=
  ⟨by simp, fun v hv => by
    have : v = f := by simpa using hv
    subst this; exact ⟨hf, fun _ _ => rfl⟩⟩
theorem Sn.both {ss : List St} {u : Nat → Bool} {f n k : Nat} {r : Nat → Bool} (h : Sn ss u f n r) (hk : k < ss.length) (hu : u k = false) (hlt : ss[k].1 < n ∧ ss[k].2.1 < n) (hne : r ss[k].1 ≠ r ss[k].2.1) :
    Sn ss u f n (fun v => r v || (v == ss[k].1 || v == ss[k].2.1)) := by
  have h2 : Ru ss u f ss[k].1 ∧ Ru ss u f ss[k].2.1 := by
    cases h1 : r ss[k].1 with
    | true =>
      have g := (h.ok _ h1).2
      exact ⟨g, fun S hS => (g S hS).trans (hS k hk hu)⟩
    | false =>
      have h3 : r ss[k].2.1 = true := by
        cases h3 : r ss[k].2.1 with
        | true => rfl
        | false => exact absurd (h1.trans h3.symm) hne
      have g := (h.ok _ h3).2
      exact ⟨fun S hS => (g S hS).trans (hS k hk hu).symm, g⟩
  refine ⟨by simp [h.st], fun v hv => ?_⟩
  simp only [Bool.or_eq_true, beq_iff_eq] at hv
  rcases hv with hv | rfl | rfl
  · exact h.ok v hv
  · exact ⟨hlt.1, h2.1⟩
  · exact ⟨hlt.2, h2.2⟩
theorem Sn.done {ss : List St} {u : Nat → Bool} {f n : Nat} {r : Nat → Bool} (h : Sn ss u f n r) (hs : Su ss u r) (v : Nat) : r v = true ↔ Ru ss u f v :=
  ⟨fun hv => (h.ok v hv).2, fun hr => by rw [← hr r hs]; exact h.st⟩
def cnt (n : Nat) (r : Nat → Bool) : Nat := match n with
  | 0 => 0
  | n + 1 => cnt n r + if r n then 0 else 1
theorem cnt_mono {r r' : Nat → Bool} (h : ∀ v, r v = true → r' v = true) : ∀ n, cnt n r' ≤ cnt n r
  | 0 => Nat.le_refl _
  | n + 1 => by
    have := cnt_mono h n
    simp only [cnt]
    by_cases e : r n = true
    · rw [e, h n e]; simpa using this
    · have e' : r n = false := by simpa using e
      rw [e']
      by_cases e2 : r' n = true
      · rw [e2]; simp; omega
      · have e2' : r' n = false := by simpa using e2
        rw [e2']; simpa using this
theorem cnt_less {r r' : Nat → Bool} (h : ∀ v, r v = true → r' v = true) {v : Nat} (h1 : r v = false) (h2 : r' v = true) : ∀ n, v < n → cnt n r' < cnt n r
  | 0, hv => by omega
  | n + 1, hv => by
    simp only [cnt]
    by_cases e : v = n
    · subst e
      rw [h1, h2]
      have := cnt_mono h v
      simp; omega
    · have h3 := cnt_less h h1 h2 n (by omega)
      by_cases e1 : r n = true
      · rw [e1, h n e1]; simpa using h3
      · have e' : r n = false := by simpa using e1
        rw [e']
        by_cases e2 : r' n = true
        · rw [e2]; simp; omega
        · have e2' : r' n = false := by simpa using e2
          rw [e2']; simpa using h3
/-- One of two corners is new. -/
theorem cnt_both {r : Nat → Bool} {a b n : Nat} (ha : a < n) (hb : b < n) (hne : r a ≠ r b) : cnt n (fun v => r v || (v == a || v == b)) < cnt n r := by
  cases h1 : r a with
  | false => exact cnt_less (fun v hv => by simp [hv]) h1 (by simp) n ha
  | true =>
    have h3 : r b = false := by
      cases h3 : r b with
      | false => rfl
      | true => exact absurd (h1.trans h3.symm) hne
    exact cnt_less (fun v hv => by simp [hv]) h3 (by simp) n hb


def sws (ss : List St) (u : Nat → Bool) : List SW := (List.range ss.length).map fun k => (ss.getD k (0, 0, 0), u k)
theorem sws_len (ss : List St) (u : Nat → Bool) : (sws ss u).length = ss.length := by simp [sws]
theorem sws_at {ss : List St} {u : Nat → Bool} {k : Nat} (h : k < ss.length) : (sws ss u)[k]'(by rw [sws_len]; exact h) = (ss[k], u k) := by
  simp [sws, List.getD, List.getElem?_eq_getElem h]
theorem sws_mem {ss : List St} {u : Nat → Bool} {s : SW} : s ∈ sws ss u ↔ ∃ k, ∃ h : k < ss.length, s = (ss[k], u k) := by
  constructor
  · intro h
    obtain ⟨k, hk, rfl⟩ := List.getElem_of_mem h
    rw [sws_len] at hk
    exact ⟨k, hk, sws_at hk⟩
  · rintro ⟨k, hk, rfl⟩
    rw [← sws_at hk]; exact List.getElem_mem _
theorem fresh_sws (ss : List St) : fresh ss = sws ss (fun _ => false) := by
  refine List.ext_getElem (by simp [fresh, sws_len]) fun k h1 h2 => ?_
  rw [sws_at (by simpa [sws_len] using h2)]; simp [fresh]
theorem stepW_mono {s : SW} {r : Nat → Bool} {v : Nat} (h : r v = true) : rStepW r s v = true := by
  unfold rStepW
  split
  · exact h
  · unfold rStep; split
    · simp [h]
    · exact h
theorem sweepW_mono {L : List SW} : ∀ {r : Nat → Bool} {v : Nat}, r v = true → sweepW L r v = true := by
  induction L with
  | nil => intro r v h; exact h
  | cons s L ih => intro r v h; exact ih (stepW_mono h)
theorem sweepW_takes {L : List SW} {s : SW} (hs : s ∈ L) (hf : s.2 = false) : ∀ {r : Nat → Bool}, (r s.1.1 || r s.1.2.1) = true → sweepW L r s.1.1 = true ∧ sweepW L r s.1.2.1 = true := by
  induction L with
  | nil => simp at hs
  | cons t L ih =>
    intro r h
    rcases List.mem_cons.1 hs with rfl | h2
    · have h3 : ∀ v, (v == s.1.1 || v == s.1.2.1) = true → rStepW r s v = true := fun v hv => by
        unfold rStepW; rw [if_neg (by rw [hf]; simp), rStep_yes h, hv, Bool.or_true]
      have h5 := h3 s.1.1 (by simp)
      have h6 := h3 s.1.2.1 (by simp)
      exact ⟨sweepW_mono (L := L) (r := rStepW r s) h5, sweepW_mono (L := L) (r := rStepW r s) h6⟩
    · refine ih h2 ?_
      rcases (Bool.or_eq_true_iff.1 h) with h4 | h4
      · rw [stepW_mono h4, Bool.true_or]
      · rw [stepW_mono h4, Bool.or_true]
theorem sweepW_shut {L : List SW} {r : Nat → Bool} (h : ∀ s ∈ L, s.2 = false → r s.1.1 = r s.1.2.1) : sweepW L r = r := by
  induction L with
  | nil => rfl
  | cons s L ih =>
    have h1 : rStepW r s = r := by
      unfold rStepW
      split
      · rfl
      · rename_i h2
        have h3 := h s List.mem_cons_self (by simpa using h2)
        cases h4 : r s.1.1 with
        | false => exact rStep_no (by rw [← h3, h4]; rfl)
        | true =>
          funext i
          rw [rStep_yes (by rw [h4]; rfl)]
          by_cases e1 : i = s.1.1
          · rw [e1, h4]; rfl
          · by_cases e2 : i = s.1.2.1
            · rw [e2, ← h3, h4]; rfl
            · simp [e1, e2]
    show sweepW L (rStepW r s) = r
    rw [h1]; exact ih fun t ht => h t (List.mem_cons_of_mem _ ht)
section
variable {ss : List St} {u : Nat → Bool} {f n : Nat}
theorem sweepW_sn (hlt : ∀ s ∈ ss, s.1 < n ∧ s.2.1 < n) : ∀ (L : List SW), (∀ s ∈ L, ∃ k, ∃ h : k < ss.length, s = (ss[k], u k)) → ∀ r, Sn ss u f n r → Sn ss u f n (sweepW L r) := by
  intro L
  induction L with
  | nil => intro _ r h; exact h
  | cons s L ih =>
    intro hL r h
    refine ih (fun t ht => hL t (List.mem_cons_of_mem _ ht)) _ ?_
    obtain ⟨k, hk, rfl⟩ := hL s List.mem_cons_self
    unfold rStepW
    split
    · exact h
    · rename_i h2
      have hu : u k = false := by simpa using h2
      by_cases hne : r ss[k].1 = r ss[k].2.1
      · have e : rStep r ss[k] = r := by
          have := sweepW_shut (L := [(ss[k], false)]) (r := r) (by simpa using hne)
          simpa [sweepW, rStepW] using this
        show Sn ss u f n (rStep r ss[k])
        rw [e]; exact h
      · show Sn ss u f n (rStep r ss[k])
        have h4 : (r ss[k].1 || r ss[k].2.1) = true := by
          cases h5 : r ss[k].1 <;> cases h6 : r ss[k].2.1 <;> simp_all
        have e : rStep r ss[k] = fun v => r v || (v == ss[k].1 || v == ss[k].2.1) := funext fun i => rStep_yes h4 i
        rw [e]
        exact h.both hk hu (hlt _ (List.getElem_mem hk)) hne
/-- Which streets are walked or seen at both ends. -/
def seenS (ss : List St) (u r : Nat → Bool) : Nat → Bool := fun k => u k || (r (ss.getD k (0, 0, 0)).1 && r (ss.getD k (0, 0, 0)).2.1)
theorem su_or_less (r : Nat → Bool) : Su ss u r ∨ cnt ss.length (seenS ss u (sweepW (sws ss u) r)) < cnt ss.length (seenS ss u r) := by
  by_cases h : Su ss u r
  · exact .inl h
  · refine .inr ?_
    obtain ⟨k, hk, hu, hne⟩ : ∃ k, ∃ h : k < ss.length, u k = false ∧ r ss[k].1 ≠ r ss[k].2.1 := Classical.byContradiction fun hno => h fun k hk hu => Classical.byContradiction fun h2 => hno ⟨k, hk, hu, h2⟩
    have h4 : (r ss[k].1 || r ss[k].2.1) = true := by
      cases h5 : r ss[k].1 <;> cases h6 : r ss[k].2.1 <;> simp_all
    have h7 := sweepW_takes (L := sws ss u) (s := (ss[k], u k)) (sws_mem.2 ⟨k, hk, rfl⟩) hu h4
    refine cnt_less (v := k) (fun v hv => ?_) ?_ ?_ _ hk
    · unfold seenS at hv ⊢
      rcases (Bool.or_eq_true_iff.1 hv) with h8 | h8
      · rw [h8, Bool.true_or]
      · have h9 := Bool.and_eq_true_iff.1 h8
        rw [sweepW_mono h9.1, sweepW_mono h9.2]; simp
    · unfold seenS
      rw [st_getD hk, hu, Bool.false_or]
      cases h5 : r ss[k].1 <;> cases h6 : r ss[k].2.1 <;> simp_all
    · unfold seenS
      rw [st_getD hk, h7.1, h7.2]; simp
theorem cnt_le (r : Nat → Bool) : ∀ n, cnt n r ≤ n
  | 0 => Nat.le_refl _
  | n + 1 => by
    have := cnt_le r n
    simp only [cnt]; split <;> omega
theorem cnt_zero {r : Nat → Bool} : ∀ {n : Nat}, cnt n r = 0 → ∀ k, k < n → r k = true
  | 0, _, k, hk => by omega
  | n + 1, h, k, hk => by
    simp only [cnt] at h
    by_cases e : r n = true
    · by_cases e2 : k = n
      · rw [e2]; exact e
      · exact cnt_zero (n := n) (by rw [if_pos e] at h; omega) k (by omega)
    · rw [if_neg e] at h; omega
theorem sws_shut {r : Nat → Bool} (h : Su ss u r) : sweepW (sws ss u) r = r := sweepW_shut fun s hs hf => by
  obtain ⟨k, hk, rfl⟩ := sws_mem.1 hs
  exact h k hk hf
theorem sweeps_su (r : Nat → Bool) : ∀ j, Su ss u (sweepsW (sws ss u) r j) ∨ cnt ss.length (seenS ss u (sweepsW (sws ss u) r j)) + j ≤ ss.length
  | 0 => .inr (by have := cnt_le (seenS ss u r) ss.length; exact this)
  | j + 1 => by
    show Su ss u (sweepW (sws ss u) (sweepsW (sws ss u) r j)) ∨ _
    rcases su_or_less (ss := ss) (u := u) (sweepsW (sws ss u) r j) with h1 | h1
    · rw [sws_shut h1]; exact .inl h1
    · rcases sweeps_su r j with h2 | h2
      · rw [sws_shut h2]; exact .inl h2
      · exact .inr (by show cnt ss.length (seenS ss u (sweepW (sws ss u) (sweepsW (sws ss u) r j))) + (j + 1) ≤ _; omega)
theorem reachW_ru (hlt : ∀ s ∈ ss, s.1 < n ∧ s.2.1 < n) (hf : f < n) (v : Nat) : reachW (sws ss u) f v = true ↔ Ru ss u f v := by
  have hsn : ∀ j, Sn ss u f n (sweepsW (sws ss u) (startAt f) j) := fun j => by
    induction j with
    | zero => exact Sn.start hf
    | succ j ih => exact sweepW_sn hlt _ (fun s hs => sws_mem.1 hs) _ ih
  have hsu : Su ss u (sweepsW (sws ss u) (startAt f) ss.length) := by
    rcases sweeps_su (ss := ss) (u := u) (startAt f) ss.length with h | h
    · exact h
    · intro k hk hu
      have h1 := cnt_zero (show cnt ss.length (seenS ss u (sweepsW (sws ss u) (startAt f) ss.length)) = 0 by omega) k hk
      unfold seenS at h1
      rw [hu, Bool.false_or, st_getD hk] at h1
      have h2 := Bool.and_eq_true_iff.1 h1
      rw [h2.1, h2.2]
  unfold reachW
  rw [sws_len]
  exact (hsn ss.length).done hsu v
theorem jn_reach (hlt : ∀ s ∈ ss, s.1 < n ∧ s.2.1 < n) (hf : f < n) : Jn ss u f ↔ ∀ k (h : k < ss.length), u k = false → reachW (sws ss u) f ss[k].1 = true :=
  ⟨fun h k hk hu => (reachW_ru hlt hf _).2 (h k hk hu), fun h k hk hu => (reachW_ru hlt hf _).1 (h k hk hu)⟩
end
end Go.Proofs.Ytjklnknlifpidaa
