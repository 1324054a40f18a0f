/- The map of names that are not reached: facts. No condition. -/
import Derived.Test.YtldbefmiabgkhabTd
import Derived.Maps.RangeWalk
namespace Go.Proofs.Ytldbefmiabgkhab
open Go.RowKit
open Go.Maps

theorem Try.lawInt : Keyed Try.prog 3 := int_keyed Try.underlying3
theorem Try.zeroBool (w : World) : (zeroValue 4).run Try.prog w = .ok (.bool false) w := by kernel_rfl
theorem plainElem_bool_inv {P : Program} {e : TypeId} (he : P.underlying e = some .bool) {v : Value} {z : DataW Unit × List MemPlace} (h : plainElem P e v = some z) : ∃ x, v = .bool x ∧ z = (.lit (.bool x), []) := by
  unfold plainElem at h
  rw [he] at h
  cases v <;> simp at h
  exact ⟨_, rfl, h.symm⟩

theorem int_wf {x : Int} (h0 : 0 ≤ x) (h1 : x ≤ 1000) : (Lit.int .i64 x).wf = true := by
  simp only [Lit.wf]
  rw [show IntKind.i64.min = -9223372036854775808 from by decide, show IntKind.i64.max = 9223372036854775807 from by decide]
  simp; omega

/-- The map holds just the names that u has, each with true. -/
def KU (D : DataW Unit) (u : Int → Bool) : Prop := (∀ x : Int, Maps.has D (.int .i64 x) = u x) ∧ ∀ x : Int, D.atKey (.int .i64 x) (.lit (.bool false)) = .lit (.bool (u x))
theorem lit_ne {a b : Int} (h : a ≠ b) : (Lit.int .i64 a) ≠ (Lit.int .i64 b) := fun e => h (by injection e)
theorem KU.empty : KU (.map []) (fun _ => false) := ⟨fun _ => rfl, fun _ => rfl⟩
theorem KU.del {D : DataW Unit} {u : Int → Bool} (h : KU D u) (z : Int) : KU (D.del (.int .i64 z)) (fun x => u x && !decide (x = z)) := by
  refine ⟨fun x => ?_, fun x => ?_⟩
  · by_cases e : x = z
    · subst e; rw [has_del_same]; simp
    · rw [has_del_other (lit_ne e), h.1]; simp [e]
  · by_cases e : x = z
    · subst e; rw [atKey_del_same]; simp
    · rw [atKey_del_other (lit_ne e), h.2]; simp [e]
theorem KU.put {D : DataW Unit} {u : Int → Bool} (h : KU D u) (hD : IsMap D) (z : Int) : KU (D.put (.int .i64 z) (.lit (.bool true))) (fun x => u x || decide (x = z)) := by
  refine ⟨fun x => ?_, fun x => ?_⟩
  · by_cases e : x = z
    · subst e; rw [has_put_same hD (by trivial)]; simp
    · rw [has_put_other (lit_ne e), h.1]; simp [e]
  · by_cases e : x = z
    · subst e; rw [atKey_put_same hD (by trivial)]; simp
    · rw [atKey_put_other (lit_ne e), h.2]; simp [e]
theorem KU.one {D : DataW Unit} {u v : Int → Bool} (h : KU D u) (k : KU D v) : u = v := funext fun x => by rw [← h.1, k.1]
theorem KU.congr {D : DataW Unit} {u v : Int → Bool} (h : KU D u) (e : ∀ x, u x = v x) : KU D v := by rw [← funext e]; exact h

theorem lookB {w : World} {b n : Nat} {D : DataW Unit} {u : Int → Bool} (h : w.ownsMap Try.prog 3 (plainElem Try.prog 4) b n D) (hu : KU D u) {x : Int} (hx : (Lit.int .i64 x).wf = true) :
    (Instr.lookup 52 (.map (some b)) (.int .i64 x) false).run Try.prog w = .ok (.bool (u x)) w := by
  obtain ⟨v, ps, hrun, hv⟩ := h.lookup Try.lawInt Try.underlying52 (Try.zeroBool w) (plainElem_bool Try.underlying4 false) (keyOf_int_mk Try.underlying3 hx)
  obtain ⟨c, rfl, hc⟩ := plainElem_bool_inv Try.underlying4 hv
  rw [hu.2 x] at hc
  have : u x = c := by have hc2 : u x = c ∧ ps = [] := by simpa using hc
                       exact hc2.1
  rw [hrun, this]

section
variable {P : Program} (w : World) {ops : Array Oper} {rest : List Oper} {o : Oper} {a : Act} {Q : Exit → Act → World → Prop}
/-- The step of a range over a map of numbers and bools. -/
theorem wpList_next_ib (hg : o.guard = none) (it : Operand) (hop : o.op = Op.next it false) (k e : TypeId) (K : Keyed P k) (hk : P.underlying k = some (.int .i64)) (he : P.underlying e = some .bool)
    (b r n : Nat) (D : DataW Unit) (left : Lit → Bool) (cnt : Nat) (hit : a.eval it = .pointer (some ⟨r, 0, none⟩)) (h : w.ranges P k (plainElem P e) b r n D left cnt)
    (hDone : cnt = 0 → (∀ kl, left kl = false) → wpList P ops Q rest (a.put o.dst (.tuple #[.bool false])) w)
    (hMore : ∀ (x : Int) (v : Value) (w' : World) (cnt' : Nat), (Lit.int .i64 x).wf = true → left (.int .i64 x) = true → Maps.has D (.int .i64 x) = true → w'.ranges P k (plainElem P e) b r n D (fun z => left z && !z.sameKey (.int .i64 x)) cnt' → cnt' < cnt →
      w.grownBy w' (some r) → w'.heap.size = w.heap.size → (Instr.entry (.pointer (some ⟨r, 0, none⟩))).run P w' = .ok (.tuple #[.int .i64 x, v]) w' → wpList P ops Q rest (a.put o.dst (.tuple #[.bool true, .int .i64 x, v])) w') :
    wpList P ops Q (o :: rest) a w :=
  wpList_next_ranges w hg it hop k K (plainElem P e) (Value.int .i64) Value.bool (fun key kl hkey => by obtain ⟨x, rfl, _⟩ := Maps.keyOf_int_inv hk hkey; exact ⟨x, rfl⟩) (fun v y hv => by obtain ⟨c, rfl, _⟩ := plainElem_bool_inv he hv; exact ⟨c, rfl⟩)
    b r n D left cnt hit h hDone (fun x c kl y w' cnt' hkey hlk hv hat hrg hlt hgr hsz hen => by
      obtain ⟨x', ex, rfl, hwx⟩ := Maps.keyOf_int_inv hk hkey
      cases ex
      exact hMore x _ w' cnt' hwx hlk (has_true_of_atKey hat) hrg hlt hgr hsz hen)
end

theorem same_int (a b : Int) : (Lit.int .i64 a).sameKey (.int .i64 b) = decide (a = b) := by simp [Lit.sameKey]

/-- What a round of names has struck so far: nothing at all, and then the names that were looked at are no members of a group that is reached; or the map has become smaller. -/
def Struck (g : List (List Int)) (u0 : Int → Bool) (D0 D : DataW Unit) (seen : Int → Prop) : Prop :=
  Maps.size D < Maps.size D0 ∨ (D = D0 ∧ ∀ x : Int, u0 x = true → seen x → ∀ y : Nat, y < g.length → u0 y = false → x ∉ g.getD y [])
/-- The same within one name's round: the first k groups. -/
def Within (g : List (List Int)) (u0 : Int → Bool) (D0 D : DataW Unit) (seen : Int → Prop) (x : Int) (k : Nat) : Prop :=
  Maps.size D < Maps.size D0 ∨ (D = D0 ∧ (∀ x : Int, u0 x = true → seen x → ∀ y : Nat, y < g.length → u0 y = false → x ∉ g.getD y []) ∧ ∀ y : Nat, y < k → u0 y = false → x ∉ g.getD y [])
theorem Within.start {g : List (List Int)} {u0 : Int → Bool} {D0 D : DataW Unit} {seen : Int → Prop} (h : Struck g u0 D0 D seen) (x : Int) : Within g u0 D0 D seen x 0 := by
  rcases h with h | ⟨h, h2⟩
  · exact .inl h
  · exact .inr ⟨h, h2, fun y hy => by omega⟩
theorem Within.keep {g : List (List Int)} {u0 u : Int → Bool} {D0 D : DataW Unit} {seen : Int → Prop} {x : Int} {k : Nat} (h : Within g u0 D0 D seen x k) (h0 : KU D0 u0) (hu : KU D u) (hn : u k = true ∨ x ∉ g.getD k []) : Within g u0 D0 D seen x (k + 1) := by
  rcases h with h | ⟨h, h2, h3⟩
  · exact .inl h
  · subst h
    have e := h0.one hu
    refine .inr ⟨rfl, h2, fun y hy hy0 => ?_⟩
    by_cases e2 : y = k
    · subst e2
      rcases hn with hn | hn
      · rw [e, hn] at hy0; cases hy0
      · exact hn
    · exact h3 y (by omega) hy0
theorem Within.strike {g : List (List Int)} {u0 : Int → Bool} {D0 D : DataW Unit} {seen : Int → Prop} {x : Int} {k m : Nat} (h : Within g u0 D0 D seen x k) (h0 : KU D0 u0) (ht : Tidy D) (hx : u0 x = true) : Within g u0 D0 (D.del (.int .i64 x)) seen x m := by
  have hs := size_del (k := .int .i64 x) ht
  rcases h with h | ⟨h, h2, h3⟩
  · exact .inl (by omega)
  · subst h
    rw [h0.1, hx] at hs
    simp at hs
    exact .inl (by omega)
theorem Within.done {g : List (List Int)} {u0 : Int → Bool} {D0 D : DataW Unit} {seen seen' : Int → Prop} {x : Int} (h : Within g u0 D0 D seen x g.length) (hs : ∀ z, seen' z → seen z ∨ z = x) : Struck g u0 D0 D seen' := by
  rcases h with h | ⟨h, h2, h3⟩
  · exact .inl h
  · refine .inr ⟨h, fun z hz hsn y hy hy0 => ?_⟩
    rcases hs z hsn with h4 | rfl
    · exact h2 z hz h4 y hy hy0
    · exact h3 y hy hy0
end Go.Proofs.Ytldbefmiabgkhab
