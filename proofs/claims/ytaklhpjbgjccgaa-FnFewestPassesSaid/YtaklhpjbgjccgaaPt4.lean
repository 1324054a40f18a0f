/- spec.rowNumber, spec.place; what lies where in spec.PassesTried. No condition. -/
import Derived.Test.YtaklhpjbgjccgaaPt3
import Derived.Test.YtaklhpjbgjccgaaP1
namespace Go.Proofs.Ytaklhpjbgjccgaa
open Go.RowKit

set_option maxRecDepth 100000 in
theorem rowNumber_any (A : Option Addr) (c : Nat) (r : List Int) (w : World) (hr : Ints w w.heap.size A r) (hl : r.length ≤ 4) (hb : ∀ (i : Nat) (hi : i < r.length), 0 ≤ r[i] ∧ r[i] < 9) :
    Calls Try.prog 73 #[.slice A r.length c] w fun e w' => e = .returned (.int .i64 (numR r)) ∧ w = w' := by
  have HB := Lib.hid hb
  have HLE := Lib.hid (fun m (hm : m ≤ r.length) => numTo_le hb m hm)
  obtain ⟨V, hV⟩ : ∃ V, numR r = V := ⟨_, rfl⟩
  rw [hV]
  have HV := Lib.hid hV
  clear hb hV
  go_enter Try.func73, Try.ntmps73
  go_wp2
  go_loop [3, 4] (fun v i => ∃ m : Nat, m ≤ r.length ∧ i = .int .i64 m ∧ v = .int .i64 (numTo r m)) (fun _ i => r.length - (intOf i).toNat)
  case atStart => exact ⟨0, by omega, rfl, rfl⟩
  case round =>
    obtain ⟨m, hm, rfl, rfl⟩ := hrel
    have hle := HLE.out m hm
    have hp : (9 : Int) ^ m ≤ 6561 := by
      have : ∀ m : Fin 5, (9 : Int) ^ m.1 ≤ 6561 := by decide
      exact this ⟨m, by omega⟩
    by_cases hlt : m < r.length
    · obtain ⟨b, o, rfl, hb, hc⟩ := hr.open (by simp; omega)
      have hcell := ints_atD0 hc hlt
      have hbm := HB.out m hlt
      rw [← getD_get hlt] at hbm
      have HF := Lib.hid (show numTo r (m + 1) = numTo r m * 9 + r.getD m 0 from rfl)
      obtain ⟨x, hx⟩ : ∃ x, r.getD m 0 = x := ⟨_, rfl⟩
      obtain ⟨q, hq⟩ : ∃ q, numTo r m = q := ⟨_, rfl⟩
      rw [hx] at hcell hbm HF
      rw [hq] at HF hle ⊢
      have hb0 : 0 ≤ q ∧ q ≤ 6561 := by omega
      obtain ⟨hq0, hq1⟩ := hb0
      obtain ⟨hx0, hx1⟩ := hbm
      clear hc hx hq hle hp
      go_wp2
      go_round
      case rel => exact ⟨m + 1, by omega, by go_num, by rw [HF.out]⟩
      case measure => simp [intOf]; omega
    · have hmn : m = r.length := by omega
      have HF := Lib.hid (show V = numTo r m by rw [← HV.out, hmn]; rfl)
      clear hmn hle hp
      go_wp2
      go_ret
      exact ⟨ret_int HF.out.symm, rfl⟩

set_option maxRecDepth 100000 in
theorem place2_any (A : Option Addr) (c : Nat) (zs : List Int) (x : Int) (w : World) (hr : Ints w w.heap.size A zs) (hl : zs.length ≤ 1000000000) :
    Calls Try.prog 75 #[.slice A zs.length c, .int .i64 x] w fun e w' => (∃ i : Int, e = .returned (.int .i64 i) ∧ decide (i < 0) = !decide (x ∈ zs)) ∧ w = w' := by
  go_enter Try.func75, Try.ntmps75
  go_wp2
  go_loop [5] (fun i => ∃ k : Nat, k ≤ zs.length ∧ i = .int .i64 k ∧ Hid (x ∉ zs.take k)) (fun i => zs.length - (intOf i).toNat)
  case atStart => exact ⟨0, by omega, rfl, Lib.hid (by simp)⟩
  case round =>
    obtain ⟨k, hk, rfl, HN⟩ := hrel
    by_cases hlt : k < zs.length
    · obtain ⟨b, o, rfl, hb, hc⟩ := hr.open (by simp; omega)
      have hcell := ints_at hc hlt
      have HT := Lib.hid (List.take_succ_eq_append_getElem hlt)
      have HM := Lib.hid (List.getElem_mem hlt)
      obtain ⟨z, hz⟩ : ∃ z, zs[k] = z := ⟨_, rfl⟩
      rw [hz] at hcell HT HM
      clear hc hz
      by_cases hzx : z = x
      · have ht : (z == x) = true := beq_iff_eq.2 hzx
        have HF := Lib.hid (show decide ((k : Int) < 0) = !decide (x ∈ zs) by
          rw [decide_eq_false (show ¬ (k : Int) < 0 by omega), decide_eq_true (show x ∈ zs by rw [← hzx]; exact HM.out)]; rfl)
        clear hzx
        go_wp2
        go_ret
        exact ⟨⟨_, rfl, HF.out⟩, rfl⟩
      · have ht : (z == x) = false := beq_eq_false_iff_ne.2 hzx
        have HNN := Lib.hid (show x ∉ zs.take (k + 1) by
          rw [HT.out, List.mem_append, List.mem_singleton]
          rintro (h | h)
          · exact HN.out h
          · exact hzx h.symm)
        clear hzx
        go_wp2
        go_round
        case rel => exact ⟨k + 1, by omega, by go_num, Lib.hid HNN.out⟩
        case measure => simp [intOf]; omega
    · have hkn : k = zs.length := by omega
      have HF := Lib.hid (show decide ((-1 : Int) < 0) = !decide (x ∈ zs) by
        have := HN.out
        rw [hkn, List.take_length] at this
        rw [decide_eq_false this]; rfl)
      clear hkn HN
      go_wp2
      go_ret
      exact ⟨⟨-1, rfl, HF.out⟩, rfl⟩

/-! The rows that are passed now: they are read alone, and do not lie in the block of what was seen. -/
def NowAt (w : World) (B : Nat) (H : Option Addr) (hs : List Value) (N : List (List Int)) (g : Nat) : Prop :=
  Own w 0 B H hs ∧ GridAt w 0 B hs N ∧ (N ≠ [] → H.map (·.block) ≠ some g) ∧ ∀ (i : Nat) (hi : i < N.length) (A : Option Addr) (cA : Nat), N[i] ≠ [] → hs[i]? = some (.slice A N[i].length cA) → A.map (·.block) ≠ some g
theorem NowAt.grid {w : World} {B g : Nat} {H : Option Addr} {hs : List Value} {N : List (List Int)} (h : NowAt w B H hs N g) : Grid w 0 B H N := ⟨hs, h.1, h.2.1⟩
theorem NowAt.below {w w' : World} {B g : Nat} {H : Option Addr} {hs : List Value} {N : List (List Int)} (h : NowAt w B H hs N g) (hb : Below B w w') : NowAt w' B H hs N g := ⟨h.1.below hb, h.2.1.below hb, h.2.2⟩
theorem NowAt.more {w : World} {B B' g : Nat} {H : Option Addr} {hs : List Value} {N : List (List Int)} (h : NowAt w B H hs N g) (hB : B ≤ B') : NowAt w B' H hs N g := ⟨h.1.more hB, h.2.1.more hB, h.2.2⟩
theorem NowAt.wrote {w w' : World} {B g : Nat} {H : Option Addr} {hs : List Value} {N : List (List Int)} (h : NowAt w B H hs N g) (hB : B ≤ w.heap.size) (hg : w.grownBy w' (some g)) : NowAt w' B H hs N g := by
  obtain ⟨h1, h2, h3, h4⟩ := h
  refine ⟨?_, ⟨h2.1, fun i hi => ?_⟩, h3, h4⟩
  · by_cases hN : N = []
    · have : hs = [] := List.eq_nil_of_length_eq_zero (by rw [h2.1, hN]; rfl)
      exact .inl this
    · exact h1.grown hB hg (fun b o e e2 => h3 hN (by rw [e, e2]; rfl))
  · obtain ⟨A, c, g1, g2, g3⟩ := h2.2 i hi
    refine ⟨A, c, g1, g2, ?_⟩
    by_cases hne : N[i] = []
    · exact .inl (by rw [hne]; rfl)
    · exact g3.grown hB hg (fun b o e e2 => h4 i hi A c hne g1 (by rw [e, e2]; rfl))
theorem NowAt.other {w : World} {B g g' : Nat} {H : Option Addr} {hs : List Value} {N : List (List Int)} (h : NowAt w B H hs N g) (hg : B ≤ g') : NowAt w B H hs N g' := by
  obtain ⟨h1, h2, h3, h4⟩ := h
  refine ⟨h1, h2, fun hN e => ?_, fun i hi A cA hne hA e => ?_⟩
  · have hne : hs ≠ [] := fun e2 => hN (List.eq_nil_of_length_eq_zero (by rw [← h2.1, e2]; rfl))
    obtain ⟨b, o, rfl, hlt, _⟩ := h1.open (List.length_pos_iff.2 hne)
    simp at e; omega
  · obtain ⟨A', c2, g1, _, g3⟩ := h2.2 i hi
    rw [g1] at hA
    simp only [Option.some.injEq, Value.slice.injEq] at hA
    obtain ⟨rfl, _, _⟩ := hA
    obtain ⟨b, o, rfl, hlt, _⟩ := g3.open (by simp; exact List.length_pos_iff.2 hne)
    simp at e; omega
theorem NowAt.of {w : World} {base c g : Nat} {H : Option Addr} {hs : List Value} {R : List (List Int)} (h : Built w base H c hs R) (hn : NotIn H hs R g) : NowAt w w.heap.size H hs R g := by
  obtain ⟨h1, h2, h3⟩ := h
  obtain ⟨A, c', hv, _, ho⟩ := own_of_row h1
  simp only [Value.slice.injEq] at hv
  obtain ⟨rfl, _, _⟩ := hv
  exact ⟨ho.row, ⟨h2.1, fun i hi => by
    obtain ⟨A, c2, g1, g2, g3⟩ := h2.2 i hi
    exact ⟨A, c2, g1, g2, g3.row⟩⟩, fun _ => hn.1, hn.2⟩
theorem NotIn.other {w : World} {base c g' : Nat} {H : Option Addr} {hs : List Value} {R : List (List Int)} (h : Built w base H c hs R) (hg : w.heap.size ≤ g') : NotIn H hs R g' := NotIn.fresh h hg

/-- What is known of the rows that are passed now, and of the numbers that were seen. -/
def Stage (zs : List Int) (k p : Nat) (N : List (List Int)) (Sn : List Int) : Prop :=
  (∀ r ∈ N, Reach zs k p r) ∧ (∀ s ∈ Sn, (∃ r ∈ N, s = numR r) ∨ ∃ p' r, p' < p ∧ Reach zs k p' r ∧ s = numR r) ∧ numR (nowP zs k p) ∈ Sn ∧
  ∀ r, r.Perm zs → numR r ∈ Sn → r ∈ N ∨ ∀ bs, Boxes r bs k → numR (passL r bs k) ∈ Sn
theorem num_eq {zs r s : List Int} (hz : rowB 9 zs = true) (hr : r.Perm zs) (hs : s.Perm zs) (h : numR r = numR s) : r = s :=
  numR_inj (rowB_perm hr hz) (rowB_perm hs hz) (hr.length_eq.trans hs.length_eq.symm) (by rw [hr.length_eq]; exact rowB_len hz) h
theorem Stage.start {zs : List Int} (hz : rowB 9 zs = true) (k : Nat) : Stage zs k 0 [zs] [numR zs] := by
  refine ⟨fun r h => by simpa [Reach] using h, fun s h => .inl ⟨zs, by simp, by simpa using h⟩, by simp [nowP], fun r hp h => .inl ?_⟩
  simp only [List.mem_singleton] at h ⊢
  exact num_eq hz hp (List.Perm.refl _) h
/-- .. in the midst of a stage: of the rows the first i are done, and of row i the first wn boxes. -/
def Mid (zs : List Int) (k p : Nat) (N : List (List Int)) (Sn0 : List Int) (i : Nat) (R : List (List Int)) (Sn : List Int) : Prop :=
  (∀ s ∈ Sn0, s ∈ Sn) ∧ (∀ s ∈ Sn, s ∈ Sn0 ∨ ∃ r ∈ R, s = numR r) ∧ (∀ r ∈ R, Reach zs k (p + 1) r) ∧ ∀ r ∈ N.take i, ∀ bs, Boxes r bs k → numR (passL r bs k) ∈ Sn
theorem Mid.start (zs : List Int) (k p : Nat) (N : List (List Int)) (Sn0 : List Int) : Mid zs k p N Sn0 0 [] Sn0 := ⟨fun _ h => h, fun _ h => .inl h, by simp, by simp⟩
theorem Mid.more {zs : List Int} {k p i : Nat} {N R : List (List Int)} {Sn0 Sn : List Int} {y : List Int} (h : Mid zs k p N Sn0 i R Sn) (hy : Reach zs k (p + 1) y) : Mid zs k p N Sn0 i (R ++ [y]) (Sn ++ [numR y]) := by
  obtain ⟨h1, h2, h3, h4⟩ := h
  refine ⟨fun s hs => List.mem_append_left _ (h1 s hs), fun s hs => ?_, fun r hr => ?_, fun r hr bs hb => List.mem_append_left _ (h4 r hr bs hb)⟩
  · rcases List.mem_append.1 hs with hs | hs
    · rcases h2 s hs with h | ⟨r, hr, he⟩
      · exact .inl h
      · exact .inr ⟨r, List.mem_append_left _ hr, he⟩
    · simp only [List.mem_singleton] at hs
      exact .inr ⟨y, by simp, hs⟩
  · rcases List.mem_append.1 hr with hr | hr
    · exact h3 r hr
    · simp only [List.mem_singleton] at hr; subst hr; exact hy
theorem Mid.row {zs : List Int} {k p i n : Nat} {N R : List (List Int)} {Sn0 Sn : List Int} (h : Mid zs k p N Sn0 i R Sn) (hi : i < N.length) (hk : 0 < k) (hl : N[i].length = n) (hd : ∀ w', w' < k ^ n → numR (passL N[i] (digL k n w') k) ∈ Sn) : Mid zs k p N Sn0 (i + 1) R Sn := by
  obtain ⟨h1, h2, h3, h4⟩ := h
  refine ⟨h1, h2, h3, fun r hr bs hb => ?_⟩
  rw [List.take_succ_eq_append_getElem hi] at hr
  rcases List.mem_append.1 hr with hr | hr
  · exact h4 r hr bs hb
  · simp only [List.mem_singleton] at hr
    subst hr
    obtain ⟨w', e1, e2⟩ := dig_all hk bs hb.2
    rw [hb.1, hl] at e1 e2
    rw [← e2]
    exact hd w' e1
theorem Stage.next {zs : List Int} {k p : Nat} {N R : List (List Int)} {Sn0 Sn : List Int} (hz : rowB 9 zs = true) (hk : 0 < k) (h : Stage zs k p N Sn0) (m : Mid zs k p N Sn0 N.length R Sn) : Stage zs k (p + 1) R Sn := by
  obtain ⟨h1, h2, h3, h4⟩ := h
  obtain ⟨m1, m2, m3, m4⟩ := m
  rw [List.take_length] at m4
  have hsucc : ∀ r, r.Perm zs → numR r ∈ Sn0 → ∀ bs, Boxes r bs k → numR (passL r bs k) ∈ Sn := fun r hp hr bs hb => by
    rcases h4 r hp hr with h | h
    · exact m4 r h bs hb
    · exact m1 _ (h bs hb)
  refine ⟨m3, fun s hs => ?_, ?_, fun r hp hr => ?_⟩
  · rcases m2 s hs with h | h
    · rcases h2 s h with ⟨r, hr, he⟩ | ⟨p', r, hp', hr, he⟩
      · exact .inr ⟨p, r, by omega, h1 r hr, he⟩
      · exact .inr ⟨p', r, by omega, hr, he⟩
    · exact .inl h
  · exact hsucc _ (nowP_perm hk p) h3 _ ⟨boxesP_len _ _ _ _, fun i hi => boxesP_range hk i hi⟩
  · rcases m2 _ hr with h | ⟨r', hr', he⟩
    · exact .inr (hsucc r hp h)
    · have := num_eq hz hp (m3 r' hr').perm he
      rw [this]; exact .inl hr'
theorem goal_perm {zs : List Int} {k : Nat} (hk : 2 ≤ k) (hk4 : k ≤ 4) (hz : rowB 9 zs = true) : (goalOf zs).Perm zs := (reach_goal hk hk4 hz).perm
theorem Stage.found {zs : List Int} {k p : Nat} {N : List (List Int)} {Sn : List Int} (hz : rowB 9 zs = true) (hk : 2 ≤ k) (hk4 : k ≤ 4) (h : Stage zs k p N Sn) (hp : p ≤ passN (runsNat zs) k) : (∃ r ∈ N, numR r = numR (goalOf zs)) ↔ p = passN (runsNat zs) k := by
  constructor
  · rintro ⟨r, hr, he⟩
    have := num_eq hz (h.1 r hr).perm (goal_perm hk hk4 hz) he
    refine Decidable.by_contra fun hc => reach_not hk hk4 hz (h.1 r hr) (by omega) this
  · intro e
    have h3 := h.2.2.1
    rw [e, sorts hk hk4 hz] at h3
    rcases h.2.1 _ h3 with ⟨r, hr, he⟩ | ⟨p', r, hp', hr, he⟩
    · exact ⟨r, hr, he.symm⟩
    · exact absurd (num_eq hz hr.perm (goal_perm hk hk4 hz) he.symm) (reach_not hk hk4 hz hr (by omega))
end Go.Proofs.Ytaklhpjbgjccgaa
