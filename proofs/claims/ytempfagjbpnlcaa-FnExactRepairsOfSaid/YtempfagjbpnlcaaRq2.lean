/- Repairs, plain: what is near is one change away. No condition. -/
import Derived.Test.YtempfagjbpnlcaaRq1
namespace Go.Proofs.Ytempfagjbpnlcaa
open Go.RowKit

theorem sgb {a b : Int} (ha : 0 ≤ a ∧ a ≤ 10) (hb : 0 ≤ b ∧ b ≤ 10) : (sg a == sg b) = decide (a = b) := by
  rw [Bool.eq_iff_iff, beq_iff_eq, decide_eq_true_eq]
  exact ⟨fun h => sg_inj ha hb h, fun h => by rw [h]⟩
theorem sgn {a b : Int} (ha : 0 ≤ a ∧ a ≤ 10) (hb : 0 ≤ b ∧ b ≤ 10) : (sg a != sg b) = !decide (a = b) := by
  unfold bne; rw [sgb ha hb]

/-- One digit is another one, or the check, or two digits are exchanged. -/
def OneOff (d0 d1 d2 d3 c e0 e1 e2 e3 x : Int) : Prop :=
  (e0 = d0 ∧ e1 = d1 ∧ e2 = d2 ∧ e3 = d3 ∧ x ≠ c) ∨ (x = c ∧ ¬ (e0 = d0 ∧ e1 = d1 ∧ e2 = d2 ∧ e3 = d3) ∧
    ((e1 = d1 ∧ e2 = d2 ∧ e3 = d3) ∨ (e0 = d0 ∧ e2 = d2 ∧ e3 = d3) ∨ (e0 = d0 ∧ e1 = d1 ∧ e3 = d3) ∨ (e0 = d0 ∧ e1 = d1 ∧ e2 = d2) ∨
     (e0 = d1 ∧ e1 = d0 ∧ e2 = d2 ∧ e3 = d3) ∨ (e0 = d0 ∧ e1 = d2 ∧ e2 = d1 ∧ e3 = d3) ∨ (e0 = d0 ∧ e1 = d1 ∧ e2 = d3 ∧ e3 = d2)))

set_option maxHeartbeats 4000000 in
theorem near_iff {d0 d1 d2 d3 c e0 e1 e2 e3 x : Int} (h0 : 0 ≤ d0 ∧ d0 ≤ 10) (h1 : 0 ≤ d1 ∧ d1 ≤ 10) (h2 : 0 ≤ d2 ∧ d2 ≤ 10) (h3 : 0 ≤ d3 ∧ d3 ≤ 10) (hc : 0 ≤ c ∧ c ≤ 10)
    (k0 : 0 ≤ e0 ∧ e0 ≤ 10) (k1 : 0 ≤ e1 ∧ e1 ≤ 10) (k2 : 0 ≤ e2 ∧ e2 ≤ 10) (k3 : 0 ≤ e3 ∧ e3 ≤ 10) (hx : 0 ≤ x ∧ x ≤ 10) :
    nearB [sg d0, sg d1, sg d2, sg d3, 45, sg c] [sg e0, sg e1, sg e2, sg e3, 45, sg x] = true ↔ OneOff d0 d1 d2 d3 c e0 e1 e2 e3 x := by
  have n0 := sgn h0 k0
  have n1 := sgn h1 k1
  have n2 := sgn h2 k2
  have n3 := sgn h3 k3
  have nc := sgn hc hx
  have a01 := sgb h0 k1
  have a10 := sgb h1 k0
  have a12 := sgb h1 k2
  have a21 := sgb h2 k1
  have a23 := sgb h2 k3
  have a32 := sgb h3 k2
  generalize sg d0 = D0 at *
  generalize sg d1 = D1 at *
  generalize sg d2 = D2 at *
  generalize sg d3 = D3 at *
  generalize sg c = C at *
  generalize sg e0 = E0 at *
  generalize sg e1 = E1 at *
  generalize sg e2 = E2 at *
  generalize sg e3 = E3 at *
  generalize sg x = X at *
  have f0 : difC [D0, D1, D2, D3, 45, C] [E0, E1, E2, E3, 45, X] 0 = !decide (d0 = e0) := n0
  have f1 : difC [D0, D1, D2, D3, 45, C] [E0, E1, E2, E3, 45, X] 1 = !decide (d1 = e1) := n1
  have f2 : difC [D0, D1, D2, D3, 45, C] [E0, E1, E2, E3, 45, X] 2 = !decide (d2 = e2) := n2
  have f3 : difC [D0, D1, D2, D3, 45, C] [E0, E1, E2, E3, 45, X] 3 = !decide (d3 = e3) := n3
  have f4 : difC [D0, D1, D2, D3, 45, C] [E0, E1, E2, E3, 45, X] 4 = false := by simp [difC]
  have f5 : difC [D0, D1, D2, D3, 45, C] [E0, E1, E2, E3, 45, X] 5 = !decide (c = x) := nc
  unfold OneOff
  by_cases q0 : d0 = e0 <;> by_cases q1 : d1 = e1 <;> by_cases q2 : d2 = e2 <;> by_cases q3 : d3 = e3 <;> by_cases qc : c = x <;>
    (simp only [q0, q1, q2, q3, qc, decide_true, decide_false, Bool.not_true, Bool.not_false] at f0 f1 f2 f3 f5
     simp [nearB, cntD, fstD, f0, f1, f2, f3, f4, f5, a01, a10, a12, a21, a23, a32]
     try omega)


def val4 (e : List Int) : Nat := (1000 * e.getD 0 0 + 100 * e.getD 1 0 + 10 * e.getD 2 0 + e.getD 3 0).toNat
def swapD (d : List Int) (i : Nat) : List Int := (d.set (i - 1) (d.getD i 0)).set i (d.getD (i - 1) 0)
def rowD (d : List Int) (i : Nat) : List (List Int) := ((List.range 10).map fun n : Nat => d.set i (n : Int)) ++ (if 0 < i then [swapD d i] else [])
def nearL (d : List Int) : List (List Int) := ((List.range 4).flatMap (rowD d)).filter fun y => decide (y ≠ d)
def foundL (d : List Int) (c : Int) : List (List Int) := d :: (nearL d).filter fun y => checkF y == c

theorem validD_parts {e : List Int} (h : validD e = true) : ∃ e0 e1 e2 e3, e = [e0, e1, e2, e3] ∧ (0 ≤ e0 ∧ e0 ≤ 9) ∧ (0 ≤ e1 ∧ e1 ≤ 9) ∧ (0 ≤ e2 ∧ e2 ≤ 9) ∧ (0 ≤ e3 ∧ e3 ≤ 9) := by
  have hl : e.length = 4 := by simp only [validD, Bool.and_eq_true, beq_iff_eq] at h; exact h.2
  obtain ⟨p, q, r, s, rfl⟩ := four_of hl
  simp [validD, inR] at h
  exact ⟨p, q, r, s, rfl, by omega, by omega, by omega, by omega⟩
theorem val4_D4 {n : Nat} : val4 (D4 n) = n := by simp [val4, D4]; omega
theorem D4_val4 {e : List Int} (h : validD e = true) : D4 (val4 e) = e ∧ val4 e < 10000 := by
  obtain ⟨e0, e1, e2, e3, rfl, h0, h1, h2, h3⟩ := validD_parts h
  obtain ⟨a, rfl⟩ := Int.eq_ofNat_of_zero_le h0.1
  obtain ⟨b, rfl⟩ := Int.eq_ofNat_of_zero_le h1.1
  obtain ⟨c, rfl⟩ := Int.eq_ofNat_of_zero_le h2.1
  obtain ⟨d, rfl⟩ := Int.eq_ofNat_of_zero_le h3.1
  have hv : val4 [(a : Int), (b : Int), (c : Int), (d : Int)] = 1000 * a + 100 * b + 10 * c + d := by simp [val4]; omega
  rw [hv]
  refine ⟨?_, by omega⟩
  unfold D4
  rw [show (1000 * a + 100 * b + 10 * c + d) / 1000 = a by omega, show (1000 * a + 100 * b + 10 * c + d) / 100 % 10 = b by omega, show (1000 * a + 100 * b + 10 * c + d) / 10 % 10 = c by omega, show (1000 * a + 100 * b + 10 * c + d) % 10 = d by omega]

theorem lt_unique : ∀ (a b : List Nat), a.Pairwise (· < ·) → b.Pairwise (· < ·) → (∀ x, x ∈ a ↔ x ∈ b) → a = b
  | [], [], _, _, _ => rfl
  | [], y :: b, _, _, h => by have := (h y).2 (by simp); simp at this
  | x :: a, [], _, _, h => by have := (h x).1 (by simp); simp at this
  | x :: a, y :: b, ha, hb, h => by
    rw [List.pairwise_cons] at ha hb
    have hxy : x = y := by
      have h1 := (h x).1 (by simp)
      have h2 := (h y).2 (by simp)
      rcases List.mem_cons.1 h1 with e | e
      · exact e
      · rcases List.mem_cons.1 h2 with e2 | e2
        · exact e2.symm
        · have := hb.1 _ e; have := ha.1 _ e2; omega
    subst hxy
    refine congrArg _ (lt_unique a b ha.2 hb.2 fun z => ?_)
    have hz := h z
    simp only [List.mem_cons] at hz
    constructor
    · intro hm
      rcases hz.1 (.inr hm) with e | e
      · have := ha.1 _ hm; omega
      · exact e
    · intro hm
      rcases hz.2 (.inr hm) with e | e
      · have := hb.1 _ hm; omega
      · exact e

theorem near_rows (d0 d1 d2 d3 : Int) : (List.range 4).flatMap (rowD [d0, d1, d2, d3]) =
    ((List.range 10).map fun n : Nat => [(n : Int), d1, d2, d3]) ++ (((List.range 10).map fun n : Nat => [d0, (n : Int), d2, d3]) ++ ([[d1, d0, d2, d3]] ++ (((List.range 10).map fun n : Nat => [d0, d1, (n : Int), d3]) ++ ([[d0, d2, d1, d3]] ++ (((List.range 10).map fun n : Nat => [d0, d1, d2, (n : Int)]) ++ [[d0, d1, d3, d2]]))))) := by
  rfl

theorem mem_near {d0 d1 d2 d3 : Int} {e : List Int} (h0 : 0 ≤ d0 ∧ d0 ≤ 9) (h1 : 0 ≤ d1 ∧ d1 ≤ 9) (h2 : 0 ≤ d2 ∧ d2 ≤ 9) (h3 : 0 ≤ d3 ∧ d3 ≤ 9) :
    e ∈ nearL [d0, d1, d2, d3] ↔ ∃ e0 e1 e2 e3, e = [e0, e1, e2, e3] ∧ (0 ≤ e0 ∧ e0 ≤ 9) ∧ (0 ≤ e1 ∧ e1 ≤ 9) ∧ (0 ≤ e2 ∧ e2 ≤ 9) ∧ (0 ≤ e3 ∧ e3 ≤ 9) ∧ ¬ (e0 = d0 ∧ e1 = d1 ∧ e2 = d2 ∧ e3 = d3) ∧
      ((e1 = d1 ∧ e2 = d2 ∧ e3 = d3) ∨ (e0 = d0 ∧ e2 = d2 ∧ e3 = d3) ∨ (e0 = d0 ∧ e1 = d1 ∧ e3 = d3) ∨ (e0 = d0 ∧ e1 = d1 ∧ e2 = d2) ∨
     (e0 = d1 ∧ e1 = d0 ∧ e2 = d2 ∧ e3 = d3) ∨ (e0 = d0 ∧ e1 = d2 ∧ e2 = d1 ∧ e3 = d3) ∨ (e0 = d0 ∧ e1 = d1 ∧ e2 = d3 ∧ e3 = d2)) := by
  unfold nearL
  rw [near_rows, List.mem_filter]
  simp only [List.mem_append, List.mem_map, List.mem_range, List.mem_singleton, decide_eq_true_eq]
  constructor
  · rintro ⟨h, hne⟩
    rcases h with ⟨n, hn, rfl⟩ | ⟨n, hn, rfl⟩ | rfl | ⟨n, hn, rfl⟩ | rfl | ⟨n, hn, rfl⟩ | rfl
    all_goals
      refine ⟨_, _, _, _, rfl, ?_, ?_, ?_, ?_, ?_, ?_⟩
      · omega
      · omega
      · omega
      · omega
      · simpa using hne
      · simp
  · rintro ⟨e0, e1, e2, e3, rfl, k0, k1, k2, k3, hne, h⟩
    refine ⟨?_, by simpa using hne⟩
    rcases h with ⟨rfl, rfl, rfl⟩ | ⟨rfl, rfl, rfl⟩ | ⟨rfl, rfl, rfl⟩ | ⟨rfl, rfl, rfl⟩ | ⟨rfl, rfl, rfl, rfl⟩ | ⟨rfl, rfl, rfl, rfl⟩ | ⟨rfl, rfl, rfl, rfl⟩
    · exact .inl ⟨e0.toNat, by omega, by rw [Int.toNat_of_nonneg k0.1]⟩
    · exact .inr (.inl ⟨e1.toNat, by omega, by rw [Int.toNat_of_nonneg k1.1]⟩)
    · exact .inr (.inr (.inr (.inl ⟨e2.toNat, by omega, by rw [Int.toNat_of_nonneg k2.1]⟩)))
    · exact .inr (.inr (.inr (.inr (.inr (.inl ⟨e3.toNat, by omega, by rw [Int.toNat_of_nonneg k3.1]⟩)))))
    · exact .inr (.inr (.inl rfl))
    · exact .inr (.inr (.inr (.inr (.inl rfl))))
    · exact .inr (.inr (.inr (.inr (.inr (.inr rfl)))))

theorem row_pw {f : Nat → List Int} {d : List Int} (hf : ∀ a b, f a = f b → a = b) : ((List.range 10).map f).Pairwise fun a b => a ≠ d → b ≠ d → a ≠ b := by
  rw [List.pairwise_map]
  refine List.Pairwise.imp (fun {a b} (h : a < b) _ _ e => ?_) List.pairwise_lt_range
  have := hf _ _ e
  omega

theorem nodup_near {d0 d1 d2 d3 : Int} : (nearL [d0, d1, d2, d3]).Nodup := by
  unfold nearL List.Nodup
  rw [List.pairwise_filter, near_rows]
  simp only [decide_eq_true_eq]
  simp only [List.pairwise_append, List.pairwise_singleton, List.mem_append, List.mem_map, List.mem_range, List.mem_singleton]
  refine ⟨row_pw fun a b h => by simp at h; omega, ⟨row_pw fun a b h => by simp at h; omega, ⟨trivial, ⟨row_pw fun a b h => by simp at h; omega, ⟨trivial, ⟨row_pw fun a b h => by simp at h; omega, trivial, ?_⟩, ?_⟩, ?_⟩, ?_⟩, ?_⟩, ?_⟩
  · intro x hx y hy hxd hyd e
    subst e
    apply hxd
    obtain ⟨n, hn, rfl⟩ := hx
    all_goals
      simp only [List.cons.injEq, and_true, true_and] at hy ⊢
      omega
  · intro x hx y hy hxd hyd e
    subst e
    apply hxd
    subst hx
    rcases hy with ⟨m, hm, hy⟩ | hy
    all_goals
      simp only [List.cons.injEq, and_true, true_and] at hy ⊢
      omega
  · intro x hx y hy hxd hyd e
    subst e
    apply hxd
    obtain ⟨n, hn, rfl⟩ := hx
    rcases hy with hy | ⟨m, hm, hy⟩ | hy
    all_goals
      simp only [List.cons.injEq, and_true, true_and] at hy ⊢
      omega
  · intro x hx y hy hxd hyd e
    subst e
    apply hxd
    subst hx
    rcases hy with ⟨m, hm, hy⟩ | hy | ⟨m, hm, hy⟩ | hy
    all_goals
      simp only [List.cons.injEq, and_true, true_and] at hy ⊢
      omega
  · intro x hx y hy hxd hyd e
    subst e
    apply hxd
    obtain ⟨n, hn, rfl⟩ := hx
    rcases hy with hy | ⟨m, hm, hy⟩ | hy | ⟨m, hm, hy⟩ | hy
    all_goals
      simp only [List.cons.injEq, and_true, true_and] at hy ⊢
      omega
  · intro x hx y hy hxd hyd e
    subst e
    apply hxd
    obtain ⟨n, hn, rfl⟩ := hx
    rcases hy with ⟨m, hm, hy⟩ | hy | ⟨m, hm, hy⟩ | hy | ⟨m, hm, hy⟩ | hy
    all_goals
      simp only [List.cons.injEq, and_true, true_and] at hy ⊢
      omega

theorem code_four (d0 d1 d2 d3 c : Int) : codeL [d0, d1, d2, d3] c = [sg d0, sg d1, sg d2, sg d3, 45, sg c] := rfl

theorem mem_found {d e : List Int} {c : Int} (hv : validD d = true) (hc : 0 ≤ c ∧ c ≤ 10) (hne : checkF d ≠ c) :
    e ∈ foundL d c ↔ validD e = true ∧ nearB (codeL d c) (codeL e (checkF e)) = true := by
  obtain ⟨d0, d1, d2, d3, rfl, h0, h1, h2, h3⟩ := validD_parts hv
  unfold foundL
  rw [List.mem_cons, List.mem_filter, mem_near h0 h1 h2 h3, beq_iff_eq]
  have key : ∀ e0 e1 e2 e3 : Int, validD [e0, e1, e2, e3] = true → (0 ≤ e0 ∧ e0 ≤ 9) → (0 ≤ e1 ∧ e1 ≤ 9) → (0 ≤ e2 ∧ e2 ≤ 9) → (0 ≤ e3 ∧ e3 ≤ 9) →
      (nearB (codeL [d0, d1, d2, d3] c) (codeL [e0, e1, e2, e3] (checkF [e0, e1, e2, e3])) = true ↔ OneOff d0 d1 d2 d3 c e0 e1 e2 e3 (checkF [e0, e1, e2, e3])) := by
    intro e0 e1 e2 e3 he k0 k1 k2 k3
    rw [code_four, code_four]
    exact near_iff (by omega) (by omega) (by omega) (by omega) hc (by omega) (by omega) (by omega) (by omega) (check_bd he)
  constructor
  · rintro (rfl | ⟨⟨e0, e1, e2, e3, rfl, k0, k1, k2, k3, hn, ho⟩, hk⟩)
    · exact ⟨hv, (key _ _ _ _ hv h0 h1 h2 h3).2 (.inl ⟨rfl, rfl, rfl, rfl, hne⟩)⟩
    · have he := validD_four k0 k1 k2 k3
      exact ⟨he, (key _ _ _ _ he k0 k1 k2 k3).2 (.inr ⟨hk, hn, ho⟩)⟩
  · rintro ⟨he, hn⟩
    obtain ⟨e0, e1, e2, e3, rfl, k0, k1, k2, k3⟩ := validD_parts he
    rcases (key _ _ _ _ he k0 k1 k2 k3).1 hn with ⟨rfl, rfl, rfl, rfl, _⟩ | ⟨hk, hn, ho⟩
    · exact .inl rfl
    · exact .inr ⟨⟨e0, e1, e2, e3, rfl, k0, k1, k2, k3, hn, ho⟩, hk⟩

theorem nodup_found {d : List Int} {c : Int} (hv : validD d = true) : (foundL d c).Nodup := by
  obtain ⟨d0, d1, d2, d3, rfl, h0, h1, h2, h3⟩ := validD_parts hv
  unfold foundL
  rw [List.nodup_cons]
  refine ⟨fun h => ?_, List.Pairwise.filter _ nodup_near⟩
  obtain ⟨e0, e1, e2, e3, he, -, -, -, -, hn, -⟩ := (mem_near h0 h1 h2 h3).1 (List.mem_filter.1 h).1
  simp only [List.cons.injEq, and_true] at he
  omega

/-- The found ones in their order are the ones that are asked. -/
theorem repairs_sorted {d : List Int} {c : Int} (hv : validD d = true) (hc : 0 ≤ c ∧ c ≤ 10) (hne : checkF d ≠ c) {Y : List (List Int)} (hp : Y.Perm (foundL d c))
    (hs : Y.Pairwise fun a b => val4 a ≤ val4 b) : Y.map (fun y => codeL y (checkF y)) = repT (codeL d c) 10000 := by
  have hmem : ∀ e, e ∈ Y ↔ validD e = true ∧ nearB (codeL d c) (codeL e (checkF e)) = true := fun e => by rw [hp.mem_iff]; exact mem_found hv hc hne
  have hnd : Y.Pairwise (· ≠ ·) := (hp.nodup_iff).2 (nodup_found hv)
  have hY : Y.map val4 = repN (codeL d c) 10000 := by
    refine lt_unique _ _ ?_ (List.Pairwise.filter _ List.pairwise_lt_range) fun x => ?_
    · rw [List.pairwise_map]
      refine (hs.and hnd).imp_of_mem fun {a b} ha hb h => ?_
      have h1 := D4_val4 ((hmem a).1 ha).1
      have h2 := D4_val4 ((hmem b).1 hb).1
      have : val4 a ≠ val4 b := fun e => h.2 (by rw [← h1.1, ← h2.1, e])
      omega
    · unfold repN
      rw [List.mem_map, List.mem_filter, List.mem_range]
      constructor
      · rintro ⟨e, he, rfl⟩
        obtain ⟨h1, h2⟩ := (hmem e).1 he
        obtain ⟨h3, h4⟩ := D4_val4 h1
        refine ⟨h4, ?_⟩
        unfold codeN; rw [h3]; exact h2
      · rintro ⟨h1, h2⟩
        exact ⟨D4 x, (hmem _).2 ⟨D4_valid h1, h2⟩, val4_D4⟩
  unfold repT
  rw [← hY, List.map_map]
  refine List.map_congr_left fun y hy => ?_
  obtain ⟨h1, -⟩ := (hmem y).1 hy
  show _ = codeN (val4 y)
  unfold codeN
  rw [(D4_val4 h1).1]


theorem filter_one {l : List (List Int)} {p : List Int → Bool} (h : l.Pairwise fun a b => p a = true → p b = true → False) : (l.filter p).length ≤ 1 := by
  have h2 : (l.filter p).Pairwise fun _ _ => False := by rw [List.pairwise_filter]; exact h
  match l.filter p, h2 with
  | [], _ => simp
  | [_], _ => simp
  | a :: b :: _, h2 => rw [List.pairwise_cons] at h2; exact absurd (h2.1 b (by simp)) id

theorem found_len {d : List Int} {c : Int} (hv : validD d = true) : (foundL d c).length ≤ 8 := by
  obtain ⟨d0, d1, d2, d3, rfl, h0, h1, h2, h3⟩ := validD_parts hv
  unfold foundL nearL
  rw [List.length_cons, List.filter_filter]
  have hle : (((List.range 4).flatMap (rowD [d0, d1, d2, d3])).filter fun y => checkF y == c && decide (y ≠ [d0, d1, d2, d3])).length ≤ (((List.range 4).flatMap (rowD [d0, d1, d2, d3])).filter fun y => checkF y == c).length := by
    have := List.filter_filter (p := fun y => decide (y ≠ [d0, d1, d2, d3])) (q := fun y => checkF y == c) (l := (List.range 4).flatMap (rowD [d0, d1, d2, d3]))
    have e : (fun y : List Int => checkF y == c && decide (y ≠ [d0, d1, d2, d3])) = fun y => decide (y ≠ [d0, d1, d2, d3]) && (checkF y == c) := by funext y; exact Bool.and_comm _ _
    rw [e, ← this]
    exact List.length_filter_le _ _
  refine Nat.le_trans (Nat.add_le_add_right hle 1) ?_
  rw [near_rows]
  simp only [List.filter_append, List.length_append]
  have one : ∀ y : List Int, (([y] : List (List Int)).filter fun y => checkF y == c).length ≤ 1 := fun y => by
    have := List.length_filter_le (fun y => checkF y == c) [y]; simpa using this
  have s1 := one [d1, d0, d2, d3]
  have s2 := one [d0, d2, d1, d3]
  have s3 := one [d0, d1, d3, d2]
  have r0 : (((List.range 10).map fun n : Nat => [(n : Int), d1, d2, d3]).filter fun y => checkF y == c).length ≤ 1 := by
    refine filter_one ?_
    rw [List.pairwise_map]
    refine List.pairwise_lt_range.imp_of_mem fun {a b} ha hb hab e1 e2 => ?_
    rw [List.mem_range] at ha hb
    rw [beq_iff_eq, checkF_four (validD_four (by omega) h1 h2 h3)] at e1 e2
    omega
  have r1 : (((List.range 10).map fun n : Nat => [d0, (n : Int), d2, d3]).filter fun y => checkF y == c).length ≤ 1 := by
    refine filter_one ?_
    rw [List.pairwise_map]
    refine List.pairwise_lt_range.imp_of_mem fun {a b} ha hb hab e1 e2 => ?_
    rw [List.mem_range] at ha hb
    rw [beq_iff_eq, checkF_four (validD_four h0 (by omega) h2 h3)] at e1 e2
    omega
  have r2 : (((List.range 10).map fun n : Nat => [d0, d1, (n : Int), d3]).filter fun y => checkF y == c).length ≤ 1 := by
    refine filter_one ?_
    rw [List.pairwise_map]
    refine List.pairwise_lt_range.imp_of_mem fun {a b} ha hb hab e1 e2 => ?_
    rw [List.mem_range] at ha hb
    rw [beq_iff_eq, checkF_four (validD_four h0 h1 (by omega) h3)] at e1 e2
    omega
  have r3 : (((List.range 10).map fun n : Nat => [d0, d1, d2, (n : Int)]).filter fun y => checkF y == c).length ≤ 1 := by
    refine filter_one ?_
    rw [List.pairwise_map]
    refine List.pairwise_lt_range.imp_of_mem fun {a b} ha hb hab e1 e2 => ?_
    rw [List.mem_range] at ha hb
    rw [beq_iff_eq, checkF_four (validD_four h0 h1 h2 (by omega))] at e1 e2
    omega
  omega
end Go.Proofs.Ytempfagjbpnlcaa
