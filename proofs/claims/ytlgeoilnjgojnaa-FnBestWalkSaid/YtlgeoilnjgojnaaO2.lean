/- OrderBy: how impl compares. No condition. -/
import Derived.Test.YtlgeoilnjgojnaaO1
import Derived.Test.YtlgeoilnjgojnaaH10
import Derived.Test.YtlgeoilnjgojnaaShelf
namespace Go.Proofs.Ytlgeoilnjgojnaa
open Go.RowKit

def cmpH (a b : Int × Int) (loop : Bool) : Int := if loop = true then (if a.2 = b.2 then (if a.2 = 1 then Lib.compareInt b.1 a.1 else Lib.compareInt a.1 b.1) else Lib.compareInt a.2 b.2) else Lib.compareInt a.1 b.1

set_option maxRecDepth 100000 in
theorem byTurn_any (p s q t : Int) (w : World) :
    Calls Try.prog 96 #[.agg #[.int .i64 p, .int .i64 s], .agg #[.int .i64 q, .int .i64 t]] w fun e w' => e = .returned (.int .i64 (cmpH (p, s) (q, t) false)) ∧ Below w.heap.size w w' := by
  go_enter Try.func96, Try.ntmps96
  go_wp2_with (go_at_call 106; ((with_reducible refine (Try.cmp_Compare_int _ _ _).mono ?_); rintro e w' ⟨rfl, rfl⟩))
  go_ret
  exact ⟨rfl, ((Below.refl _ _).alloc (Nat.le_refl _) _).alloc (by simp) _⟩

set_option maxRecDepth 100000 in
theorem byLoop_any (p s q t : Int) (w : World) :
    Calls Try.prog 95 #[.agg #[.int .i64 p, .int .i64 s], .agg #[.int .i64 q, .int .i64 t]] w fun e w' => e = .returned (.int .i64 (cmpH (p, s) (q, t) true)) ∧ Below w.heap.size w w' := by
  by_cases hst : s = t
  · subst hst
    have hss : (s != s) = false := by simp
    by_cases h1 : s = 1
    · have hz : (s == 1) = true := beq_iff_eq.2 h1
      have HD := Lib.hid (show cmpH (p, s) (q, s) true = Lib.compareInt q p by simp [cmpH, h1])
      clear h1
      go_enter Try.func95, Try.ntmps95
      go_wp2_with (go_at_call 106; ((with_reducible refine (Try.cmp_Compare_int _ _ _).mono ?_); rintro e w' ⟨rfl, rfl⟩))
      go_ret
      exact ⟨ret_int HD.out.symm, ((Below.refl _ _).alloc (Nat.le_refl _) _).alloc (by simp) _⟩
    · have hz : (s == 1) = false := beq_eq_false_iff_ne.2 h1
      have HD := Lib.hid (show cmpH (p, s) (q, s) true = Lib.compareInt p q by simp [cmpH, h1])
      clear h1
      go_enter Try.func95, Try.ntmps95
      go_wp2_with (go_at_call 106; ((with_reducible refine (Try.cmp_Compare_int _ _ _).mono ?_); rintro e w' ⟨rfl, rfl⟩))
      go_ret
      exact ⟨ret_int HD.out.symm, ((Below.refl _ _).alloc (Nat.le_refl _) _).alloc (by simp) _⟩
  · have hss : (s != t) = true := by simpa using hst
    have HD := Lib.hid (show cmpH (p, s) (q, t) true = Lib.compareInt s t by simp [cmpH, hst])
    clear hst
    go_enter Try.func95, Try.ntmps95
    go_wp2_with (go_at_call 106; ((with_reducible refine (Try.cmp_Compare_int _ _ _).mono ?_); rintro e w' ⟨rfl, rfl⟩))
    go_ret
    exact ⟨ret_int HD.out.symm, ((Below.refl _ _).alloc (Nat.le_refl _) _).alloc (by simp) _⟩

def isLoop (s : ByteArray) : Bool := s.toList == [108, 111, 111, 112]
def isTurn (s : ByteArray) : Bool := s.toList == [116, 117, 114, 110]
theorem loop_turn {s : ByteArray} (h : isLoop s = true) : isTurn s = false := by
  simp only [isLoop, isTurn, beq_iff_eq] at h ⊢
  rw [h]; rfl
def byFn (loop : Bool) : Value := if loop = true then .func (Fn.func 95) #[] #[] else .func (Fn.func 96) #[] #[]
set_option maxRecDepth 100000 in
theorem orderOf_loop (s : ByteArray) (w : World) (h : isLoop s = true) :
    Calls Try.prog 56 #[.string s] w fun e w' => e = .returned (.func (Fn.func 95) #[] #[]) ∧ w = w' := by
  have h' : (s.toList == [108, 111, 111, 112]) = true := h
  clear h
  go_enter Try.func56, Try.ntmps56
  go_wp2
  go_ret
  exact ⟨rfl, rfl⟩
set_option maxRecDepth 100000 in
theorem orderOf_turn (s : ByteArray) (w : World) (h : isLoop s = false) (h2 : isTurn s = true) :
    Calls Try.prog 56 #[.string s] w fun e w' => e = .returned (.func (Fn.func 96) #[] #[]) ∧ w = w' := by
  have h' : (s.toList == [108, 111, 111, 112]) = false := h
  have h2' : (s.toList == [116, 117, 114, 110]) = true := h2
  clear h h2
  go_enter Try.func56, Try.ntmps56
  go_wp2
  go_ret
  exact ⟨rfl, rfl⟩
set_option maxRecDepth 100000 in
theorem orderOf_none (s : ByteArray) (w : World) (h : isLoop s = false) (h2 : isTurn s = false) :
    Calls Try.prog 56 #[.string s] w fun e w' => e = .returned Value.nilFunc ∧ w = w' := by
  have h' : (s.toList == [108, 111, 111, 112]) = false := h
  have h2' : (s.toList == [116, 117, 114, 110]) = false := h2
  clear h h2
  go_enter Try.func56, Try.ntmps56
  go_wp2
  go_ret
  exact ⟨rfl, rfl⟩

/-- What the comparison in OrderBy reads, below block B. -/
def CmpAt (w : World) (B : Nat) (loop : Bool) (b7 b5 : Nat) (rs : List (List Int)) : Prop :=
  w.cell? ⟨b7, 0, none⟩ = some (byFn loop) ∧ b7 < B ∧ b5 < B ∧ ∃ A n c, w.cell? ⟨b5, 0, none⟩ = some (.slice A n c) ∧ n = rs.length ∧ Own w 0 B A (flatP (rs.map hp))
theorem CmpAt.keep {w w' : World} {B : Nat} {loop : Bool} {b7 b5 : Nat} {rs : List (List Int)} (h : CmpAt w B loop b7 b5 rs) (hb : Below B w w') : CmpAt w' B loop b7 b5 rs := by
  obtain ⟨h1, h2, h3, A, n, c, h4, h5, h6⟩ := h
  exact ⟨(hb.cell (p := ⟨b7, 0, none⟩) h2).trans h1, h2, h3, A, n, c, (hb.cell (p := ⟨b5, 0, none⟩) h3).trans h4, h5, h6.below hb⟩

set_option maxRecDepth 100000 in
set_option maxHeartbeats 2000000 in
theorem cmp1_any (i k b7 b5 : Nat) (rs : List (List Int)) (loop : Bool) (w : World) (B : Nat) (h : CmpAt w B loop b7 b5 rs) (hB : B ≤ w.heap.size) (hv : housesB rs = true) (hi : i < rs.length) (hk : k < rs.length) :
    Calls Try.prog 58 #[.int .i64 i, .int .i64 k, .pointer (some ⟨b7, 0, none⟩), .pointer (some ⟨b5, 0, none⟩)] w fun e w' => e = .returned (.int .i64 (cmpH (hAt rs i) (hAt rs k) loop)) ∧ Below w.heap.size w w' := by
  obtain ⟨h1, h2, h3, A, n, c, h4, hn, h6⟩ := h
  subst hn
  replace h2 := Nat.lt_of_lt_of_le h2 hB
  replace h3 := Nat.lt_of_lt_of_le h3 hB
  replace h6 := h6.more hB
  obtain ⟨p, s, b, o, he, _, rfl, g0, g1, hbl⟩ := h6.house hv hi
  obtain ⟨q, t, b', o', he', _, e, k0, k1, _⟩ := h6.house hv hk
  simp only [Option.some.injEq, Addr.mk.injEq, and_true] at e
  obtain ⟨rfl, rfl⟩ := e
  have HA1 := Lib.hid (hAt_of (z := (i : Int)) rfl hi he)
  have HA2 := Lib.hid (hAt_of (z := (k : Int)) rfl hk he')
  have hiI : (i : Int) < rs.length := by omega
  have hkI : (k : Int) < rs.length := by omega
  have hi0 : (0 : Int) ≤ (i : Int) := by omega
  have hk0 : (0 : Int) ≤ (k : Int) := by omega
  have HG := Lib.hid (And.intro (And.intro h1 h4) (And.intro (And.intro g0 g1) (And.intro k0 k1)))
  have q4 : Below w.heap.size w w.drew := ⟨rfl, rfl, rfl, Nat.le_refl _, fun _ _ => rfl⟩
  clear he he' h1 h4 h6 g0 g1 k0 k1
  cases loop with
  | true =>
    go_enter Try.func58, Try.ntmps58
    go_wp2
    go_region_held3 (fun w' => (w'.cell? ⟨b7, 0, none⟩ = some (.func (Fn.func 95) #[] #[]) ∧ w'.cell? ⟨b5, 0, none⟩ = some (.slice (some ⟨b, o, none⟩) rs.length c)) ∧ (w'.cell? ⟨b, o + i * 2, none⟩ = some (.int .i64 p) ∧ w'.cell? ⟨b, o + i * 2 + 1, none⟩ = some (.int .i64 s)) ∧ (w'.cell? ⟨b, o + k * 2, none⟩ = some (.int .i64 q) ∧ w'.cell? ⟨b, o + k * 2 + 1, none⟩ = some (.int .i64 t)))
      (first | exact ⟨⟨cell_kept q5 h2 HG.out.1.1, cell_kept q5 h3 HG.out.1.2⟩, ⟨cell_kept q5 hbl HG.out.2.1.1, cell_kept q5 hbl HG.out.2.1.2⟩, ⟨cell_kept q5 hbl HG.out.2.2.1, cell_kept q5 hbl HG.out.2.2.2⟩⟩ | exact ⟨⟨cell_kept q4 h2 HG.out.1.1, cell_kept q4 h3 HG.out.1.2⟩, ⟨cell_kept q4 hbl HG.out.2.1.1, cell_kept q4 hbl HG.out.2.1.2⟩, ⟨cell_kept q4 hbl HG.out.2.2.1, cell_kept q4 hbl HG.out.2.2.2⟩⟩)
      ((first
        | (go_at_call 95; refine (byLoop_any p s q t _).mono ?_; rintro e w5 ⟨rfl, b5'⟩; have q5 : Below w.heap.size w w5 := q4.trans b5')
        | fail))
    go_simp
    go_wp2
    go_ret
    exact ⟨ret_int (by rw [HA1.out, HA2.out]), q5⟩
  | false =>
    go_enter Try.func58, Try.ntmps58
    go_wp2
    go_region_held3 (fun w' => (w'.cell? ⟨b7, 0, none⟩ = some (.func (Fn.func 96) #[] #[]) ∧ w'.cell? ⟨b5, 0, none⟩ = some (.slice (some ⟨b, o, none⟩) rs.length c)) ∧ (w'.cell? ⟨b, o + i * 2, none⟩ = some (.int .i64 p) ∧ w'.cell? ⟨b, o + i * 2 + 1, none⟩ = some (.int .i64 s)) ∧ (w'.cell? ⟨b, o + k * 2, none⟩ = some (.int .i64 q) ∧ w'.cell? ⟨b, o + k * 2 + 1, none⟩ = some (.int .i64 t)))
      (first | exact ⟨⟨cell_kept q5 h2 HG.out.1.1, cell_kept q5 h3 HG.out.1.2⟩, ⟨cell_kept q5 hbl HG.out.2.1.1, cell_kept q5 hbl HG.out.2.1.2⟩, ⟨cell_kept q5 hbl HG.out.2.2.1, cell_kept q5 hbl HG.out.2.2.2⟩⟩ | exact ⟨⟨cell_kept q4 h2 HG.out.1.1, cell_kept q4 h3 HG.out.1.2⟩, ⟨cell_kept q4 hbl HG.out.2.1.1, cell_kept q4 hbl HG.out.2.1.2⟩, ⟨cell_kept q4 hbl HG.out.2.2.1, cell_kept q4 hbl HG.out.2.2.2⟩⟩)
      ((first
        | (go_at_call 96; refine (byTurn_any p s q t _).mono ?_; rintro e w5 ⟨rfl, b5'⟩; have q5 : Below w.heap.size w w5 := q4.trans b5')
        | fail))
    go_simp
    go_wp2
    go_ret
    exact ⟨ret_int (by rw [HA1.out, HA2.out]), q5⟩
end Go.Proofs.Ytlgeoilnjgojnaa
