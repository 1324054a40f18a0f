/- Towns that are drawn: the draws, and what is plain of more streets. No condition. -/
import Derived.Test.YtjklnknlifpidaaN18
import Derived.Test.YtjklnknlifpidaaN7
import Derived.Test.YtjklnknlifpidaaN11
import Derived.Test.YtjklnknlifpidaaEx
import Derived.Test.YtjklnknlifpidaaRowAid
namespace Go.Proofs.Ytjklnknlifpidaa
open Go.RowKit

section
variable {ss tt : List St} {m a b w : Nat}
theorem WkF_sub (hs : ∀ s ∈ ss, s ∈ tt) {f : Nat} : ∀ {a b w}, WkF ss m f a b w → WkF tt m f a b w := by
  induction f with
  | zero =>
    rintro a b w (h | h | h)
    · exact .inl h
    · exact .inr (.inl (hs _ h))
    · exact .inr (.inr (hs _ h))
  | succ f ih =>
    rintro a b w (h | ⟨v, x, y, hv, h1, h2, h3⟩)
    · exact .inl (ih h)
    · exact .inr ⟨v, x, y, hv, ih h1, ih h2, h3⟩
theorem Wk_sub (hs : ∀ s ∈ ss, s ∈ tt) (h : Wk ss m a b w) : Wk tt m a b w := by
  obtain ⟨f, h⟩ := h
  exact ⟨f, WkF_sub hs h⟩
end
theorem st_lt {n : Nat} {rs : List (List Int)} (hok : rs.all (okS n) = true) : ∀ s ∈ rs.map st, s.1 < n ∧ s.2.1 < n := fun s hs => by
  have := fresh_lt hok (s, false) (by simp only [fresh, List.mem_map]; exact ⟨s, by simpa using hs, rfl⟩)
  exact this
/-- More of the same streets make a town. -/
theorem townB_more {n : Int} {rs qs : List (List Int)} (h : townB n rs = true) (hq : ∀ r ∈ qs, r ∈ rs) (h7 : rs.length + qs.length ≤ 7) : townB n (rs ++ qs) = true := by
  obtain ⟨m, rfl, h1, h5, _, hok, hre⟩ := townB_parts h
  have hok2 : (rs ++ qs).all (okS m) = true := by
    rw [List.all_append, hok, Bool.true_and, List.all_eq_true]
    intro r hr
    exact List.all_eq_true.1 hok r (hq r hr)
  have hr2 : ∀ i, i < m → reach ((rs ++ qs).map st) 0 i = true := fun i hi => by
    obtain ⟨w, hw⟩ := (reach_iff (st_lt hok) 0 i).1 (hre i hi)
    refine (reach_iff (st_lt hok2) 0 i).2 ⟨w, Wk_sub (fun s hs => ?_) hw⟩
    rw [List.map_append]
    exact List.mem_append_left _ hs
  simp only [townB, Bool.and_eq_true, decide_eq_true_eq, List.all_eq_true, List.mem_range, Int.toNat_natCast]
  exact ⟨⟨inR_iff.2 ⟨by omega, by omega⟩, by rw [List.length_append]; omega⟩, List.all_eq_true.1 hok2, hr2⟩

def DrawnT (w : World) (e : Ending) (w' : World) : Prop := ∃ (A : Option Addr) (c : Nat) (rs : List (List Int)) (n : Nat),
  e = .returned (.tuple #[.int .i64 n, .slice A rs.length c]) ∧ 1 ≤ n ∧ n ≤ 6 ∧ rs.length ≤ 9 ∧ rs.length ≤ c ∧ Lens 3 rs ∧ Grid w' 0 w'.heap.size A rs ∧ Below w.heap.size w w'
set_option maxRecDepth 100000 in
set_option maxHeartbeats 400000 in
theorem DrawRoundCost_any (A : Option Addr) (c : Nat) (zs : List Int) (w : World) (hr : Own w 0 w.heap.size A (zs.map (Value.int .u8))) (hx : zs.length ≤ c ∧ c ≤ maxLen ∧ ∀ z ∈ zs, (Lit.int .u8 z).wf = true) :
    Calls Try.prog 21 #[.slice A zs.length c] w (DrawnT w) := by
  have H := Lib.hid hx
  clear hx
  go_enter Try.func21, Try.ntmps21
  go_wp2_with fail
  refine (newReader_any _ _ _ _ hr H.out).mono ?_
  rintro e w1 ⟨rfl, hrd, hb1⟩
  go_wp2_with fail
  refine (someTown_any _ 0 _ hrd (by omega)).mono ?_
  rintro e w2 ⟨A2, c2, rs, n, rfl, h1, h6, h9, hc, hl, hm, _, hg⟩
  have HF := Lib.hid (show DrawnT w (.returned (.tuple #[.int .i64 n, .slice A2 rs.length c2])) w2 from ⟨A2, c2, rs, n, rfl, h1, h6, h9, hc, hl, hm.row, hb1.grown hg hb1.size (fun k hk => by injection hk with hk; omega)⟩)
  clear hl hm hg
  go_wp2_with fail
  go_ret2
  exact HF.out
set_option maxRecDepth 100000 in
set_option maxHeartbeats 400000 in
theorem DrawRoundTried_any (A : Option Addr) (c : Nat) (zs : List Int) (w : World) (hr : Own w 0 w.heap.size A (zs.map (Value.int .u8))) (hx : zs.length ≤ c ∧ c ≤ maxLen ∧ ∀ z ∈ zs, (Lit.int .u8 z).wf = true) :
    Calls Try.prog 26 #[.slice A zs.length c] w (DrawnT w) := by
  have H := Lib.hid hx
  clear hx
  go_enter Try.func26, Try.ntmps26
  go_wp2_with fail
  refine (newReader_any _ _ _ _ hr H.out).mono ?_
  rintro e w1 ⟨rfl, hrd, hb1⟩
  go_wp2_with fail
  refine (someTown_any _ 0 _ hrd (by omega)).mono ?_
  rintro e w2 ⟨A2, c2, rs, n, rfl, h1, h6, h9, hc, hl, hm, _, hg⟩
  have HF := Lib.hid (show DrawnT w (.returned (.tuple #[.int .i64 n, .slice A2 rs.length c2])) w2 from ⟨A2, c2, rs, n, rfl, h1, h6, h9, hc, hl, hm.row, hb1.grown hg hb1.size (fun k hk => by injection hk with hk; omega)⟩)
  clear hl hm hg
  go_wp2_with fail
  go_ret2
  exact HF.out
set_option maxRecDepth 100000 in
set_option maxHeartbeats 400000 in
theorem DrawOnceRound_any (A : Option Addr) (c : Nat) (zs : List Int) (w : World) (hr : Own w 0 w.heap.size A (zs.map (Value.int .u8))) (hx : zs.length ≤ c ∧ c ≤ maxLen ∧ ∀ z ∈ zs, (Lit.int .u8 z).wf = true) :
    Calls Try.prog 18 #[.slice A zs.length c] w (DrawnT w) := by
  have H := Lib.hid hx
  clear hx
  go_enter Try.func18, Try.ntmps18
  go_wp2_with fail
  refine (newReader_any _ _ _ _ hr H.out).mono ?_
  rintro e w1 ⟨rfl, hrd, hb1⟩
  go_wp2_with fail
  refine (someTown_any _ 0 _ hrd (by omega)).mono ?_
  rintro e w2 ⟨A2, c2, rs, n, rfl, h1, h6, h9, hc, hl, hm, _, hg⟩
  have HF := Lib.hid (show DrawnT w (.returned (.tuple #[.int .i64 n, .slice A2 rs.length c2])) w2 from ⟨A2, c2, rs, n, rfl, h1, h6, h9, hc, hl, hm.row, hb1.grown hg hb1.size (fun k hk => by injection hk with hk; omega)⟩)
  clear hl hm hg
  go_wp2_with fail
  go_ret2
  exact HF.out
end Go.Proofs.Ytjklnknlifpidaa
