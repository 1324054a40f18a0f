/- Towns that are drawn. No condition. -/
import Derived.Test.YtjklnknlifpidaaG6
import Derived.Test.YtjklnknlifpidaaRd2
import Derived.Deep.DeepCutAuto
import Derived.Deep.AppendLies
import Derived.Deep.RegionLaw
import Derived.IntWalk
namespace Go.Proofs.Ytjklnknlifpidaa
open Go.RowKit

def Lens (m : Nat) (rs : List (List Int)) : Prop := ∀ r ∈ rs, r.length ≤ m
theorem Lens.push {m : Nat} {rs : List (List Int)} {r : List Int} (h : Lens m rs) (hr : r.length ≤ m) : Lens m (rs ++ [r]) := fun x hx => by
  rcases List.mem_append.1 hx with hx | hx
  · exact h x hx
  · simp at hx; rw [hx]; exact hr
/-- The streets that have been drawn so far, and the reader. -/
structure TS (w wr : World) (g q : Nat) (H : Option Addr) (c : Nat) (hs : List Value) (rs : List (List Int)) : Prop where
  lens : Lens 3 rs
  built : Built wr w.heap.size H c hs rs
  rd : Rd wr g q
  grown : w.grownBy wr (some g)
  lt : g < w.heap.size
theorem TS.reads {w wr w2 : World} {g q q' : Nat} {H : Option Addr} {c : Nat} {hs : List Value} {rs : List (List Int)} (h : TS w wr g q H c hs rs) (hg : wr.grownBy w2 (some g)) (hr : Rd w2 g q') : TS w w2 g q' H c hs rs :=
  ⟨h.lens, h.built.apart hg (fun i hi => by injection hi with hi; have := h.lt; omega), hr, grown_trans h.grown hg, h.lt⟩
theorem TS.size {w wr : World} {g q : Nat} {H : Option Addr} {c : Nat} {hs : List Value} {rs : List (List Int)} (h : TS w wr g q H c hs rs) : w.heap.size ≤ wr.heap.size := h.grown.size
theorem TS.own {w wr : World} {g q : Nat} {H : Option Addr} {c : Nat} {hs : List Value} {rs : List (List Int)} (h : TS w wr g q H c hs rs) (o : Obj) : (wr.alloc o).ownsRow w.heap.size 24 1 (.slice H rs.length c) rs.length hs := (h.built.keep ((Below.refl _ _).alloc (Nat.le_refl _) _)).1
theorem TS.push {w wr w3 : World} {g q : Nat} {H H' : Option Addr} {c c' : Nat} {hs : List Value} {rs : List (List Int)} (h : TS w wr g q H c hs rs) {x y z : Int}
    (hown : w3.ownsRow w.heap.size 24 1 (.slice H' (rs.length + 1) c') (rs.length + 1) (hs ++ [.slice (some ⟨wr.heap.size, 0, none⟩) 3 3]))
    (hg : (wr.alloc (.cells #[.int .i64 x, .int .i64 y, .int .i64 z] 3)).grownBy w3 (Value.slice H rs.length c).ownBlock)
    (hl : H'.map (·.block) = H.map (·.block) ∨ H'.map (·.block) = some ((wr.alloc (.cells #[.int .i64 x, .int .i64 y, .int .i64 z] 3)).heap.size + 1)) :
    TS w w3 g q H' c' (hs ++ [.slice (some ⟨wr.heap.size, 0, none⟩) 3 3]) (rs ++ [[x, y, z]]) := by
  have hbel : Below wr.heap.size wr (wr.alloc (.cells #[.int .i64 x, .int .i64 y, .int .i64 z] 3)) := (Below.refl _ _).alloc (Nat.le_refl _) _
  have hR : OwnInts (wr.alloc (.cells #[.int .i64 x, .int .i64 y, .int .i64 z] 3)) wr.heap.size (wr.alloc (.cells #[.int .i64 x, .int .i64 y, .int .i64 z] 3)).heap.size (some ⟨wr.heap.size, 0, none⟩) [x, y, z] :=
    own_block (e := 3) (heap_alloc_new wr _) (Nat.le_refl _)
  have hown5 := (h.built.keep hbel).1
  refine ⟨h.lens.push (by simp), h.built.push h.size hbel (r := [x, y, z]) hR (by simp) hown hg hl, ?_, ?_, h.lt⟩
  · exact (h.rd.own (World.grownBy_alloc wr (.cells #[.int .i64 x, .int .i64 y, .int .i64 z] 3) none) (by simp)).own hg (fun i hi => by have := (hown5.lt _ hi).1; have := h.lt; omega)
  · exact grown_own (grown_trans h.grown (World.grownBy_alloc wr (.cells #[.int .i64 x, .int .i64 y, .int .i64 z] 3) (some g))) hg (fun i hi => (hown5.lt _ hi).1)
theorem news1 (W : World) (v : Value) (t : TypeId) {g : Nat} (hg : W.heap.size = g) : ∀ j u, [v][j]? = some u → (W.alloc (.cells #[v] t)).cell? ((⟨g, 0, none⟩ : Addr).add j) = some u := by
  subst hg
  intro j u hj
  rw [Addr.add_lit, Nat.zero_add, World.cell?_alloc_at _ _ _ _ rfl]
  simpa using hj
/-- The same, with the slice and how many numbers have been taken. -/
def TSt (w wr : World) (g p : Nat) (v : Value) (m : Nat) : Prop := ∃ (H : Option Addr) (c : Nat) (hs : List Value) (rs : List (List Int)) (q : Nat), v = .slice H rs.length c ∧ rs.length ≤ m ∧ q ≤ p ∧ TS w wr g q H c hs rs
theorem TS.start (w wr : World) (g q : Nat) (hg : w.grownBy wr (some g)) (hr : Rd wr g q) (hlt : g < w.heap.size) : TS w (wr.alloc (.cells #[] 24)) g q (some ⟨wr.heap.size, 0, none⟩) 0 [] [] :=
  ⟨fun r hr => by simp at hr, by
    have := Built.start wr w.heap.size hg.size
    exact this, hr.own (World.grownBy_alloc wr _ none) (by simp), grown_trans hg (World.grownBy_alloc wr _ _), hlt⟩
/-- What is drawn of a town. -/
def TownD (w : World) (g p : Nat) (e : Ending) (w' : World) : Prop := ∃ (A : Option Addr) (c : Nat) (rs : List (List Int)) (n : Nat),
  e = .returned (.tuple #[.int .i64 n, .slice A rs.length c]) ∧ 1 ≤ n ∧ n ≤ 6 ∧ rs.length ≤ 9 ∧ rs.length ≤ c ∧ Lens 3 rs ∧ MGrid w' w.heap.size w'.heap.size A rs ∧ (∃ q, q ≤ p + 40 ∧ Rd w' g q) ∧ w.grownBy w' (some g)
theorem TS.ends {w wr : World} {g q p n : Nat} {H : Option Addr} {c : Nat} {hs : List Value} {rs : List (List Int)} (h : TS w wr g q H c hs rs) (h1 : 1 ≤ n) (h6 : n ≤ 6) (h9 : rs.length ≤ 9) (hq : q ≤ p + 40) :
    TownD w g p (.returned (.tuple #[.int .i64 n, .slice H rs.length c])) wr :=
  ⟨H, c, rs, n, rfl, h1, h6, h9, h.built.cap, h.lens, h.built.mgrid, ⟨q, hq, h.rd⟩, h.grown⟩

set_option maxRecDepth 100000 in
set_option maxHeartbeats 4000000 in
theorem someTown_any (g p : Nat) (w : World) (hrd : Rd w g p) (hp : p ≤ 1000) :
    Calls Try.prog 40 #[.pointer (some ⟨g, 0, none⟩)] w (TownD w g p) := by
  obtain ⟨i0, hi0, hz0, hz1, hz2⟩ := info_parts Try.infoR
  have hgl := hrd.lt
  go_enter Try.func40, Try.ntmps40
  go_wp2_with fail
  refine (one_lit g p w hrd (by omega) [4, 3, 5, 2, 1] (by decide) (by decide) 5 rfl _ rfl).mono ?_
  rintro e w1 ⟨nI, rfl, hk, hrd1, hg1⟩
  obtain ⟨n, hn, hn1, hn5⟩ : ∃ n : Nat, nI = (n : Int) ∧ 1 ≤ n ∧ n ≤ 5 := by simp at hk; exact ⟨nI.toNat, by omega, by omega, by omega⟩
  subst hn
  have HS := Lib.hid (TS.start w w1 g _ hg1 hrd1 hgl)
  clear hk hrd1 hg1 hrd
  go_wp2
  go_loopw [5, 6] (fun v i wr => ∃ k : Nat, 1 ≤ k ∧ k ≤ n ∧ i = .int .i64 k ∧ TSt w wr g (p + 2 * k) v (k - 1)) (fun _ i _ => n - (intOf i).toNat)
  case atStart => exact ⟨1, by omega, by omega, rfl, _, _, _, _, _, rfl, by simp, by omega, HS.out⟩
  case round =>
    obtain ⟨k, hk1, hkn, rfl, H, c, hs, rs, q, rfl, hl, hq, hTS⟩ := hrel
    clear HS
    have HT := Lib.hid hTS
    clear hTS
    by_cases hlt : k < n
    · skip
      go_wp2_with fail
      refine (pick_any g _ _ _ HT.out.rd (by omega) (by omega)).mono ?_
      rintro e w2 ⟨x, rfl, hx_x, hrd, hg⟩
      have HT2 := Lib.hid (HT.out.reads hg hrd)
      clear hrd hg
      clear hx_x
      go_wp2_with fail
      refine (pick_any g _ _ _ HT2.out.rd (by omega) (by omega)).mono ?_
      rintro e w3 ⟨y, rfl, hx_y, hrd, hg⟩
      have HT3 := Lib.hid (HT2.out.reads hg hrd)
      clear hrd hg
      have hy0 : 0 ≤ y := hx_y.1
      have hy1 : y < 9 := hx_y.2 (by omega)
      clear hx_y
      have hown_w4 := HT3.out.own (.cells #[.int .i64 x, .int .i64 (k : Int), .int .i64 (1 + y)] 3)
      have hz_w4 := HT3.out.size
      go_wp2_with (at_builtin; refine wpList_push_in rfl (.tmp 18) (.tmp 27) 22 rfl i0 (.slice none 0 0) 24 Try.underlying22 hi0 hz0 hz1 hz2 rfl (by decide) _ _ rfl hown_w4 [.slice (some ⟨w3.heap.size, 0, none⟩) 3 3] rfl _ (World.size_alloc _ _).symm rfl (by simp [Value.oneCell']) (by omega) (by omega) (by simp; omega) ?_)
      intro Hw4 cw4 w4 hown6 hg6 hat6
      have HTSw4 := Lib.hid (HT3.out.push hown6 hg6 (hat6.imp id (fun ⟨a, h1, h2⟩ => by rw [h1]; simp [h2])))
      clear hown_w4 hown6 hg6 hat6 hz_w4
      go_wp2
      go_roundw
      case rel => exact ⟨k + 1, by omega, by omega, by go_num, _, _, _, rs ++ [[x, (k : Int), 1 + y]], _, by simp, by simp; omega, by omega, HTSw4.out⟩
      case measure => simp [intOf]; omega
    · have hkn' : k = n := by omega
      go_wp2_with fail
      refine (pick_any g _ _ _ HT.out.rd (by omega) (by omega)).mono ?_
      rintro e w2 ⟨j0, rfl, hx_j0, hrd, hg⟩
      have HT2 := Lib.hid (HT.out.reads hg hrd)
      clear hrd hg
      obtain ⟨J, hJ, hJ3⟩ : ∃ J : Nat, j0 = (J : Int) ∧ J ≤ 3 := ⟨j0.toNat, by have := hx_j0.1; omega, by have := hx_j0.2 (by omega); omega⟩
      subst hJ
      clear hx_j0 hkn' hlt
      have hl4 : rs.length ≤ 4 := by omega
      clear hl hk1 
      have hqp : q + 1 ≤ p + 11 := by omega
      clear hq hkn HT
      go_wp2
      go_loopw [5, 7] (fun v i wr => ∃ j : Nat, j ≤ J ∧ i = .int .i64 j ∧ TSt w wr g (p + 20 - 3 * j) v (7 - j)) (fun _ i _ => (intOf i).toNat)
      case atStart => exact ⟨J, by omega, rfl, _, _, _, _, _, rfl, by omega, by omega, HT2.out⟩
      case round =>
        obtain ⟨j, hjJ, rfl, H, c, hs, rs, q, rfl, hl, hq, hTS⟩ := hrel
        clear HT2
        have HT := Lib.hid hTS
        clear hTS
        by_cases hj : 0 < j
        · skip
          go_wp2_with fail
          refine (pick_any g _ _ _ HT.out.rd (by omega) (by omega)).mono ?_
          rintro e w2 ⟨x, rfl, hx_x, hrd, hg⟩
          have HT2 := Lib.hid (HT.out.reads hg hrd)
          clear hrd hg
          clear hx_x
          go_wp2_with fail
          refine (pick_any g _ _ _ HT2.out.rd (by omega) (by omega)).mono ?_
          rintro e w3 ⟨z, rfl, hx_z, hrd, hg⟩
          have HT3 := Lib.hid (HT2.out.reads hg hrd)
          clear hrd hg
          clear hx_z
          go_wp2_with fail
          refine (pick_any g _ _ _ HT3.out.rd (by omega) (by omega)).mono ?_
          rintro e w4 ⟨y, rfl, hx_y, hrd, hg⟩
          have HT4 := Lib.hid (HT3.out.reads hg hrd)
          clear hrd hg
          have hy0 : 0 ≤ y := hx_y.1
          have hy1 : y < 9 := hx_y.2 (by omega)
          clear hx_y
          have hown_w5 := HT4.out.own (.cells #[.int .i64 x, .int .i64 z, .int .i64 (1 + y)] 3)
          have hz_w5 := HT4.out.size
          go_wp2_with (at_builtin; refine wpList_push_in rfl (.tmp 35) (.tmp 46) 22 rfl i0 (.slice none 0 0) 24 Try.underlying22 hi0 hz0 hz1 hz2 rfl (by decide) _ _ rfl hown_w5 [.slice (some ⟨w4.heap.size, 0, none⟩) 3 3] rfl _ (World.size_alloc _ _).symm rfl (by simp [Value.oneCell']) (by omega) (by omega) (by simp; omega) ?_)
          intro Hw5 cw5 w5 hown6 hg6 hat6
          have HTSw5 := Lib.hid (HT4.out.push hown6 hg6 (hat6.imp id (fun ⟨a, h1, h2⟩ => by rw [h1]; simp [h2])))
          clear hown_w5 hown6 hg6 hat6 hz_w5
          go_wp2
          go_roundw
          case rel => exact ⟨j - 1, by omega, by go_num, _, _, _, rs ++ [[x, z, 1 + y]], _, by simp, by simp; omega, by omega, HTSw5.out⟩
          case measure => simp [intOf]; omega
        · have hj0 : j = 0 := by omega
          subst hj0
          have hl7 : rs.length ≤ 7 := by omega
          have hq20 : q ≤ p + 20 := by omega
          clear hl hq hj hjJ
          go_wp2_with fail
          refine (pick_any g _ _ _ HT.out.rd (by omega) (by omega)).mono ?_
          rintro e w2 ⟨x, rfl, hx_x, hrd, hg⟩
          have HT2 := Lib.hid (HT.out.reads hg hrd)
          clear hrd hg
          clear hx_x HT
          go_upto_if 50 with fail
          go_cut [5] (fun s5 wx => TSt w wx g (p + 30) s5 8)
          case first =>
            by_cases hx0 : x = 0
            · subst hx0
              have HSB := Lib.hid (TS.start w w2 g _ HT2.out.grown HT2.out.rd hgl)
              go_wp2
              go_loopw [5, 8] (fun v i wr => ∃ k : Nat, k ≤ n ∧ i = .int .i64 k ∧ TSt w wr g (p + 21 + k) v k) (fun _ i _ => n - (intOf i).toNat)
              case atStart => exact ⟨0, by omega, rfl, _, _, _, _, _, rfl, by simp, by omega, HSB.out⟩
              case round =>
                obtain ⟨k, hkn, rfl, H, c, hs, rs, q, rfl, hl, hq, hTS⟩ := hrel
                clear HSB HT2
                have HT := Lib.hid hTS
                clear hTS
                by_cases hlt : k < n
                · go_wp2_with fail
                  have hkw : IntKind.i64.wrap ((k : Int) + 1) = (k : Int) + 1 := IntWalk.i64_in _ (by omega)
                  have hn0 : ¬ (n : Int) = 0 := by omega
                  have hn0' : ((n : Int) == 0) = false := beq_eq_false_iff_ne.2 hn0
                  have hnz : ¬ n = 0 := by omega
                  have HTD := Lib.hid (show TS w wr.drew g q H c hs rs from HT.out.reads (g_drew (World.grownBy.refl wr _)) (HT.out.rd.own (g_drew (World.grownBy.refl wr none)) (by simp)))
                  clear HT
                  go_region_law (first
                    | (go_simp; go_at_call 56; refine (pick_any g _ 9 _ HTD.out.rd (by omega) (by omega)).mono ?_; rintro e w3 ⟨y, rfl, hx_y, hrd, hg⟩; have HT3 := Lib.hid (HTD.out.reads hg hrd); have hy0 : 0 ≤ y := hx_y.1; have hy1 : y < 9 := hx_y.2 (by omega); have hz3 := HT3.out.size; clear hrd hg hx_y)
                    | (refine step_append_lies _ (by rfl) (.tmp 57) (.tmp 67) 22 (by rfl) w.heap.size 24 i0 (.slice none 0 0) 1 24 Try.underlying22 hi0 hz0 hz1 hz2 rfl (by decide) (.slice H rs.length c) rs.length hs (by rfl) ((HT3.out.own _).alloc _) ⟨w3.heap.size + 1, 0, none⟩ 1 1 [.slice (some ⟨w3.heap.size, 0, none⟩) 3 3] (by rfl) (by simp) (news1 _ _ _ (World.size_alloc _ _)) (fun u hu => by rw [List.mem_singleton.1 hu]; rfl) (by decide) (by unfold maxLen; omega) (by omega) (by simp; omega) (w3.heap.size + 1 + 1) (by simp) ?_; intro gN cN w4 hown4 hg4 hat4 _))
                  all_goals
                    have HTS4 := Lib.hid (HT3.out.push hown4 (grown_trans (World.grownBy_alloc _ _ _) hg4) (by
                      rcases hat4 with h | h
                      · rw [slice_block] at h; exact .inl h.symm
                      · exact .inr (by simp [h])))
                    clear hown4 hg4 hat4
                    go_wp2
                    go_roundw
                    case rel =>
                      (repeat apply Exists.intro)
                      exact ⟨⟨k + 1, by omega, by go_num, _, _, _, _, _, by rw [List.length_append]; rfl, by simp; omega, by omega, HTS4.out⟩, rfl⟩
                    case measure => simp [intOf]; omega
                · have hkn' : k = n := by omega
                  clear hlt
                  go_wp2_with fail
                  refine (pick_any g _ _ _ HT.out.rd (by omega) (by omega)).mono ?_
                  rintro e w3 ⟨z, rfl, hx_z, hrd, hg⟩
                  have HT3 := Lib.hid (HT.out.reads hg hrd)
                  clear hrd hg
                  clear HT
                  by_cases hz0 : z = 0
                  · subst hz0
                    clear hx_z
                    have hown_w5 := HT3.out.own (.cells #[.int .i64 0, .int .i64 0, .int .i64 2] 3)
                    have hz_w5 := HT3.out.size
                    go_wp2_with (at_builtin; refine wpList_push_in rfl (.tmp 72) (.tmp 74) 22 rfl i0 (.slice none 0 0) 24 Try.underlying22 hi0 hz0 hz1 hz2 rfl (by decide) _ _ rfl hown_w5 [.slice (some ⟨w3.heap.size, 0, none⟩) 3 3] rfl _ (World.size_alloc _ _).symm rfl (by simp [Value.oneCell']) (by omega) (by omega) (by simp; omega) ?_)
                    intro Hw5 cw5 w5 hown6 hg6 hat6
                    have HTSw5 := Lib.hid (HT3.out.push hown6 hg6 (hat6.imp id (fun ⟨a, h1, h2⟩ => by rw [h1]; simp [h2])))
                    clear hown_w5 hown6 hg6 hat6 hz_w5
                    go_wp2
                    go_meet
                    exact ⟨_, _, _, rs ++ [[0, 0, 2]], _, by simp, by simp; omega, by omega, HTSw5.out⟩
                  · have hz1' : (z == 0) = false := beq_eq_false_iff_ne.2 hz0
                    clear hz0 hx_z
                    go_wp2
                    go_meet
                    exact ⟨_, _, _, rs, _, rfl, by omega, by omega, HT3.out⟩
            · have hx1' : (x == 0) = false := beq_eq_false_iff_ne.2 hx0
              clear hx0
              go_wp2
              go_meet
              exact ⟨_, _, _, rs, _, rfl, by omega, by omega, HT2.out⟩
          case rest =>
            obtain ⟨H, c, hs, rs, q, rfl, hl, hq, hTS⟩ := hcut
            have HT := Lib.hid hTS
            clear hTS HT2
            go_wp2_with fail
            refine (pick_any g _ _ _ HT.out.rd (by omega) (by omega)).mono ?_
            rintro e w3 ⟨y, rfl, hx_y, hrd, hg⟩
            have HT3 := Lib.hid (HT.out.reads hg hrd)
            clear hrd hg
            clear HT
            by_cases hy0 : y = 0
            · subst hy0
              clear hx_y
              have hown_w5 := HT3.out.own (.cells #[.int .i64 0, .int .i64 (n : Int), .int .i64 1] 3)
              have hz_w5 := HT3.out.size
              go_wp2_with (at_builtin; refine wpList_push_in rfl (.tmp 80) (.tmp 83) 22 rfl i0 (.slice none 0 0) 24 Try.underlying22 hi0 hz0 hz1 hz2 rfl (by decide) _ _ rfl hown_w5 [.slice (some ⟨w3.heap.size, 0, none⟩) 3 3] rfl _ (World.size_alloc _ _).symm rfl (by simp [Value.oneCell']) (by omega) (by omega) (by simp; omega) ?_)
              intro Hw5 cw5 w5 hown6 hg6 hat6
              have HTSw5 := Lib.hid (HT3.out.push hown6 hg6 (hat6.imp id (fun ⟨a, h1, h2⟩ => by rw [h1]; simp [h2])))
              clear hown_w5 hown6 hg6 hat6 hz_w5
              have HF := Lib.hid (show TownD w g p (.returned (.tuple #[.int .i64 n, .slice Hw5 (rs.length + 1) cw5])) w5 from by have h := HTSw5.out.ends (n := n) (p := p) hn1 (by omega) (by simp; omega) (by omega); rwa [List.length_append] at h)
              go_wp2
              go_ret2
              exact HF.out
            · have hy0' : (y == 0) = false := beq_eq_false_iff_ne.2 hy0
              by_cases hy1 : y = 1
              · subst hy1
                clear hy0 hx_y
                have HF := Lib.hid (HT3.out.ends (n := n + 1) (p := p) (by omega) (by omega) (by omega) (by omega))
                go_wp2
                go_ret2
                exact HF.out
              · have hy1' : (y == 1) = false := beq_eq_false_iff_ne.2 hy1
                have HF := Lib.hid (HT3.out.ends (n := n) (p := p) hn1 (by omega) (by omega) (by omega))
                clear hy0 hy1 hx_y
                go_wp2
                go_ret2
                exact HF.out
end Go.Proofs.Ytjklnknlifpidaa
