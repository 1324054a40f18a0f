/- Rules that are drawn. No condition. -/
import Derived.Test.YtphfolmhlcmbjaaDoorX2
import Derived.Test.YtphfolmhlcmbjaaDoorRo
import Derived.Test.YtphfolmhlcmbjaaDoorX0
import Derived.Laws.Concat
import Derived.Deep.DeepCutAuto
namespace Go.Proofs.YtphfolmhlcmbjaaDoor
open Go.RowKit

theorem own_rowU {w : World} {base : Nat} {e : TypeId} {n c s : Nat} {A : Option Addr} {xs : List Value} (h : w.ownsRow base e s (.slice A n c) n xs) : Own w (base + 1) w.heap.size A xs := by
  have hlt := h.lt
  obtain ⟨hlen, hx⟩ := h
  rcases hx with ⟨hv, hn⟩ | ⟨g, cap, cur, hv, hg, hh, hnc, _, hcs, htake⟩
  · exact .inl (List.eq_nil_of_length_eq_zero (by rw [hlen, hn, Nat.zero_mul]))
  · simp only [Value.slice.injEq] at hv
    obtain ⟨rfl, _, rfl⟩ := hv
    refine .inr ⟨g, 0, rfl, by omega, (hlt g rfl).2, fun j u hu => ?_, fun _ j => ?_⟩
    · rw [cell_of_row w g (0 + j) cur e (0, 0) hh]
      rw [← htake] at hu
      have : j < n * s := by
        have := (List.getElem?_eq_some_iff.1 hu).1
        simp only [List.length_take] at this
        omega
      rw [List.getElem?_take, if_pos this] at hu
      simpa using hu
    · exact frozen_of_row w g j cur e hh

theorem one_atU (g p : Nat) (w : World) (hrd : Rd w g p) (hp : p ≤ 1000000) (zs : List Int) (hz : 0 < zs.length) (hl : zs.length ≤ 1000000) (n a : Nat) (hn : zs.length = n) (ha : a = w.heap.size) (vs : Array Value) (hvs : vs = (zs.map (Value.int .i64)).toArray) :
    Calls Tryd.prog 44 #[.pointer (some ⟨g, 0, none⟩), .slice (some ⟨a, 0, none⟩) n n] (w.alloc (.cells vs 3)) fun e w' => ∃ k : Int, e = .returned (.int .i64 k) ∧ k ∈ zs ∧ Rd w' g (p + 1) ∧ w.grownBy w' (some g) := by
  subst ha
  exact one_lit g p w hrd hp zs hz hl n hn vs hvs

def ShortU (rs : List (ByteArray × Int)) : Prop := ∀ r ∈ rs, r.1.size ≤ 5
theorem ShortU.push {rs : List (ByteArray × Int)} {r : ByteArray × Int} (h : ShortU rs) (hr : r.1.size ≤ 5) : ShortU (rs ++ [r]) := fun x hx => by
  rcases List.mem_append.1 hx with hx | hx
  · exact h x hx
  · simp at hx; rw [hx]; exact hr

/-- The list of rules while it is drawn. -/
def DrwU (w wr : World) (g p : Nat) (H : Option Addr) (c : Nat) (rs : List (ByteArray × Int)) : Prop :=
  wr.ownsRow w.heap.size 31 2 (.slice H rs.length c) rs.length (flat rs) ∧ ShortU rs ∧ (∃ q, q ≤ p + 1 + 7 * rs.length ∧ Rd wr g q) ∧ w.grownBy wr (some g)

set_option maxRecDepth 100000 in
set_option maxHeartbeats 4000000 in
theorem someRules_any (g p : Nat) (w : World) (hrd : Rd w g p) (hp : p ≤ 1000) :
    Calls Tryd.prog 40 #[.pointer (some ⟨g, 0, none⟩)] w fun e w' => ∃ (A : Option Addr) (c : Nat) (rs : List (ByteArray × Int)),
      e = .returned (.slice A rs.length c) ∧ rs.length ≤ 8 ∧ rs.length ≤ c ∧ ShortU rs ∧ Own w' (w.heap.size + 1) w'.heap.size A (flat rs) ∧ (∃ q, q ≤ p + 100 ∧ Rd w' g q) ∧ w.grownBy w' (some g) := by
  obtain ⟨i0, hi0, hz0, hz1, hz2⟩ := info_parts Tryd.infoU
  have hgl := hrd.lt
  have hga : w.grownBy (w.alloc (.cells #[] 31)) (some g) := World.grownBy_alloc w _ _
  have hrda : Rd (w.alloc (.cells #[] 31)) g p := hrd.own (World.grownBy_alloc w _ none) (by simp)
  have hst : (w.alloc (.cells #[] 31)).ownsRow w.heap.size 31 2 (.slice (some ⟨w.heap.size, 0, none⟩) 0 0) 0 [] := World.ownsRow_lit w #[] 0 (Nat.le_refl _) (by simp [maxLen]) rfl
  have HST := Lib.hid (And.intro hst hga)
  clear hga hst
  go_enter Tryd.func40, Tryd.ntmps40
  go_wp2_with fail
  refine (one_atU g p (w.alloc (.cells #[] 31)) hrda (by omega) [4, 3, 5, 6, 2, 7, 0] (by decide) (by decide) 7 _ rfl (by simp) _ rfl).mono ?_
  rintro e w1 ⟨k, rfl, hk, hrd1, hg1⟩
  have hkb : 0 ≤ k ∧ k ≤ 7 := by simp at hk; omega
  obtain ⟨hk0, hk8⟩ := hkb
  obtain ⟨N, rfl⟩ := Int.eq_ofNat_of_zero_le hk0
  have HB1 := Lib.hid (show DrwU w w1 g p (some ⟨w.heap.size, 0, none⟩) 0 [] from ⟨HST.out.1.kept hg1 (own_ne HST.out.1 hgl), fun r hr => by simp at hr, ⟨p + 1, by simp, hrd1⟩, grown_trans HST.out.2 hg1⟩)
  clear hk hrd1 hg1 HST hrda
  go_wp2
  go_loopw [3] (fun v wr => ∃ (H : Option Addr) (c : Nat) (rs : List (ByteArray × Int)), v = .slice H rs.length c ∧ rs.length ≤ N ∧ DrwU w wr g p H c rs)
    (fun v _ => N - (match v with | .slice _ m _ => m | _ => 0))
  case atStart => exact ⟨_, 0, [], rfl, by simp, HB1.out⟩
  case round =>
    obtain ⟨H, c, rs, rfl, hl, hdr⟩ := hrel
    clear HB1
    have HDR := Lib.hid hdr
    have hl8 : rs.length ≤ 8 := by omega
    obtain ⟨hown, hsh, ⟨q, hq, hrdq⟩, hgr⟩ := hdr
    obtain ⟨W, hW⟩ : ∃ W : World, W = wr := ⟨_, rfl⟩
    subst hW
    by_cases hlt : rs.length < N
    · have HOW := Lib.hid (And.intro hown hgr)
      have hgz := hgr.size
      clear hown hgr hsh
      go_wp2_with fail
      refine (one_atU g q W hrdq (by omega) [1, 2, 0, 3, 2, 4] (by decide) (by decide) 6 _ rfl rfl _ rfl).mono ?_
      rintro e w2 ⟨k, rfl, hk, hrd2, hg2⟩
      have hkb : 0 ≤ k ∧ k ≤ 4 := by simp at hk; omega
      obtain ⟨hk0, hk4⟩ := hkb
      obtain ⟨K, rfl⟩ := Int.eq_ofNat_of_zero_le hk0
      have HF := Lib.hid (And.intro (HOW.out.1.kept hg2 (own_ne HOW.out.1 hgl)) (grown_trans HOW.out.2 hg2))
      clear hk hrdq hg2
      go_wp2
      go_loopw [5, 6] (fun v i wx => ∃ (s : ByteArray) (m : Nat), v = .string s ∧ i = .int .i64 m ∧ s.size + m ≤ 4 ∧ wx.ownsRow w.heap.size 31 2 (.slice H rs.length c) rs.length (flat rs) ∧ (∃ q2, q2 + m ≤ q + 5 ∧ Rd wx g q2) ∧ w.grownBy wx (some g)) (fun _ i _ => (intOf i).toNat)
      case atStart => exact ⟨ByteArray.empty, K, rfl, rfl, by have : ByteArray.empty.size = 0 := rfl; omega, HF.out.1, ⟨q + 1, by omega, hrd2⟩, HF.out.2⟩
      case round =>
        clear HF hrd2
        obtain ⟨t, i, rfl, rfl, hts, hown, ⟨q2, hq2, hrd2⟩, hgr⟩ := hrel
        have HOW2 := Lib.hid (And.intro hown hgr)
        have hgz2 := hgr.size
        clear hgr
        by_cases hip : 0 < i
        · obtain ⟨i', hi'⟩ : ∃ i', i = i' + 1 := ⟨i - 1, by omega⟩
          have hii : (i : Int) - 1 = (i' : Int) := by omega
          have HI := Lib.hid hi'
          have ht4 : t.size ≤ 4 := by omega
          clear hown hi'
          go_wp2_with fail
          refine (of_mem g q2 wr hrd2 (by omega) [⟨#[97]⟩, ⟨#[98]⟩] (by decide) (by decide) 2 _ rfl rfl _ rfl).mono ?_
          rintro e w3 ⟨x, rfl, hx, hrd3, hg3⟩
          have hx1 : x.size = 1 := by simp at hx; rcases hx with rfl | rfl <;> rfl
          have HX := Lib.hid hx1
          have HF := Lib.hid (And.intro (HOW2.out.1.kept hg3 (own_ne HOW2.out.1 hgl)) (And.intro hrd3 (grown_trans HOW2.out.2 hg3)))
          have hx2 : x.size ≤ 1 := by omega
          clear hx hx1 hrd2 hrd3 hg3
          go_wp2
          go_roundw
          case rel =>
            refine ⟨_, i', rfl, ?_, ?_, HF.out.1, ⟨q2 + 1, by have := HI.out; omega, HF.out.2.1⟩, HF.out.2.2⟩
            · rfl
            · rw [ByteArray.size_append]; have := HI.out; omega
          case measure => have := HI.out; simp [intOf]; omega
        · have hd0 : decide (0 < i) = false := decide_eq_false hip
          have ht5 : t.size ≤ 4 := by omega
          have HT5 := Lib.hid ht5
          go_wp2_with fail
          refine (pick_any g q2 3 _ hrd2 (by omega) (by omega)).mono ?_
          rintro e w4 ⟨z, rfl, _, hrd4, hg4⟩
          have hown4 := HOW2.out.1.kept hg4 (own_ne HOW2.out.1 hgl)
          have HG4 := Lib.hid (grown_trans HOW2.out.2 hg4)
          clear hg4 hrd2 hown
          go_wp2_with (at_builtin; refine wpList_push rfl (.tmp 27) (.tmp 32) 23 rfl i0 (.agg #[.string ⟨#[]⟩, .int .i64 0]) 24 Tryd.underlying23 hi0 hz0 hz1 hz2 rfl (by decide) _ _ rfl hown4 [.string t, .int .i64 z] rfl rfl (by simp [Value.oneCell']) (by omega) (by omega) HG4.out.size ?_)
          intro H' c' w6 hown6 hg6
          have hrd6 := hrd4.own hg6 (fun i hi => by have := (hown4.lt _ hi).1; omega)
          have HF := Lib.hid (And.intro hown6 (And.intro hrd6 (grown_own HG4.out hg6 (fun i hi => (hown4.lt _ hi).1))))
          clear hown4 hown6 hg6 hrd4 hrd6
          go_wp2
          go_roundw
          case rel =>
            exact ⟨H', c', rs ++ [(t, z)], by simp, by simp; omega, by rw [flat_append, List.length_append]; exact HF.out.1, HDR.out.2.1.push (by have := HT5.out; simp; omega), ⟨_, by simp; omega, HF.out.2.1⟩, HF.out.2.2⟩
          case measure => simp; omega
    · have hN : N = rs.length := by omega
      have hdN : ¬ (rs.length : Int) < (N : Int) := by omega
      have HOW := Lib.hid (And.intro hown hgr)
      have hcap := own_cap hown
      have hgz := hgr.size
      by_cases h0 : rs.length = 0
      · have hd : decide (0 < rs.length) = false := decide_eq_false (by omega)
        have HSH := Lib.hid hsh
        have HQ := Lib.hid (And.intro hq hrdq)
        clear h0 hgr hown hsh hN
        go_wp2
        go_ret
        exact ⟨H, c, rs, rfl, hl8, hcap, HSH.out, own_rowU HOW.out.1, ⟨q, by have := HQ.out.1; omega, HQ.out.2⟩, HOW.out.2⟩
      · have hpos : 0 < rs.length := by omega
        have hd : decide (0 < rs.length) = true := decide_eq_true hpos
        have HSH := Lib.hid hsh
        obtain ⟨gH, rfl, hgH, _⟩ := own_some hown hpos
        clear h0 hgr hown hsh hN
        go_wp2_with fail
        refine (pick_any g q 30 _ hrdq (by omega) (by omega)).mono ?_
        rintro e w2 ⟨y, rfl, _, hrd2, hg2⟩
        have hown2 := HOW.out.1.kept hg2 (own_ne HOW.out.1 hgl)
        have HO2 := Lib.hid (And.intro (own_rowU hown2) (grown_trans HOW.out.2 hg2))
        clear hown2 hg2 hrdq
        by_cases hy0 : y = 0
        · subst hy0
          go_wp2_with fail
          refine (of_mem g _ w2 hrd2 (by omega) [⟨#[99]⟩, ⟨#[97, 98, 97, 98, 97]⟩] (by decide) (by decide) 2 _ rfl rfl _ rfl).mono ?_
          rintro e w3 ⟨x, rfl, hx, hrd3, hg3⟩
          have HX5 := Lib.hid (show x.size ≤ 5 by simp at hx; rcases hx with rfl | rfl <;> decide)
          have ho3 := (HO2.out.1.apart (Nat.le_refl _) hg3 (fun i hi => by injection hi with hi; omega)).more hg3.size
          have HG3 := Lib.hid (grown_trans HO2.out.2 hg3)
          obtain ⟨b', o', e, _, hb3, hcc, hf⟩ := ho3.open' (by omega) (by rw [flat_length]; omega)
          simp only [Option.some.injEq, Addr.mk.injEq, and_true] at e
          obtain ⟨rfl, rfl⟩ := e
          obtain ⟨hc1, hc2⟩ := routes_at hcc hpos
          have hf1 := hf 0
          simp only [Nat.zero_mul, Nat.zero_add] at hc1 hc2
          have HO3 := Lib.hid ho3
          have HRD3 := Lib.hid hrd3
          clear hcc hf ho3 hg3 hrd2 hx hrd3
          go_wp2
          go_ret
          have hset := HO3.out.set 0 (.string x)
          obtain ⟨r, rs', rfl⟩ : ∃ r rs', rs = r :: rs' := by
            cases rs with
            | nil => simp at hpos
            | cons r rs' => exact ⟨r, rs', rfl⟩
          have hfl : (flat (r :: rs')).set 0 (.string x) = flat ((x, r.2) :: rs') := by simp [flat]
          rw [hfl] at hset
          refine ⟨some ⟨gH, 0, none⟩, c, (x, r.2) :: rs', rfl, hl8, hcap, fun z hz => ?_, hset.more (by simp [World.setCell]), ⟨_, ?_, HRD3.out.own (g_set (World.grownBy.refl w3 (some gH)) 0 (.string x)) (fun i hi => by injection hi with hi; omega)⟩, grown_own HG3.out (g_set (World.grownBy.refl w3 (some gH)) 0 (.string x)) (fun i hi => by injection hi with hi; omega)⟩
          · rcases List.mem_cons.1 hz with rfl | hz
            · exact HX5.out
            · exact HSH.out z (by simp [hz])
          · omega
        · have hyy : (y == 0) = false := beq_eq_false_iff_ne.2 hy0
          clear hy0
          go_wp2
          go_ret
          exact ⟨_, c, rs, rfl, hl8, hcap, HSH.out, HO2.out.1, ⟨_, by omega, hrd2⟩, HO2.out.2⟩
end Go.Proofs.YtphfolmhlcmbjaaDoor
