/- Routes that are drawn. No condition. -/
import Derived.Test.YtlmcclbikljbhaaQ2
import Derived.Test.YtlmcclbikljbhaaRo
import Derived.Test.YtlmcclbikljbhaaC2
import Derived.Deep.DeepCutAuto
namespace Go.Proofs.Ytlmcclbikljbhaa
open Go.RowKit

theorem own_rowS {w : World} {base : Nat} {e : TypeId} {n c s : Nat} {A : Option Addr} {xs : List Value} (h : w.ownsRow base e s (.slice A n c) n xs) : Own w (base + 1) w.heap.size A xs := by
  have hlt := h.lt
  obtain ⟨hlen, hx⟩ := h
  rcases hx with ⟨hv, hn⟩ | ⟨g, cap, cur, hv, hg, hh, hnc, _, hcs, htake⟩
  · exact .inl (List.eq_nil_of_length_eq_zero (by rw [hlen, hn, Nat.zero_mul]))
  · simp only [Value.slice.injEq] at hv
    obtain ⟨rfl, _, rfl⟩ := hv
    refine .inr ⟨g, 0, rfl, by omega, (hlt g rfl).2, fun j u hu => ?_, fun _ j => ?_⟩
    · rw [cell_of_row w g (0 + j) cur e (0, 0) hh]
      rw [← htake] at hu
      have : j < n * s := by
        have := (List.getElem?_eq_some_iff.1 hu).1
        simp only [List.length_take] at this
        omega
      rw [List.getElem?_take, if_pos this] at hu
      simpa using hu
    · exact frozen_of_row w g j cur e hh

theorem one_atQ (g p : Nat) (w : World) (hrd : Rd w g p) (hp : p ≤ 1000000) (zs : List Int) (hz : 0 < zs.length) (hl : zs.length ≤ 1000000) (n a : Nat) (hn : zs.length = n) (ha : a = w.heap.size) (vs : Array Value) (hvs : vs = (zs.map (Value.int .i64)).toArray) :
    Calls Try.prog 87 #[.pointer (some ⟨g, 0, none⟩), .slice (some ⟨a, 0, none⟩) n n] (w.alloc (.cells vs 3)) fun e w' => ∃ k : Int, e = .returned (.int .i64 k) ∧ k ∈ zs ∧ Rd w' g (p + 1) ∧ w.grownBy w' (some g) := by
  subst ha
  exact one_lit g p w hrd hp zs hz hl n hn vs hvs

def Short (rs : List (ByteArray × Int)) : Prop := ∀ r ∈ rs, r.1.size ≤ 4
theorem Short.push {rs : List (ByteArray × Int)} {r : ByteArray × Int} (h : Short rs) (hr : r.1.size ≤ 4) : Short (rs ++ [r]) := fun x hx => by
  rcases List.mem_append.1 hx with hx | hx
  · exact h x hx
  · simp at hx; rw [hx]; exact hr

/-- The list of routes while it is drawn. -/
def Drw (w wr : World) (g p : Nat) (H : Option Addr) (c : Nat) (rs : List (ByteArray × Int)) (m : Nat) : Prop :=
  wr.ownsRow w.heap.size 38 2 (.slice H rs.length c) rs.length (flat rs) ∧ Short rs ∧ (∃ q, q + 9 * m ≤ p + 80 ∧ Rd wr g q) ∧ w.grownBy wr (some g)

set_option maxRecDepth 100000 in
set_option maxHeartbeats 4000000 in
theorem someRoutes_any (g p : Nat) (w : World) (hrd : Rd w g p) (hp : p ≤ 1000) :
    Calls Try.prog 65 #[.pointer (some ⟨g, 0, none⟩)] w fun e w' => ∃ (A : Option Addr) (c : Nat) (rs : List (ByteArray × Int)),
      e = .returned (.slice A rs.length c) ∧ rs.length ≤ 8 ∧ rs.length ≤ c ∧ Short rs ∧ Own w' (w.heap.size + 1) w'.heap.size A (flat rs) ∧ (∃ q, q ≤ p + 100 ∧ Rd w' g q) ∧ w.grownBy w' (some g) := by
  obtain ⟨i0, hi0, hz0, hz1, hz2⟩ := info_parts Try.infoQ
  have hgl := hrd.lt
  have hga : w.grownBy (w.alloc (.cells #[] 38)) (some g) := World.grownBy_alloc w _ _
  have hrda : Rd (w.alloc (.cells #[] 38)) g p := hrd.own (World.grownBy_alloc w _ none) (by simp)
  have hst : (w.alloc (.cells #[] 38)).ownsRow w.heap.size 38 2 (.slice (some ⟨w.heap.size, 0, none⟩) 0 0) 0 [] := World.ownsRow_lit w #[] 0 (Nat.le_refl _) (by simp [maxLen]) rfl
  have HST := Lib.hid (And.intro hst hga)
  clear hga hst
  go_enter Try.func65, Try.ntmps65
  go_wp2_with fail
  refine (one_atQ g p (w.alloc (.cells #[] 38)) hrda (by omega) [4, 3, 5, 6, 2, 8, 0] (by decide) (by decide) 7 _ rfl (by simp) _ rfl).mono ?_
  rintro e w1 ⟨k, rfl, hk, hrd1, hg1⟩
  have hkb : 0 ≤ k ∧ k ≤ 8 := by simp at hk; omega
  obtain ⟨hk0, hk8⟩ := hkb
  obtain ⟨n, rfl⟩ := Int.eq_ofNat_of_zero_le hk0
  have HB1 := Lib.hid (show Drw w w1 g p (some ⟨w.heap.size, 0, none⟩) 0 [] n from ⟨HST.out.1.kept hg1 (own_ne HST.out.1 hgl), fun r hr => by simp at hr, ⟨p + 1, by omega, hrd1⟩, grown_trans HST.out.2 hg1⟩)
  clear hk hrd1 hg1 HST hrda
  go_wp2
  go_loopw [3, 4] (fun v m wr => ∃ (H : Option Addr) (c : Nat) (rs : List (ByteArray × Int)) (j : Nat), v = .slice H rs.length c ∧ m = .int .i64 j ∧ rs.length + j ≤ 8 ∧ Drw w wr g p H c rs j)
    (fun _ m _ => (intOf m).toNat)
  case atStart => exact ⟨_, 0, [], n, rfl, rfl, by simp; omega, HB1.out⟩
  case round =>
    obtain ⟨H, c, rs, j, rfl, rfl, hl, hdr⟩ := hrel
    clear HB1
    have HDR := Lib.hid hdr
    have hl8 : rs.length ≤ 8 := by omega
    clear hdr
    by_cases hj : 0 < j
    · obtain ⟨j', hj'⟩ : ∃ j', j = j' + 1 := ⟨j - 1, by omega⟩
      have HJ := Lib.hid hj'
      clear hj'
      go_upto_region 6 with fail
      go_cut [24] (fun s24 wx => ∃ b : Bool, s24 = .bool b ∧ (b = true → 0 < rs.length) ∧ wx.ownsRow w.heap.size 38 2 (.slice H rs.length c) rs.length (flat rs) ∧ (∃ q, q + 9 * j ≤ p + 81 ∧ Rd wx g q) ∧ w.grownBy wx (some g))
      case first =>
        obtain ⟨hown, hsh, ⟨q, hq, hrdq⟩, hgr⟩ := HDR.out
        have HOW := Lib.hid (And.intro hown hgr)
        by_cases h0 : rs.length = 0
        · have hd : decide (0 < rs.length) = false := decide_eq_false (by omega)
          clear h0 hown hgr hsh
          go_wp2
          go_meet
          exact ⟨false, rfl, by simp, HOW.out.1, ⟨q, by omega, hrdq⟩, HOW.out.2⟩
        · have hd : decide (0 < rs.length) = true := decide_eq_true (by omega)
          have H0 := Lib.hid h0
          clear h0 hown hgr hsh
          go_wp2_with fail
          refine (pick_any g q 2 _ hrdq (by omega) (by omega)).mono ?_
          rintro e w2 ⟨y, rfl, _, hrd2, hg2⟩
          have HF := Lib.hid (And.intro (HOW.out.1.kept hg2 (own_ne HOW.out.1 hgl)) (And.intro hrd2 (grown_trans HOW.out.2 hg2)))
          obtain ⟨b, hb⟩ : ∃ b, (y == 0) = b := ⟨_, rfl⟩
          clear hrdq hrd2 hg2
          go_wp2
          go_meet
          exact ⟨b, by rw [← hb], fun _ => by have := H0.out; omega, HF.out.1, ⟨q + 1, by omega, HF.out.2.1⟩, HF.out.2.2⟩
      case rest =>
        obtain ⟨b, rfl, hbp, hcut⟩ := hcut
        have HC := Lib.hid hcut
        clear hcut
        go_upto_if 24 with fail
        go_cut [5] (fun s5 wx => ∃ s : ByteArray, s5 = .string s ∧ s.size ≤ 4 ∧ wx.ownsRow w.heap.size 38 2 (.slice H rs.length c) rs.length (flat rs) ∧ (∃ q, q + 9 * j ≤ p + 82 ∧ Rd wx g q) ∧ w.grownBy wx (some g))
        case first =>
          cases b with
          | false =>
            go_wp2
            go_meet
            obtain ⟨h1, ⟨q, hq, h2⟩, h3⟩ := HC.out
            exact ⟨ByteArray.empty, rfl, by decide, h1, ⟨q, by omega, h2⟩, h3⟩
          | true =>
            have hpos := hbp rfl
            obtain ⟨h1, ⟨q, hq, hrdq⟩, h3⟩ := HC.out
            have HOW := Lib.hid (And.intro h1 h3)
            clear h1 h3
            go_wp2_with fail
            refine (pick_any g q _ _ hrdq (by omega) (by omega)).mono ?_
            rintro e w2 ⟨y, rfl, hy, hrd2, hg2⟩
            obtain ⟨k, rfl⟩ := Int.eq_ofNat_of_zero_le hy.1
            have hkl : k < rs.length := by have := hy.2 (by omega); omega
            have hown2 := HOW.out.1.kept hg2 (own_ne HOW.out.1 hgl)
            obtain ⟨bo, oo, rfl, hbo, hcc⟩ := (own_rowS hown2).open (by rw [flat_length]; omega)
            obtain ⟨hc1, hc2⟩ := routes_at hcc hkl
            have hsz := HDR.out.2.1 _ (List.getElem_mem hkl)
            obtain ⟨t, ht⟩ : ∃ t, rs[k].1 = t := ⟨_, rfl⟩
            rw [ht] at hc1 hsz
            have HF := Lib.hid (And.intro hown2 (And.intro hrd2 (grown_trans HOW.out.2 hg2)))
            have hkI : (k : Int) < rs.length := by omega
            clear hy hcc hown2 hrdq hrd2 hg2 ht
            go_wp2
            go_meet
            exact ⟨t, rfl, hsz, HF.out.1, ⟨q + 1, by omega, HF.out.2.1⟩, HF.out.2.2⟩
        case rest =>
          obtain ⟨s, rfl, hsz, hown, ⟨q, hq, hrdq⟩, hgr⟩ := hcut
          clear HC hbp
          have HOW := Lib.hid (And.intro hown hgr)
          clear hown hgr
          go_wp2_with fail
          refine (pick_any g q 3 _ hrdq (by omega) (by omega)).mono ?_
          rintro e w2 ⟨y, rfl, hy, hrd2, hg2⟩
          have hyb := hy.2 (by omega)
          obtain ⟨m, rfl⟩ := Int.eq_ofNat_of_zero_le hy.1
          have hm2 : m ≤ 2 := by omega
          have HF := Lib.hid (And.intro (HOW.out.1.kept hg2 (own_ne HOW.out.1 hgl)) (And.intro hrd2 (grown_trans HOW.out.2 hg2)))
          clear hy hyb hrdq hrd2 hg2 HOW
          go_wp2
          go_loopw [5, 6] (fun v i wx => ∃ (s : ByteArray) (m : Nat), v = .string s ∧ i = .int .i64 m ∧ s.size ≤ 4 ∧ m ≤ 2 ∧ wx.ownsRow w.heap.size 38 2 (.slice H rs.length c) rs.length (flat rs) ∧ (∃ q, q + 9 * j + m ≤ p + 85 ∧ Rd wx g q) ∧ w.grownBy wx (some g)) (fun _ i _ => (intOf i).toNat)
          case atStart => exact ⟨s, m, rfl, rfl, hsz, hm2, HF.out.1, ⟨q + 1, by omega, HF.out.2.1⟩, HF.out.2.2⟩
          case round =>
            clear HF hsz hm2
            obtain ⟨t, i, rfl, rfl, hts, him, hown, ⟨q2, hq2, hrd2⟩, hgr⟩ := hrel
            have HOW := Lib.hid (And.intro hown hgr)
            clear hown hgr
            by_cases hgo : 0 < i ∧ t.size < 4
            · obtain ⟨hi0, ht4⟩ := hgo
              go_wp2_with fail
              refine (of_mem g q2 wr hrd2 (by omega) [⟨#[49]⟩, ⟨#[50]⟩, ⟨#[48]⟩] (by decide) (by decide) 3 _ rfl rfl _ rfl).mono ?_
              rintro e w3 ⟨x, rfl, hx, hrd3, hg3⟩
              have hx1 : x.size = 1 := by simp at hx; rcases hx with rfl | rfl | rfl <;> rfl
              have HX := Lib.hid hx1
              have HF := Lib.hid (And.intro (HOW.out.1.kept hg3 (own_ne HOW.out.1 hgl)) (And.intro hrd3 (grown_trans HOW.out.2 hg3)))
              have hx2 : x.size ≤ 1 := by omega
              obtain ⟨i', hi'⟩ : ∃ i', i = i' + 1 := ⟨i - 1, by omega⟩
              have hii : (i : Int) - 1 = (i' : Int) := by omega
              have HI := Lib.hid hi'
              clear hx hx1 hrd2 hrd3 hg3 hi'
              go_wp2
              go_roundw
              case rel =>
                refine ⟨_, i', rfl, ?_, ?_, by have := HI.out; omega, HF.out.1, ⟨q2 + 1, by have := HI.out; omega, HF.out.2.1⟩, HF.out.2.2⟩
                · rfl
                · rw [ByteArray.size_append]; omega
              case measure => have := HI.out; simp [intOf]; omega
            · by_cases hi0 : 0 < i
              · have ht4 : t.size = 4 := by omega
                have hd1 : 0 < i := hi0
                have hge : 4 ≤ t.size := by omega
                clear hgo hi0 ht4
                go_wp2
                go_loop [7, 8] (fun v k => ∃ (b : Bool) (n : Nat), v = .bool b ∧ k = .int .i64 n ∧ n ≤ rs.length) (fun _ k => rs.length - (intOf k).toNat)
                case atStart => exact ⟨false, 0, rfl, rfl, by omega⟩
                case round =>
                  obtain ⟨b, n, rfl, rfl, hn⟩ := hrel
                  by_cases hlt : n < rs.length
                  · cases b with
                    | true =>
                      go_wp2
                      go_round
                      case rel => exact ⟨true, n + 1, rfl, by go_num, by omega⟩
                      case measure => simp [intOf]; omega
                    | false =>
                      obtain ⟨bo, oo, rfl, hbo, hcc⟩ := (own_rowS HOW.out.1).open (by rw [flat_length]; omega)
                      obtain ⟨hc1, hc2⟩ := routes_at hcc hlt
                      obtain ⟨t2, ht2⟩ : ∃ t2, rs[n].1 = t2 := ⟨_, rfl⟩
                      rw [ht2] at hc1
                      clear hcc ht2
                      go_wp2
                      go_round
                      case rel => exact ⟨_, n + 1, rfl, by go_num, by omega⟩
                      case measure => simp [intOf]; omega
                  · have hjj : (j : Int) - 1 = (j' : Int) := by have := HJ.out; omega
                    cases b with
                    | false =>
                      go_wp2_with fail
                      refine (pick_any g q2 3 _ hrd2 (by omega) (by omega)).mono ?_
                      rintro e w4 ⟨z, rfl, _, hrd4, hg4⟩
                      have hown4 := HOW.out.1.kept hg4 (own_ne HOW.out.1 hgl)
                      have HG4 := Lib.hid (grown_trans HOW.out.2 hg4)
                      clear hg4 hrd2
                      go_wp2_with (at_builtin; refine wpList_push rfl (.tmp 72) (.tmp 77) 31 rfl i0 (.agg #[.string ⟨#[]⟩, .int .i64 0]) 24 Try.underlying31 hi0 hz0 hz1 hz2 rfl (by decide) _ _ rfl hown4 [.string t, .int .i64 z] rfl rfl (by simp [Value.oneCell']) (by omega) (by omega) HG4.out.size ?_)
                      intro H' c' w6 hown6 hg6
                      have hrd6 := hrd4.own hg6 (fun i hi => by have := (hown4.lt _ hi).1; omega)
                      have HF := Lib.hid (And.intro hown6 (And.intro hrd6 (grown_own HG4.out hg6 (fun i hi => (hown4.lt _ hi).1))))
                      clear hown4 hown6 hg6 hrd4 hrd6
                      go_wp2
                      go_roundw
                      case rel => exact ⟨H', c', rs ++ [(t, z)], j', by simp, by rw [← hjj], by simp; have := HJ.out; omega, by rw [flat_append, List.length_append]; exact HF.out.1, HDR.out.2.1.push hts, ⟨_, by have := HJ.out; omega, HF.out.2.1⟩, HF.out.2.2⟩
                      case measure => have := HJ.out; simp [intOf]; omega
                    | true =>
                      go_wp2_with fail
                      refine (pick_any g q2 40 _ hrd2 (by omega) (by omega)).mono ?_
                      rintro e w3 ⟨y, rfl, _, hrd3, hg3⟩
                      have HO3 := Lib.hid (And.intro (HOW.out.1.kept hg3 (own_ne HOW.out.1 hgl)) (grown_trans HOW.out.2 hg3))
                      clear hg3 hrd2
                      by_cases hy : y = 0
                      · have hyy : (y == 0) = true := beq_iff_eq.2 hy
                        clear hy
                        go_wp2_with fail
                        refine (pick_any g _ 3 _ hrd3 (by omega) (by omega)).mono ?_
                        rintro e w4 ⟨z, rfl, _, hrd4, hg4⟩
                        have hown4 := HO3.out.1.kept hg4 (own_ne HO3.out.1 hgl)
                        have HG4 := Lib.hid (grown_trans HO3.out.2 hg4)
                        clear hg4 hrd3
                        go_wp2_with (at_builtin; refine wpList_push rfl (.tmp 72) (.tmp 77) 31 rfl i0 (.agg #[.string ⟨#[]⟩, .int .i64 0]) 24 Try.underlying31 hi0 hz0 hz1 hz2 rfl (by decide) _ _ rfl hown4 [.string t, .int .i64 z] rfl rfl (by simp [Value.oneCell']) (by omega) (by omega) HG4.out.size ?_)
                        intro H' c' w6 hown6 hg6
                        have hrd6 := hrd4.own hg6 (fun i hi => by have := (hown4.lt _ hi).1; omega)
                        have HF := Lib.hid (And.intro hown6 (And.intro hrd6 (grown_own HG4.out hg6 (fun i hi => (hown4.lt _ hi).1))))
                        clear hown4 hown6 hg6 hrd4 hrd6
                        go_wp2
                        go_roundw
                        case rel => exact ⟨H', c', rs ++ [(t, z)], j', by simp, by rw [← hjj], by simp; have := HJ.out; omega, by rw [flat_append, List.length_append]; exact HF.out.1, HDR.out.2.1.push hts, ⟨_, by have := HJ.out; omega, HF.out.2.1⟩, HF.out.2.2⟩
                        case measure => have := HJ.out; simp [intOf]; omega
                      · have hyy : (y == 0) = false := beq_eq_false_iff_ne.2 hy
                        clear hy
                        go_wp2
                        go_roundw
                        case rel => exact ⟨H, c, rs, j', rfl, by rw [← hjj], by have := HJ.out; omega, HO3.out.1, HDR.out.2.1, ⟨q2 + 1, by have := HJ.out; omega, hrd3⟩, HO3.out.2⟩
                        case measure => have := HJ.out; simp [intOf]; omega
              · have hd1 : decide (0 < i) = false := decide_eq_false (by omega)
                clear hgo hi0
                go_wp2
                go_loop [7, 8] (fun v k => ∃ (b : Bool) (n : Nat), v = .bool b ∧ k = .int .i64 n ∧ n ≤ rs.length) (fun _ k => rs.length - (intOf k).toNat)
                case atStart => exact ⟨false, 0, rfl, rfl, by omega⟩
                case round =>
                  obtain ⟨b, n, rfl, rfl, hn⟩ := hrel
                  by_cases hlt : n < rs.length
                  · cases b with
                    | true =>
                      go_wp2
                      go_round
                      case rel => exact ⟨true, n + 1, rfl, by go_num, by omega⟩
                      case measure => simp [intOf]; omega
                    | false =>
                      obtain ⟨bo, oo, rfl, hbo, hcc⟩ := (own_rowS HOW.out.1).open (by rw [flat_length]; omega)
                      obtain ⟨hc1, hc2⟩ := routes_at hcc hlt
                      obtain ⟨t2, ht2⟩ : ∃ t2, rs[n].1 = t2 := ⟨_, rfl⟩
                      rw [ht2] at hc1
                      clear hcc ht2
                      go_wp2
                      go_round
                      case rel => exact ⟨_, n + 1, rfl, by go_num, by omega⟩
                      case measure => simp [intOf]; omega
                  · have hjj : (j : Int) - 1 = (j' : Int) := by have := HJ.out; omega
                    cases b with
                    | false =>
                      go_wp2_with fail
                      refine (pick_any g q2 3 _ hrd2 (by omega) (by omega)).mono ?_
                      rintro e w4 ⟨z, rfl, _, hrd4, hg4⟩
                      have hown4 := HOW.out.1.kept hg4 (own_ne HOW.out.1 hgl)
                      have HG4 := Lib.hid (grown_trans HOW.out.2 hg4)
                      clear hg4 hrd2
                      go_wp2_with (at_builtin; refine wpList_push rfl (.tmp 72) (.tmp 77) 31 rfl i0 (.agg #[.string ⟨#[]⟩, .int .i64 0]) 24 Try.underlying31 hi0 hz0 hz1 hz2 rfl (by decide) _ _ rfl hown4 [.string t, .int .i64 z] rfl rfl (by simp [Value.oneCell']) (by omega) (by omega) HG4.out.size ?_)
                      intro H' c' w6 hown6 hg6
                      have hrd6 := hrd4.own hg6 (fun i hi => by have := (hown4.lt _ hi).1; omega)
                      have HF := Lib.hid (And.intro hown6 (And.intro hrd6 (grown_own HG4.out hg6 (fun i hi => (hown4.lt _ hi).1))))
                      clear hown4 hown6 hg6 hrd4 hrd6
                      go_wp2
                      go_roundw
                      case rel => exact ⟨H', c', rs ++ [(t, z)], j', by simp, by rw [← hjj], by simp; have := HJ.out; omega, by rw [flat_append, List.length_append]; exact HF.out.1, HDR.out.2.1.push hts, ⟨_, by have := HJ.out; omega, HF.out.2.1⟩, HF.out.2.2⟩
                      case measure => have := HJ.out; simp [intOf]; omega
                    | true =>
                      go_wp2_with fail
                      refine (pick_any g q2 40 _ hrd2 (by omega) (by omega)).mono ?_
                      rintro e w3 ⟨y, rfl, _, hrd3, hg3⟩
                      have HO3 := Lib.hid (And.intro (HOW.out.1.kept hg3 (own_ne HOW.out.1 hgl)) (grown_trans HOW.out.2 hg3))
                      clear hg3 hrd2
                      by_cases hy : y = 0
                      · have hyy : (y == 0) = true := beq_iff_eq.2 hy
                        clear hy
                        go_wp2_with fail
                        refine (pick_any g _ 3 _ hrd3 (by omega) (by omega)).mono ?_
                        rintro e w4 ⟨z, rfl, _, hrd4, hg4⟩
                        have hown4 := HO3.out.1.kept hg4 (own_ne HO3.out.1 hgl)
                        have HG4 := Lib.hid (grown_trans HO3.out.2 hg4)
                        clear hg4 hrd3
                        go_wp2_with (at_builtin; refine wpList_push rfl (.tmp 72) (.tmp 77) 31 rfl i0 (.agg #[.string ⟨#[]⟩, .int .i64 0]) 24 Try.underlying31 hi0 hz0 hz1 hz2 rfl (by decide) _ _ rfl hown4 [.string t, .int .i64 z] rfl rfl (by simp [Value.oneCell']) (by omega) (by omega) HG4.out.size ?_)
                        intro H' c' w6 hown6 hg6
                        have hrd6 := hrd4.own hg6 (fun i hi => by have := (hown4.lt _ hi).1; omega)
                        have HF := Lib.hid (And.intro hown6 (And.intro hrd6 (grown_own HG4.out hg6 (fun i hi => (hown4.lt _ hi).1))))
                        clear hown4 hown6 hg6 hrd4 hrd6
                        go_wp2
                        go_roundw
                        case rel => exact ⟨H', c', rs ++ [(t, z)], j', by simp, by rw [← hjj], by simp; have := HJ.out; omega, by rw [flat_append, List.length_append]; exact HF.out.1, HDR.out.2.1.push hts, ⟨_, by have := HJ.out; omega, HF.out.2.1⟩, HF.out.2.2⟩
                        case measure => have := HJ.out; simp [intOf]; omega
                      · have hyy : (y == 0) = false := beq_eq_false_iff_ne.2 hy
                        clear hy
                        go_wp2
                        go_roundw
                        case rel => exact ⟨H, c, rs, j', rfl, by rw [← hjj], by have := HJ.out; omega, HO3.out.1, HDR.out.2.1, ⟨q2 + 1, by have := HJ.out; omega, hrd3⟩, HO3.out.2⟩
                        case measure => have := HJ.out; simp [intOf]; omega
    · have hd0 : decide (0 < j) = false := decide_eq_false (by omega)
      obtain ⟨hown, hsh, ⟨q, hq, hrdq⟩, hgr⟩ := HDR.out
      have HOW := Lib.hid (And.intro hown hgr)
      have hcap := own_cap hown
      by_cases h0 : rs.length = 0
      · have hd : decide (0 < rs.length) = false := decide_eq_false (by omega)
        have HSH := Lib.hid hsh
        clear h0 hgr hown hsh hj
        go_wp2
        go_ret
        exact ⟨H, c, rs, rfl, hl8, hcap, HSH.out, own_rowS HOW.out.1, ⟨q, by omega, hrdq⟩, HOW.out.2⟩
      · have hpos : 0 < rs.length := by omega
        have hd : decide (0 < rs.length) = true := decide_eq_true hpos
        have HSH := Lib.hid hsh
        obtain ⟨gH, rfl, hgH, _⟩ := own_some hown hpos
        clear h0 hgr hown hsh hj
        go_wp2_with fail
        refine (pick_any g q 30 _ hrdq (by omega) (by omega)).mono ?_
        rintro e w2 ⟨y, rfl, _, hrd2, hg2⟩
        have hown2 := HOW.out.1.kept hg2 (own_ne HOW.out.1 hgl)
        have HO2 := Lib.hid (And.intro (own_rowS hown2) (grown_trans HOW.out.2 hg2))
        clear hown2 hg2 hrdq
        by_cases hy0 : y = 0
        · subst hy0
          go_wp2_with fail
          refine (one_lit g _ w2 hrd2 (by omega) [-1, 10] (by decide) (by decide) 2 rfl _ rfl).mono ?_
          rintro e w3 ⟨x, rfl, _, hrd3, hg3⟩
          have ho3 := (HO2.out.1.apart (Nat.le_refl _) hg3 (fun i hi => by injection hi with hi; omega)).more hg3.size
          have HG3 := Lib.hid (grown_trans HO2.out.2 hg3)
          obtain ⟨b', o', e, _, hb3, hcc, hf⟩ := ho3.open' (by omega) (by rw [flat_length]; omega)
          simp only [Option.some.injEq, Addr.mk.injEq, and_true] at e
          obtain ⟨rfl, rfl⟩ := e
          obtain ⟨hc1, hc2⟩ := routes_at hcc hpos
          have hf1 := hf 1
          simp only [Nat.zero_mul, Nat.zero_add] at hc1 hc2
          have HO3 := Lib.hid ho3
          clear hcc hf ho3 hg3 hrd2
          go_wp2
          go_ret
          have hset := HO3.out.set 1 (.int .i64 x)
          obtain ⟨r, rs', rfl⟩ : ∃ r rs', rs = r :: rs' := by
            cases rs with
            | nil => simp at hpos
            | cons r rs' => exact ⟨r, rs', rfl⟩
          have hfl : (flat (r :: rs')).set 1 (.int .i64 x) = flat ((r.1, x) :: rs') := by simp [flat]
          rw [hfl] at hset
          refine ⟨some ⟨gH, 0, none⟩, c, (r.1, x) :: rs', rfl, hl8, hcap, fun z hz => ?_, hset.more (by simp [World.setCell]), ⟨_, ?_, hrd3.own (g_set (World.grownBy.refl w3 (some gH)) 1 (.int .i64 x)) (fun i hi => by injection hi with hi; omega)⟩, grown_own HG3.out (g_set (World.grownBy.refl w3 (some gH)) 1 (.int .i64 x)) (fun i hi => by injection hi with hi; omega)⟩
          · rcases List.mem_cons.1 hz with rfl | hz
            · exact HSH.out r (by simp)
            · exact HSH.out z (by simp [hz])
          · omega
        · have hyy : (y == 0) = false := beq_eq_false_iff_ne.2 hy0
          clear hy0
          go_wp2
          go_ret
          exact ⟨_, c, rs, rfl, hl8, hcap, HSH.out, HO2.out.1, ⟨_, by omega, hrd2⟩, HO2.out.2⟩
end Go.Proofs.Ytlmcclbikljbhaa
