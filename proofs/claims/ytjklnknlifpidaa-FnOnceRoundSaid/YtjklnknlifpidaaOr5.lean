/- spec.joined. No condition. -/
import Derived.Test.YtjklnknlifpidaaOr3
import Derived.Test.YtjklnknlifpidaaN10
import Derived.Deep.LoopGhost
import Derived.WalkMore
import Derived.Test.YtjklnknlifpidaaN11
namespace Go.Proofs.Ytjklnknlifpidaa
open Go.RowKit

theorem Try.infoBo : (Try.prog.info? 4).map (fun i => (i.zero, i.size, i.bytes)) = some (some (.bool false), 1, 1) := by kernel_rfl
def bF (r : Nat → Bool) : Nat → Value := fun v => .bool (r v)
theorem bF_put {r : Nat → Bool} (x : Nat) : (fun k => if k = x then Value.bool true else bF r k) = bF (fun v => r v || v == x) := by
  funext k
  by_cases e : k = x
  · simp [e, bF]
  · simp [e, bF]
theorem bF_put2 {r : Nat → Bool} (x : Nat) : (fun k => if k = x then Value.bool true else bF r k) = bF (fun v => if v = x then true else r v) := by
  funext k
  by_cases e : k = x
  · simp [e, bF]
  · simp [e, bF]
theorem cells_made {w : World} {base g n : Nat} (h : w.ownsRow base 4 1 (.slice (some ⟨g, 0, none⟩) n n) n (List.replicate n (Value.bool false))) (hb : base ≤ g) (hg : g < w.heap.size) : CellsAt w base g n (bF fun _ => false) :=
  ⟨hb, hg, fun i hi => by
    have h1 := h.cellAt i (by omega)
    rw [h1]
    rw [List.getElem?_replicate, if_pos hi]; rfl, fun j => h.frozenAt j⟩

set_option maxRecDepth 100000 in
set_option maxHeartbeats 8000000 in
theorem joined_any (A : Option Addr) (c n gu cu f ub : Nat) (rs : List (List Int)) (u : Nat → Bool) (bb : Bool) (w : World) (hr : Grid w 0 w.heap.size A rs) (hok : rs.all (okS (n : Int)) = true) (hn5 : n ≤ 5) (hl7 : rs.length ≤ 7) (hf : f < n)
    (hu : CellsAt w ub gu rs.length (bF u)) (hb : bb = true ↔ Jn (rs.map st) u f) :
    Calls Try.prog 50 #[.int .i64 (n : Int), .slice A rs.length c, .slice (some ⟨gu, 0, none⟩) rs.length cu, .int .i64 (f : Int)] w fun e w' => e = .returned (.bool bb) ∧ Below w.heap.size w w' := by
  obtain ⟨i0, hi0, hz0, hz1, hz2⟩ := info_parts Try.infoBo
  have HOK := Lib.hid hok
  have HU := Lib.hid hu
  have HR := Lib.hid hr
  have HB := Lib.hid hb
  have HLT := Lib.hid (street_lt hok)
  have hugl := hu.2.1
  clear hok hu hr hb
  go_enter Try.func50, Try.ntmps50
  go_wp2_with (at_make; refine wpList_make_full _ rfl (.tmp 15) (.tmp 15) _ rfl w.heap.size 4 i0 (.bool false) 1 Try.underlying60 hi0 hz0 hz1 _ _ _ _ _ rfl rfl rfl rfl (by rw [hz2]; omega) (by unfold maxLen; omega) (Nat.le_refl _) ?_)
  intro w1 hown hg
  obtain ⟨gs, hgs⟩ : ∃ gs, w.heap.size = gs := ⟨_, rfl⟩
  have hb1 : Below w.heap.size w w1 := (Below.refl _ _).grown hg (Nat.le_refl _) (by simp)
  rw [toList_madeCells_one] at hown
  have hgl : gs < w1.heap.size := by rw [← hgs]; exact (hown.lt _ rfl).2
  have hc1 := cells_made hown (Nat.le_refl _) (by rw [hgs]; exact hgl)
  rw [hgs] at hc1 hown ⊢
  have HGS := Lib.hid hgs
  have hcf := hc1.2.2.1 f hf
  have hff := hc1.2.2.2 f
  have HC2 := Lib.hid (And.intro (show CellsAt (w1.setCell ⟨gs, f, none⟩ (.bool true)) gs gs n (bF fun v => v == f) by
    have h := hc1.put hf (.bool true)
    rw [bF_put] at h
    simpa using h) (hb1.setCell (p := ⟨gs, f, none⟩) (by rw [← hgs]; exact Nat.le_refl _) (.bool true)))
  have hfI : (f : Int) < (n : Int) := by omega
  clear hown hg hb1 hc1 hgs hgl
  go_wp2
  clear hcf hff
  go_loopg [10] (cnt n (fun v => v == f) + 1) (fun gk v wr => ∃ (ag : Bool) (r : Nat → Bool), v = .bool ag ∧ (ag = true → cnt n r < gk) ∧ Hid (Sn (rs.map st) u f n r ∧ (ag = false → Su (rs.map st) u r)) ∧ CellsAt wr gs gs n (bF r) ∧ Below w.heap.size w wr)
  case atStart => exact ⟨true, _, rfl, fun _ => Nat.lt_succ_self _, Lib.hid ⟨Sn.start hf, (fun h => by cases h)⟩, HC2.out.1, HC2.out.2⟩
  case round =>
    clear HC2
    obtain ⟨ag, r, rfl, hgk, HS, hcs, hbr⟩ := hrel
    have HCS := Lib.hid hcs
    have HBR := Lib.hid hbr
    have hbz := hbr.size
    obtain ⟨W, hW⟩ : ∃ W : World, W = wr := ⟨_, rfl⟩
    subst hW
    cases ag with
    | true =>
      have HGK := Lib.hid (hgk rfl)
      clear hgk hcs hbr
      go_wp2_with fail
      go_loopw [10, 11] (fun v kk wr => ∃ (k : Nat) (ag : Bool) (r' : Nat → Bool), k ≤ rs.length ∧ kk = .int .i64 k ∧ v = .bool ag ∧ Hid (Sn (rs.map st) u f n r' ∧ (ag = true → cnt n r' < cnt n r) ∧ (∀ v, r v = true → r' v = true) ∧ (ag = false → r' = r ∧ ∀ j (h : j < (rs.map st).length), j < k → u j = false → r (rs.map st)[j].1 = r (rs.map st)[j].2.1)) ∧ CellsAt wr gs gs n (bF r') ∧ Below w.heap.size w wr) (fun _ kk _ => rs.length - (intOf kk).toNat)
      case atStart => exact ⟨0, false, r, by omega, rfl, rfl, Lib.hid ⟨HS.out.1, (fun h => by cases h), fun _ h => h, fun _ => ⟨rfl, fun j _ h => by omega⟩⟩, HCS.out, HBR.out⟩
      case round =>
        clear HBR hbz
        obtain ⟨k, ag, r', hk, rfl, rfl, HI, hcs2, hbr⟩ := hrel
        have HCS2 := Lib.hid hcs2
        have HBR := Lib.hid hbr
        have hbz := hbr.size
        by_cases hlt : k < rs.length
        · obtain ⟨a, b, l, bA, oA, b', o', c1, hej, hst, ⟨ha, hb, hl1, hl2⟩, rfl, g0, g1, g2, g3, hbA, hb'⟩ := (HR.out.below hbr).street HOK.out hlt
          have q1 := (HBR.out.cell (p := ⟨gu, k, none⟩) hugl).trans (HU.out.2.2.1 k hlt)
          have q2 := hcs2.2.2.1 a ha
          have q3 := hcs2.2.2.1 b hb
          have q4 := hcs2.2.2.2
          have hkm : k < (rs.map st).length := by simpa using hlt
          have HSQ := Lib.hid (show (rs.map st)[k]'hkm = (a, b, l) by rw [List.getElem_map]; exact hst)
          have hkI : (k : Int) < (rs.length : Int) := by omega
          have hk0 : (0 : Int) ≤ (k : Int) := by omega
          have haI : (a : Int) < (n : Int) := by omega
          have hbI : (b : Int) < (n : Int) := by omega
          have ha0 : (0 : Int) ≤ (a : Int) := by omega
          have hb0 : (0 : Int) ≤ (b : Int) := by omega
          simp only [bF] at q1 q2 q3
          clear hej hst hbr hcs2 g3
          cases huk : u k with
          | true =>
            rw [huk] at q1
            have HN := Lib.hid (show ag = false → ∀ j (h : j < (rs.map st).length), j < k + 1 → u j = false → r (rs.map st)[j].1 = r (rs.map st)[j].2.1 from fun h j hj hj2 huj => by
              by_cases e : j = k
              · subst e; rw [huk] at huj; cases huj
              · exact (HI.out.2.2.2 h).2 j hj (by omega) huj)
            clear huk
            go_wp2
            go_quiet (fail)
            go_simp
            go_wp2
            go_roundw
            case rel => exact ⟨k + 1, ag, r', by omega, by go_num, rfl, Lib.hid ⟨HI.out.1, HI.out.2.1, HI.out.2.2.1, fun h => ⟨(HI.out.2.2.2 h).1, HN.out h⟩⟩, ⟨HCS2.out.1, HCS2.out.2.1, HCS2.out.2.2.1, HCS2.out.2.2.2⟩, below_drewN HBR.out _⟩
            case measure => simp [intOf]; omega
          | false =>
            rw [huk] at q1
            by_cases hne : r' a = r' b
            · have HN := Lib.hid (show ag = false → ∀ j (h : j < (rs.map st).length), j < k + 1 → u j = false → r (rs.map st)[j].1 = r (rs.map st)[j].2.1 from fun h j hj hj2 huj => by
                by_cases e : j = k
                · subst e; rw [HSQ.out, ← (HI.out.2.2.2 h).1]; exact hne
                · exact (HI.out.2.2.2 h).2 j hj (by omega) huj)
              obtain ⟨y, hy⟩ : ∃ y, r' b = y := ⟨_, rfl⟩
              rw [hne, hy] at q2
              rw [hy] at q3
              have tne : (y != y) = false := by cases y <;> rfl
              clear huk hne hy
              go_wp2
              go_quiet (fail)
              go_simp
              clear tne
              go_wp2
              go_roundw
              case rel => exact ⟨k + 1, ag, r', by omega, by go_num, rfl, Lib.hid ⟨HI.out.1, HI.out.2.1, HI.out.2.2.1, fun h => ⟨(HI.out.2.2.2 h).1, HN.out h⟩⟩, ⟨HCS2.out.1, HCS2.out.2.1, HCS2.out.2.2.1, HCS2.out.2.2.2⟩, below_drewN HBR.out _⟩
              case measure => simp [intOf]; omega
            · have HSB := Lib.hid (show Sn (rs.map st) u f n (fun v => r' v || (v == a || v == b)) by
                have h := HI.out.1.both hkm huk (by rw [HSQ.out]; exact ⟨ha, hb⟩) (by rw [HSQ.out]; exact hne)
                rw [HSQ.out] at h; exact h)
              have HCN := Lib.hid (show cnt n (fun v => r' v || (v == a || v == b)) < cnt n r from Nat.lt_of_lt_of_le (cnt_both ha hb hne) (cnt_mono HI.out.2.2.1 n))
              have HMO := Lib.hid (show ∀ v, r v = true → (r' v || (v == a || v == b)) = true from fun v hv => by rw [HI.out.2.2.1 v hv]; rfl)
              obtain ⟨x, hx⟩ : ∃ x, r' a = x := ⟨_, rfl⟩
              obtain ⟨y, hy⟩ : ∃ y, r' b = y := ⟨_, rfl⟩
              rw [hx] at q2
              rw [hy] at q3
              have hxy : (x = true ∧ y = false) ∨ (x = false ∧ y = true) := by
                rw [hx, hy] at hne
                revert hne; cases x <;> cases y <;> simp
              have hab : ¬ a = b := fun e => hne (by rw [e])
              have hba : ¬ b = a := fun e => hne (by rw [e])
              have q5 := q4 a
              have q6 := q4 b
              have HFIN := Lib.hid (fun (X : World) (hX : ∃ z, X = wr.drewN z) => show CellsAt ((X.setCell ⟨gs, a, none⟩ (.bool true)).setCell ⟨gs, b, none⟩ (.bool true)) gs gs n (bF (fun v => r' v || (v == a || v == b))) ∧ Below w.heap.size w ((X.setCell ⟨gs, a, none⟩ (.bool true)).setCell ⟨gs, b, none⟩ (.bool true)) from by
                obtain ⟨z, rfl⟩ := hX
                have h0 : CellsAt (wr.drewN z) gs gs n (bF r') := ⟨HCS2.out.1, HCS2.out.2.1, HCS2.out.2.2.1, HCS2.out.2.2.2⟩
                have h1 := h0.put ha (.bool true)
                rw [bF_put] at h1
                have h2 := h1.put hb (.bool true)
                rw [bF_put] at h2
                refine ⟨h2.congr fun i _ => ?_, ((below_drewN HBR.out z).setCell (p := ⟨gs, a, none⟩) (by rw [HGS.out]; exact Nat.le_refl _) _).setCell (p := ⟨gs, b, none⟩) (by rw [HGS.out]; exact Nat.le_refl _) _⟩
                simp [bF, Bool.or_assoc])
              clear huk hne hx hy q4
              rcases hxy with ⟨rfl, rfl⟩ | ⟨rfl, rfl⟩
              all_goals
                go_wp2
                go_quiet (fail)
                go_simp
                go_wp2
                go_roundw
                case rel => exact ⟨k + 1, true, _, by omega, by go_num, rfl, Lib.hid ⟨HSB.out, fun _ => HCN.out, HMO.out, (fun h => by cases h)⟩, (HFIN.out _ ⟨_, rfl⟩).1, (HFIN.out _ ⟨_, rfl⟩).2⟩
                case measure => simp [intOf]; omega
        · have hke : k = rs.length := by omega
          subst hke
          have HE := Lib.hid (show (ag = true → cnt n r' < cnt n r) ∧ Sn (rs.map st) u f n r' ∧ (ag = false → Su (rs.map st) u r') from ⟨HI.out.2.1, HI.out.1, fun h k hk huk => by
            obtain ⟨h1, h2⟩ := HI.out.2.2.2 h
            rw [h1]; exact h2 k hk (by simpa using hk) huk⟩)
          clear hbr hcs2
          go_wp2_with fail
          go_roundg (cnt n r)
          case measure => exact HGK.out
          case rel => exact ⟨ag, r', rfl, HE.out.1, Lib.hid HE.out.2, HCS2.out, HBR.out⟩
    | false =>
      have HSU := Lib.hid (HS.out.2 rfl)
      clear hgk hcs hbr
      go_wp2_with fail
      go_loopw [14] (fun kk wr => ∃ (k nn : Nat), k ≤ rs.length ∧ kk = .int .i64 k ∧ Hid (∀ j (h : j < (rs.map st).length), j < k → u j = false → r (rs.map st)[j].1 = true) ∧ wr = W.drewN nn) (fun kk _ => rs.length - (intOf kk).toNat)
      case atStart => exact ⟨0, 0, by omega, rfl, Lib.hid (fun j _ h => by omega), rfl⟩
      case round =>
        obtain ⟨k, nn, hk, rfl, HI, rfl⟩ := hrel
        by_cases hlt : k < rs.length
        · obtain ⟨a, b, l, bA, oA, b', o', c1, hej, hst, ⟨ha, hb, hl1, hl2⟩, rfl, g0, g1, g2, g3, hbA, hb'⟩ := (HR.out.below HBR.out).street HOK.out hlt
          have q1 := (HBR.out.cell (p := ⟨gu, k, none⟩) hugl).trans (HU.out.2.2.1 k hlt)
          have q2 := HCS.out.2.2.1 a ha
          have hkm : k < (rs.map st).length := by simpa using hlt
          have HSQ := Lib.hid (show (rs.map st)[k]'hkm = (a, b, l) by rw [List.getElem_map]; exact hst)
          have hkI : (k : Int) < (rs.length : Int) := by omega
          have hk0 : (0 : Int) ≤ (k : Int) := by omega
          have haI : (a : Int) < (n : Int) := by omega
          have ha0 : (0 : Int) ≤ (a : Int) := by omega
          simp only [bF] at q1 q2
          clear hej hst g2 g3
          have HNX := Lib.hid (show (u k = true ∨ r a = true) → ∀ j (h : j < (rs.map st).length), j < k + 1 → u j = false → r (rs.map st)[j].1 = true from fun h j hj hj2 huj => by
            by_cases e : j = k
            · subst e
              rcases h with h | h
              · rw [huj] at h; cases h
              · rw [HSQ.out]; exact h
            · exact HI.out j hj (by omega) huj)
          cases huk : u k with
          | true =>
            rw [huk] at q1
            have HN := Lib.hid (HNX.out (.inl huk))
            clear huk
            go_wp2
            go_roundw
            case rel => exact ⟨k + 1, _, by omega, by go_num, Lib.hid HN.out, rfl⟩
            case measure => simp [intOf]; omega
          | false =>
            rw [huk] at q1
            cases hra : r a with
            | true =>
              rw [hra] at q2
              have HN := Lib.hid (HNX.out (.inr hra))
              clear huk hra
              go_wp2
              go_roundw
              case rel => exact ⟨k + 1, _, by omega, by go_num, Lib.hid HN.out, rfl⟩
              case measure => simp [intOf]; omega
            | false =>
              rw [hra] at q2
              have HF := Lib.hid (show bb = false from by
                rw [Bool.eq_false_iff]
                intro hbt
                have h1 := (HB.out.1 hbt) k hkm huk
                rw [HSQ.out] at h1
                have h2 := (HS.out.1.done HSU.out a).2 h1
                rw [hra] at h2; cases h2)
              clear huk hra
              go_wp2
              go_ret
              exact ⟨ret_bool HF.out.symm, below_drewN HBR.out _⟩
        · have hke : k = rs.length := by omega
          subst hke
          have HF := Lib.hid (show bb = true from HB.out.2 (fun k hk huk => (HS.out.1.done HSU.out _).1 (HI.out k hk (by simpa using hk) huk)))
          go_wp2
          go_ret
          exact ⟨ret_bool HF.out.symm, below_drewN HBR.out _⟩


theorem own_keep3 {w w' : World} {base n : Nat} {e : TypeId} {v : Value} {size : Nat} {xs : List Value} (h : w.ownsRow base e size v n xs) (hb : Below w.heap.size w w') : w'.ownsRow base e size v n xs := by
  refine ⟨h.1, ?_⟩
  rcases h.2 with hn | ⟨k, cap, cur, rfl, hb2, hgg, rest⟩
  · exact .inl hn
  · exact .inr ⟨k, cap, cur, rfl, hb2, by rw [hb.block k (Array.getElem?_eq_some_iff.1 hgg).1]; exact hgg, rest⟩
/-- What 'OnceRound' answers. -/
def OrRes (w : World) (V : List Int) (b : Bool) (e : Ending) (w' : World) : Prop := ∃ A c, e = .returned (.tuple #[.slice A V.length c, .bool b]) ∧ V.length ≤ c ∧ OwnInts w' w.heap.size w'.heap.size A V ∧ Below w.heap.size w w'

def intsN (L : List Nat) : List Int := L.map fun k : Nat => (k : Int)
theorem intsN_len (L : List Nat) : (intsN L).length = L.length := by simp [intsN]
theorem intsN_take {L : List Nat} {j : Nat} (h : j < L.length) : intsN (L.take (j + 1)) = intsN (L.take j) ++ [((L.getD j 0 : Nat) : Int)] := by
  unfold intsN; rw [List.take_succ_eq_append_getElem h, nat_getD h, List.map_append]; rfl
theorem bF_walk {u : Nat → Bool} {k : Nat} : (fun i => if i = k then Value.bool true else bF u i) = bF (walkU u k) := by
  funext i
  by_cases e : i = k
  · simp [e, bF, walkU]
  · simp [e, bF, walkU]
theorem bF_back {u : Nat → Bool} {k : Nat} (h : u k = false) : (fun i => if i = k then Value.bool false else bF (walkU u k) i) = bF u := by
  funext i
  by_cases e : i = k
  · subst e; simp [bF, h]
  · simp [e, bF, walkU]
theorem first_litO (W : World) (base : Nat) (hb : base ≤ W.heap.size) : (W.alloc (.cells #[] 3)).ownsRow base 3 1 (.slice (some ⟨W.heap.size, 0, none⟩) 0 0) 0 [] := World.ownsRow_lit W #[] 0 hb (by simp [maxLen]) rfl
theorem oth_lt {s : St} {a n : Nat} (h : s.1 < n ∧ s.2.1 < n) : oth s a < n := by unfold oth; split <;> omega

/-- What is known at the j-th street. -/
def OrSt (w W : World) (gu N : Nat) (L : List Nat) (j : Nat) (H : Option Addr) (m c' : Nat) (u : Nat → Bool) : Prop :=
  CellsAt W gu gu N (bF u) ∧ W.ownsRow (gu + 1) 3 1 (.slice H m c') m ((intsN (L.take j)).map (Value.int .i64)) ∧ Below w.heap.size w W
theorem OrSt.drew {w W : World} {gu N : Nat} {L : List Nat} {j : Nat} {H : Option Addr} {m c' : Nat} {u : Nat → Bool} (h : OrSt w W gu N L j H m c' u) (z : Nat) : OrSt w (W.drewN z) gu N L j H m c' u :=
  ⟨⟨h.1.1, h.1.2.1, h.1.2.2.1, h.1.2.2.2⟩, h.2.1, below_drewN h.2.2 z⟩
theorem OrSt.keep {w W X : World} {gu N : Nat} {L : List Nat} {j : Nat} {H : Option Addr} {m c' : Nat} {u : Nat → Bool} (h : OrSt w W gu N L j H m c' u) (hb : Below W.heap.size W X) (hz : w.heap.size ≤ W.heap.size) : OrSt w X gu N L j H m c' u :=
  ⟨h.1.keep hb, own_keep3 h.2.1 hb, h.2.2.trans (hb.mono hz)⟩
theorem OrSt.put {w W : World} {gu N : Nat} {L : List Nat} {j : Nat} {H : Option Addr} {m c' : Nat} {u u' : Nat → Bool} (h : OrSt w W gu N L j H m c' u) (hg : w.heap.size ≤ gu) {k : Nat} (hk : k < N) (v : Bool) (he : (fun i => if i = k then Value.bool v else bF u i) = bF u') : OrSt w (W.setCell ⟨gu, k, none⟩ (.bool v)) gu N L j H m c' u' := by
  refine ⟨by have h1 := h.1.put hk (.bool v); rwa [he] at h1, ?_, h.2.2.setCell (p := ⟨gu, k, none⟩) hg _⟩
  exact h.2.1.kept (g_set (World.grownBy.refl W (some gu)) k (.bool v)) (own_ne h.2.1 (Nat.lt_succ_self _))

set_option maxRecDepth 100000 in
set_option maxHeartbeats 16000000 in
theorem onceRound_any (A : Option Addr) (c n : Nat) (rs : List (List Int)) (L : List Nat) (q : Nat → Nat) (w : World) (hr : Grid w 0 w.heap.size A rs) (hok : rs.all (okS (n : Int)) = true) (hn5 : n ≤ 5) (hl7 : rs.length ≤ 7) (hw : Way n (rs.map st) rs.length L q) :
    Calls Try.prog 31 #[.int .i64 (n : Int), .slice A rs.length c] w (iRes w (intsN L)) := by
  obtain ⟨i0, hi0, hz0, hz1, hz2⟩ := info_parts Try.infoBo
  obtain ⟨j0, hj0, hy0, hy1, hy2⟩ := info_parts Try.infoI
  have HOK := Lib.hid hok
  have HR := Lib.hid hr
  have HW := Lib.hid hw
  have HLL := Lib.hid hw.len
  have HLT := Lib.hid (street_lt hok)
  clear hok hr hw
  go_enter Try.func31, Try.ntmps31
  go_wp2_with (at_make; refine wpList_make_full _ rfl (.tmp 12) (.tmp 12) _ rfl w.heap.size 4 i0 (.bool false) 1 Try.underlying60 hi0 hz0 hz1 _ _ _ _ _ rfl rfl rfl rfl (by rw [hz2]; omega) (by unfold maxLen; omega) (Nat.le_refl _) ?_)
  intro w1 hown hg
  obtain ⟨gu, hgu⟩ : ∃ gu, w.heap.size = gu := ⟨_, rfl⟩
  have hb1 : Below w.heap.size w w1 := (Below.refl _ _).grown hg (Nat.le_refl _) (by simp)
  rw [toList_madeCells_one] at hown
  have hgl : gu < w1.heap.size := by rw [← hgu]; exact (hown.lt _ rfl).2
  have hc1 := cells_made hown (Nat.le_refl _) (by rw [hgu]; exact hgl)
  rw [hgu] at hc1 hown ⊢
  have HGU := Lib.hid hgu
  have HST := Lib.hid (show OrSt w (w1.alloc (.cells #[] 3)) gu rs.length L 0 (some ⟨w1.heap.size, 0, none⟩) 0 0 (inU L 0) from
    ⟨by
      have e : inU L 0 = fun _ => false := by funext k; simp [inU]
      rw [e]; exact hc1.keep ((Below.refl _ _).alloc (Nat.le_refl _) _), first_litO w1 (gu + 1) hgl, hb1.alloc (by rw [hgu]; omega) _⟩)
  clear hown hg hb1 hc1 hgu
  go_wp2_with fail
  go_loopw [6, 7] (fun v z wr => ∃ (j m c' : Nat) (H : Option Addr), j ≤ rs.length ∧ v = .slice H m c' ∧ m = j ∧ z = .int .i64 ((q j : Nat) : Int) ∧ OrSt w wr gu rs.length L j H m c' (inU L j)) (fun v _ _ => rs.length - (match v with | .slice _ n _ => n | _ => 0))
  case atStart => exact ⟨0, 0, 0, _, by omega, rfl, rfl, by rw [HW.out.z]; rfl, HST.out⟩
  case round =>
    clear HST hgl
    obtain ⟨j, m, c', H, hj, rfl, hm, rfl, hst⟩ := hrel
    have HS := Lib.hid hst
    have HM := Lib.hid hm
    have hsz := hst.2.2.size
    obtain ⟨W, hW⟩ : ∃ W : World, W = wr := ⟨_, rfl⟩
    subst hW
    by_cases hlj : j < rs.length
    · have hmI : (m : Int) < (rs.length : Int) := by omega
      have hmn : m < rs.length := by omega
      obtain ⟨z, hz⟩ : ∃ z, q j = z := ⟨_, rfl⟩
      obtain ⟨x, hx⟩ : ∃ x, L.getD j 0 = x := ⟨_, rfl⟩
      have hzn : z < n := by rw [← hz]; exact HW.out.lt j (by omega)
      have HMAY := Lib.hid (HW.out.may j hlj)
      have HLE := Lib.hid (HW.out.least j hlj)
      have HNX := Lib.hid (HW.out.nx j hlj)
      have hxl := HW.out.in hlj
      rw [hx, hz] at HMAY
      rw [hx, hz] at HLE
      rw [hx, hz] at HNX
      rw [hx, List.length_map] at hxl
      rw [hz]
      have HX := Lib.hid hx
      clear hst hm hz hx
      go_wp2_with fail
      go_loopw [6, 7, 8] (fun v6 v7 kk wr => ∃ k : Nat, k ≤ x ∧ v6 = .slice H m c' ∧ v7 = .int .i64 (z : Int) ∧ kk = .int .i64 k ∧ OrSt w wr gu rs.length L j H m c' (inU L j)) (fun _ _ kk _ => rs.length - (intOf kk).toNat)
      case atStart => exact ⟨0, by omega, rfl, rfl, rfl, HS.out⟩
      case round =>
        clear HS hsz
        obtain ⟨k, hk, rfl, rfl, rfl, hst⟩ := hrel
        have HS := Lib.hid hst
        have hsz := hst.2.2.size
        have hlk : k < rs.length := by omega
        obtain ⟨a, b, l, bA, oA, b', o', c1, hej, hsq, ⟨ha, hb, hl1, hl2⟩, rfl, g0, g1, g2, g3, hbA, hb'⟩ := (HR.out.below hst.2.2).street HOK.out hlk
        have hkm : k < (rs.map st).length := by simpa using hlk
        have HSQ := Lib.hid (show (rs.map st)[k]'hkm = (a, b, l) by rw [List.getElem_map]; exact hsq)
        have q1 := hst.1.2.2.1 k hlk
        have q4 := hst.1.2.2.2 k
        simp only [bF] at q1
        have hkI : (k : Int) < (rs.length : Int) := by omega
        have hk0 : (0 : Int) ≤ (k : Int) := by omega
        clear hej hsq g3 hst
        cases huk : inU L j k with
        | true =>
          rw [huk] at q1
          have hkx : k < x := by
            by_cases e : k = x
            · subst e
              obtain ⟨_, h2, _⟩ := HMAY.out
              rw [huk] at h2; cases h2
            · omega
          clear huk
          go_wp2_with fail
          go_roundw
          case rel => exact ⟨k + 1, by omega, rfl, rfl, by go_num, HS.out⟩
          case measure => simp [intOf]; omega
        | false =>
          rw [huk] at q1
          have HUK := Lib.hid huk
          clear huk
          by_cases haz : a = z
          · have t1 : ((a : Int) != (z : Int)) = false := by simp; omega
            obtain ⟨t, ht⟩ : ∃ t, oth ((rs.map st)[k]'hkm) z = t := ⟨_, rfl⟩
            have htn : t < n := by rw [← ht]; exact oth_lt (HLT.out _ (List.getElem_mem hkm))
            have htv : (a : Int) + (b : Int) - (z : Int) = (t : Int) := by
              rw [← ht, HSQ.out]; unfold oth; simp only []; split <;> omega
            have hwt : IntKind.i64.wrap ((a : Int) + (b : Int) - (z : Int)) = (t : Int) := by rw [htv]; exact IntWalk.i64_in _ (by omega)
            have hwt2 : IntKind.i64.wrap ((a : Int) + (b : Int)) = (a : Int) + (b : Int) := IntWalk.i64_in _ (by omega)
            obtain ⟨bb, hbb⟩ : ∃ bb : Bool, (bb = true ↔ Jn (rs.map st) (walkU (inU L j) k) t) ∧ (k < x → bb = false) ∧ (k = x → bb = true) := by
              by_cases e : k = x
              · refine ⟨true, ⟨fun _ => ?_, fun _ => rfl⟩, fun h => by omega, fun _ => rfl⟩
                obtain ⟨h1, _, _, h4⟩ := HMAY.out
                subst e
                rw [← ht]; exact h4
              · refine ⟨false, ⟨(fun h => by cases h), fun hj2 => ?_⟩, fun _ => rfl, fun h => absurd h e⟩
                refine absurd ?_ (HLE.out k (by omega))
                exact ⟨hkm, HUK.out, by rw [HSQ.out]; exact .inl haz, by rw [ht]; exact hj2⟩
            have HBB := Lib.hid hbb
            have HT := Lib.hid ht
            have HJ := Lib.hid (fun (X : World) (hX : ∃ zz, X = wr.drewN zz) => show Calls Try.prog 50 #[.int .i64 (n : Int), .slice (some ⟨bA, oA, none⟩) rs.length c, .slice (some ⟨gu, 0, none⟩) rs.length rs.length, .int .i64 (t : Int)] (X.setCell ⟨gu, k, none⟩ (.bool true)) fun e w' => e = .returned (.bool bb) ∧ Below (X.setCell ⟨gu, k, none⟩ (.bool true)).heap.size (X.setCell ⟨gu, k, none⟩ (.bool true)) w' from by
              obtain ⟨zz, rfl⟩ := hX
              have hst2 := (HS.out.drew zz).put (by rw [HGU.out]; exact Nat.le_refl _) hlk true bF_walk
              exact joined_any _ c n gu rs.length t gu rs (walkU (inU L j) k) bb _ ((HR.out.below hst2.2.2).more hst2.2.2.size) HOK.out hn5 hl7 htn hst2.1 HBB.out.1)
            have HP := Lib.hid (fun (zz : Nat) => (HS.out.drew zz).put (by rw [HGU.out]; exact Nat.le_refl _) hlk true bF_walk)
            clear haz hbb ht
            by_cases hkx : k < x
            · have hbf := HBB.out.2.1 hkx
              subst hbf
              go_wp2
              go_quiet (fail)
              go_simp
              go_wp2_with fail
              refine (HJ.out _ ⟨_, rfl⟩).mono ?_
              rintro e w7 ⟨rfl, hb7⟩
              have hst7 := (HP.out _).keep hb7 (HP.out _).2.2.size
              have HS7 := Lib.hid (hst7.put (by rw [HGU.out]; exact Nat.le_refl _) hlk false (bF_back HUK.out))
              have r1 := hst7.1.2.2.1 k hlk
              have r2 := hst7.1.2.2.2 k
              simp only [bF] at r1
              clear hb7 hst7 hwt hwt2 htv t1 g0 g1 g2 q1 q4
              go_wp2_with fail
              go_roundw
              case rel => exact ⟨k + 1, by omega, rfl, rfl, by go_num, HS7.out⟩
              case measure => simp [intOf]; omega
            · have hkx2 := Lib.hid (show k = x by omega)
              have hbt := HBB.out.2.2 hkx2.out
              subst hbt
              go_wp2
              go_quiet (fail)
              go_simp
              go_wp2_with fail
              refine (HJ.out _ ⟨_, rfl⟩).mono ?_
              rintro e w7 ⟨rfl, hb7⟩
              have hst7 := (HP.out _).keep hb7 (HP.out _).2.2.size
              have HS7 := Lib.hid hst7
              have hgz7 : gu + 1 ≤ w7.heap.size := hst7.1.2.1
              clear hb7 hst7 hwt hwt2 htv t1 g0 g1 g2 q1 q4
              go_wp2_with (at_builtin; refine wpList_push rfl (.tmp 65) (.tmp 67) 24 rfl j0 (.int .i64 0) 8 Try.underlying24 hj0 hy0 hy1 hy2 rfl (by decide) _ _ rfl HS7.out.2.1 [.int .i64 (k : Int)] rfl rfl (by simp [Value.oneCell']) (by omega) (by omega) hgz7 ?_)
              intro H8 c8 w8 hown8 hg8
              have HS8 := Lib.hid (show OrSt w w8 gu rs.length L (j + 1) H8 (m + 1) c8 (inU L (j + 1)) from by
                have hjl : j < L.length := by rw [HLL.out]; exact hlj
                refine ⟨?_, ?_, HS7.out.2.2.grown hg8 HS7.out.2.2.size (fun i hi => by have := (HS7.out.2.1.lt _ hi).1; rw [HGU.out]; omega)⟩
                · have h1 := cells_apart HS7.out.1 hg8 (fun i hi => by have := (HS7.out.2.1.lt _ hi).1; omega)
                  rw [← inU_walk hjl, HX.out, ← hkx2.out]; exact h1
                · rw [intsN_take hjl, HX.out, ← hkx2.out, List.map_append]; exact hown8)
              have HQ := Lib.hid (show q (j + 1) = t by rw [HNX.out, ← HT.out, ← hkx2.out, st_getD hkm])
              clear hown8 hg8
              go_wp2_with fail
              go_roundw
              case rel => exact ⟨j + 1, m + 1, c8, H8, by omega, rfl, by rw [HM.out], by rw [HQ.out], HS8.out⟩
              case measure => simp only []; omega
          by_cases hbz : b = z
          · have t1 : ((a : Int) != (z : Int)) = true := by simp; omega
            have t2 : ((b : Int) != (z : Int)) = false := by simp; omega
            obtain ⟨t, ht⟩ : ∃ t, oth ((rs.map st)[k]'hkm) z = t := ⟨_, rfl⟩
            have htn : t < n := by rw [← ht]; exact oth_lt (HLT.out _ (List.getElem_mem hkm))
            have htv : (a : Int) + (b : Int) - (z : Int) = (t : Int) := by
              rw [← ht, HSQ.out]; unfold oth; simp only []; split <;> omega
            have hwt : IntKind.i64.wrap ((a : Int) + (b : Int) - (z : Int)) = (t : Int) := by rw [htv]; exact IntWalk.i64_in _ (by omega)
            have hwt2 : IntKind.i64.wrap ((a : Int) + (b : Int)) = (a : Int) + (b : Int) := IntWalk.i64_in _ (by omega)
            obtain ⟨bb, hbb⟩ : ∃ bb : Bool, (bb = true ↔ Jn (rs.map st) (walkU (inU L j) k) t) ∧ (k < x → bb = false) ∧ (k = x → bb = true) := by
              by_cases e : k = x
              · refine ⟨true, ⟨fun _ => ?_, fun _ => rfl⟩, fun h => by omega, fun _ => rfl⟩
                obtain ⟨h1, _, _, h4⟩ := HMAY.out
                subst e
                rw [← ht]; exact h4
              · refine ⟨false, ⟨(fun h => by cases h), fun hj2 => ?_⟩, fun _ => rfl, fun h => absurd h e⟩
                refine absurd ?_ (HLE.out k (by omega))
                exact ⟨hkm, HUK.out, by rw [HSQ.out]; exact .inr hbz, by rw [ht]; exact hj2⟩
            have HBB := Lib.hid hbb
            have HT := Lib.hid ht
            have HJ := Lib.hid (fun (X : World) (hX : ∃ zz, X = wr.drewN zz) => show Calls Try.prog 50 #[.int .i64 (n : Int), .slice (some ⟨bA, oA, none⟩) rs.length c, .slice (some ⟨gu, 0, none⟩) rs.length rs.length, .int .i64 (t : Int)] (X.setCell ⟨gu, k, none⟩ (.bool true)) fun e w' => e = .returned (.bool bb) ∧ Below (X.setCell ⟨gu, k, none⟩ (.bool true)).heap.size (X.setCell ⟨gu, k, none⟩ (.bool true)) w' from by
              obtain ⟨zz, rfl⟩ := hX
              have hst2 := (HS.out.drew zz).put (by rw [HGU.out]; exact Nat.le_refl _) hlk true bF_walk
              exact joined_any _ c n gu rs.length t gu rs (walkU (inU L j) k) bb _ ((HR.out.below hst2.2.2).more hst2.2.2.size) HOK.out hn5 hl7 htn hst2.1 HBB.out.1)
            have HP := Lib.hid (fun (zz : Nat) => (HS.out.drew zz).put (by rw [HGU.out]; exact Nat.le_refl _) hlk true bF_walk)
            clear haz hbz hbb ht
            by_cases hkx : k < x
            · have hbf := HBB.out.2.1 hkx
              subst hbf
              go_wp2
              go_quiet (fail)
              go_simp
              go_wp2_with fail
              refine (HJ.out _ ⟨_, rfl⟩).mono ?_
              rintro e w7 ⟨rfl, hb7⟩
              have hst7 := (HP.out _).keep hb7 (HP.out _).2.2.size
              have HS7 := Lib.hid (hst7.put (by rw [HGU.out]; exact Nat.le_refl _) hlk false (bF_back HUK.out))
              have r1 := hst7.1.2.2.1 k hlk
              have r2 := hst7.1.2.2.2 k
              simp only [bF] at r1
              clear hb7 hst7 hwt hwt2 htv t1 g0 g1 g2 q1 q4 t2
              go_wp2_with fail
              go_roundw
              case rel => exact ⟨k + 1, by omega, rfl, rfl, by go_num, HS7.out⟩
              case measure => simp [intOf]; omega
            · have hkx2 := Lib.hid (show k = x by omega)
              have hbt := HBB.out.2.2 hkx2.out
              subst hbt
              go_wp2
              go_quiet (fail)
              go_simp
              go_wp2_with fail
              refine (HJ.out _ ⟨_, rfl⟩).mono ?_
              rintro e w7 ⟨rfl, hb7⟩
              have hst7 := (HP.out _).keep hb7 (HP.out _).2.2.size
              have HS7 := Lib.hid hst7
              have hgz7 : gu + 1 ≤ w7.heap.size := hst7.1.2.1
              clear hb7 hst7 hwt hwt2 htv t1 g0 g1 g2 q1 q4 t2
              go_wp2_with (at_builtin; refine wpList_push rfl (.tmp 65) (.tmp 67) 24 rfl j0 (.int .i64 0) 8 Try.underlying24 hj0 hy0 hy1 hy2 rfl (by decide) _ _ rfl HS7.out.2.1 [.int .i64 (k : Int)] rfl rfl (by simp [Value.oneCell']) (by omega) (by omega) hgz7 ?_)
              intro H8 c8 w8 hown8 hg8
              have HS8 := Lib.hid (show OrSt w w8 gu rs.length L (j + 1) H8 (m + 1) c8 (inU L (j + 1)) from by
                have hjl : j < L.length := by rw [HLL.out]; exact hlj
                refine ⟨?_, ?_, HS7.out.2.2.grown hg8 HS7.out.2.2.size (fun i hi => by have := (HS7.out.2.1.lt _ hi).1; rw [HGU.out]; omega)⟩
                · have h1 := cells_apart HS7.out.1 hg8 (fun i hi => by have := (HS7.out.2.1.lt _ hi).1; omega)
                  rw [← inU_walk hjl, HX.out, ← hkx2.out]; exact h1
                · rw [intsN_take hjl, HX.out, ← hkx2.out, List.map_append]; exact hown8)
              have HQ := Lib.hid (show q (j + 1) = t by rw [HNX.out, ← HT.out, ← hkx2.out, st_getD hkm])
              clear hown8 hg8
              go_wp2_with fail
              go_roundw
              case rel => exact ⟨j + 1, m + 1, c8, H8, by omega, rfl, by rw [HM.out], by rw [HQ.out], HS8.out⟩
              case measure => simp only []; omega
          · have t1 : ((a : Int) != (z : Int)) = true := by simp; omega
            have t2 : ((b : Int) != (z : Int)) = true := by simp; omega
            have hkx : k < x := by
              by_cases e : k = x
              · subst e
                obtain ⟨h1, _, h3, _⟩ := HMAY.out
                rw [HSQ.out] at h3
                rcases h3 with h3 | h3
                · exact absurd h3 haz
                · exact absurd h3 hbz
              · omega
            clear haz hbz
            go_wp2_with fail
            go_roundw
            case rel => exact ⟨k + 1, by omega, rfl, rfl, by go_num, HS.out⟩
            case measure => simp [intOf]; omega
    · have hje : j = rs.length := by omega
      have hmI : ¬ ((m : Int) < (rs.length : Int)) := by omega
      have hmn : ¬ (m < rs.length) := by omega
      have hmd : decide ((m : Int) < (rs.length : Int)) = false := decide_eq_false hmI
      have hmd2 : decide (m < rs.length) = false := decide_eq_false hmn
      subst hje
      have HF := Lib.hid (show iRes w (intsN L) (.returned (.slice H m c')) W by
        have h1 := HS.out.2.1
        rw [List.take_of_length_le (by rw [HLL.out]; exact Nat.le_refl _)] at h1
        exact iRes_row (rowLess h1 (by rw [HGU.out]; omega)) (by rw [intsN_len, HLL.out]; exact HM.out) HS.out.2.2)
      clear hst hm
      go_wp2_with fail
      go_ret
      exact HF.out

set_option maxRecDepth 100000 in
theorem specOnceRound_any (A : Option Addr) (c : Nat) (rs : List (List Int)) (n : Int) (V : List Int) (b : Bool) (w : World) (hr : Grid w 0 w.heap.size A rs) (hl : rs.length ≤ 1000000000) (hs : ∀ r ∈ rs, r.length ≤ 1000000000) (hV : OnceV n rs V b) :
    Calls Try.prog 10 #[.int .i64 n, .slice A rs.length c] w (OrRes w V b) := by
  have H := Lib.hid (validTown_any A c rs n w hr hl hs)
  have HV := Lib.hid hV
  have HR := Lib.hid hr
  clear hs hV hr
  by_cases ht : townB n rs = true
  · rw [ht] at H
    obtain ⟨m, rfl, hm1, hm5, hl7, hok, hre⟩ := townB_parts ht
    have HT := Lib.hid ht
    clear hre
    go_enter Try.func10, Try.ntmps10
    go_wp2_with fail
    refine H.out.mono ?_
    rintro e w1 ⟨rfl, hb1⟩
    have HB1 := Lib.hid hb1
    have HO := Lib.hid (specOdds_low A c rs m w1 ((HR.out.below hb1).more hb1.size) hm5 hl7 hok)
    have hol := oddsTo_len (rs.map st) m
    obtain ⟨O, hO⟩ : ∃ O, oddsTo m (rs.map st) = O := ⟨_, rfl⟩
    rw [hO] at HO hol
    have HOE := Lib.hid hO
    clear hb1 ht hO
    go_wp2_with fail
    refine HO.out.mono ?_
    rintro e w2 ⟨A2, c2, rfl, _, _, hb2⟩
    have HB2 := Lib.hid (HB1.out.trans (hb2.mono HB1.out.size))
    clear hb2
    by_cases hO0 : O.length = 0
    · have hOn : O = [] := List.eq_nil_of_length_eq_zero hO0
      have tO : decide (0 < O.length) = false := decide_eq_false (by omega)
      have tO2 : decide ((0 : Int) < (O.length : Int)) = false := decide_eq_false (by omega)
      obtain ⟨L, q, hw, hVL, hbt⟩ : ∃ L q, Way m (rs.map st) rs.length L q ∧ V = intsN L ∧ b = true := by
        rcases HV.out with ⟨h1, _⟩ | ⟨_, _, h3, L, q, h4, h5⟩
        · rw [HT.out, show ((m : Int)).toNat = m from rfl, HOE.out, hOn] at h1
          simp at h1
        · exact ⟨L, q, h4, h5, h3⟩
      subst hbt
      have HC := Lib.hid (onceRound_any A c m rs L q w2 ((HR.out.below HB2.out).more HB2.out.size) hok hm5 hl7 hw)
      rw [← hVL] at HC
      clear hw hVL hOn hO0
      go_wp2_with fail
      refine HC.out.mono ?_
      rintro e w3 ⟨A3, c3, rfl, hc3, o3, hb3⟩
      have HE := Lib.hid (show OrRes w V true (.returned (.tuple #[.slice A3 V.length c3, .bool true])) w3 from ⟨A3, c3, rfl, hc3, Own.less o3 (by have := HB2.out.size; omega), HB2.out.trans (hb3.mono HB2.out.size)⟩)
      clear hc3 o3 hb3
      go_wp2_with fail
      go_ret2
      exact HE.out
    · have tO : decide (0 < O.length) = true := decide_eq_true (by omega)
      have tO2 : decide ((0 : Int) < (O.length : Int)) = true := decide_eq_true (by omega)
      have hVn : V = [] ∧ b = false := by
        rcases HV.out with ⟨_, h1, h2⟩ | ⟨_, h2, _⟩
        · exact ⟨h1, h2⟩
        · rw [show ((m : Int)).toNat = m from rfl, HOE.out] at h2
          rw [h2] at hO0; simp at hO0
      obtain ⟨rfl, rfl⟩ := hVn
      clear hO0
      go_wp2_with fail
      go_ret2
      exact ⟨none, 0, rfl, Nat.le_refl _, .inl rfl, HB2.out⟩
  · have ht' : townB n rs = false := by simpa using ht
    rw [ht'] at H
    have hVn : V = [] ∧ b = false := by
      rcases HV.out with ⟨_, h1, h2⟩ | ⟨h2, _⟩
      · exact ⟨h1, h2⟩
      · rw [ht'] at h2; cases h2
    obtain ⟨rfl, rfl⟩ := hVn
    clear ht ht'
    go_enter Try.func10, Try.ntmps10
    go_wp2_with fail
    refine H.out.mono ?_
    rintro e w1 ⟨rfl, hb1⟩
    have HB1 := Lib.hid hb1
    clear hb1
    go_wp2_with fail
    go_ret2
    exact ⟨none, 0, rfl, Nat.le_refl _, .inl rfl, HB1.out⟩
end Go.Proofs.Ytjklnknlifpidaa
