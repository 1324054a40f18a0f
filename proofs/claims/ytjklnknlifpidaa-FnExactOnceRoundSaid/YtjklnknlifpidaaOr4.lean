/- spec.joined. No condition. -/
import Derived.Test.YtjklnknlifpidaaOr3
import Derived.Test.YtjklnknlifpidaaN10
import Derived.Deep.LoopGhost
import Derived.WalkMore
namespace Go.Proofs.Ytjklnknlifpidaa
open Go.RowKit

theorem Try.infoBo : (Try.prog.info? 4).map (fun i => (i.zero, i.size, i.bytes)) = some (some (.bool false), 1, 1) := by kernel_rfl
def bF (r : Nat → Bool) : Nat → Value := fun v => .bool (r v)
theorem bF_put {r : Nat → Bool} (x : Nat) : (fun k => if k = x then Value.bool true else bF r k) = bF (fun v => r v || v == x) := by
  funext k
  by_cases e : k = x
  · simp [e, bF]
  · simp [e, bF]
theorem bF_put2 {r : Nat → Bool} (x : Nat) : (fun k => if k = x then Value.bool true else bF r k) = bF (fun v => if v = x then true else r v) := by
  funext k
  by_cases e : k = x
  · simp [e, bF]
  · simp [e, bF]
theorem cells_made {w : World} {base g n : Nat} (h : w.ownsRow base 4 1 (.slice (some ⟨g, 0, none⟩) n n) n (List.replicate n (Value.bool false))) (hb : base ≤ g) (hg : g < w.heap.size) : CellsAt w base g n (bF fun _ => false) :=
  ⟨hb, hg, fun i hi => by
    have h1 := h.cellAt i (by omega)
    rw [h1]
    rw [List.getElem?_replicate, if_pos hi]; rfl, fun j => h.frozenAt j⟩

set_option maxRecDepth 100000 in
set_option maxHeartbeats 8000000 in
theorem joined_any (A : Option Addr) (c n gu cu f ub : Nat) (rs : List (List Int)) (u : Nat → Bool) (bb : Bool) (w : World) (hr : Grid w 0 w.heap.size A rs) (hok : rs.all (okS (n : Int)) = true) (hn5 : n ≤ 5) (hl7 : rs.length ≤ 7) (hf : f < n)
    (hu : CellsAt w ub gu rs.length (bF u)) (hb : bb = true ↔ Jn (rs.map st) u f) :
    Calls Try.prog 50 #[.int .i64 (n : Int), .slice A rs.length c, .slice (some ⟨gu, 0, none⟩) rs.length cu, .int .i64 (f : Int)] w fun e w' => e = .returned (.bool bb) ∧ Below w.heap.size w w' := by
  obtain ⟨i0, hi0, hz0, hz1, hz2⟩ := info_parts Try.infoBo
  have HOK := Lib.hid hok
  have HU := Lib.hid hu
  have HR := Lib.hid hr
  have HB := Lib.hid hb
  have HLT := Lib.hid (street_lt hok)
  have hugl := hu.2.1
  clear hok hu hr hb
  go_enter Try.func50, Try.ntmps50
  go_wp2_with (at_make; refine wpList_make_full _ rfl (.tmp 15) (.tmp 15) _ rfl w.heap.size 4 i0 (.bool false) 1 Try.underlying60 hi0 hz0 hz1 _ _ _ _ _ rfl rfl rfl rfl (by rw [hz2]; omega) (by unfold maxLen; omega) (Nat.le_refl _) ?_)
  intro w1 hown hg
  obtain ⟨gs, hgs⟩ : ∃ gs, w.heap.size = gs := ⟨_, rfl⟩
  have hb1 : Below w.heap.size w w1 := (Below.refl _ _).grown hg (Nat.le_refl _) (by simp)
  rw [toList_madeCells_one] at hown
  have hgl : gs < w1.heap.size := by rw [← hgs]; exact (hown.lt _ rfl).2
  have hc1 := cells_made hown (Nat.le_refl _) (by rw [hgs]; exact hgl)
  rw [hgs] at hc1 hown ⊢
  have HGS := Lib.hid hgs
  have hcf := hc1.2.2.1 f hf
  have hff := hc1.2.2.2 f
  have HC2 := Lib.hid (And.intro (show CellsAt (w1.setCell ⟨gs, f, none⟩ (.bool true)) gs gs n (bF fun v => v == f) by
    have h := hc1.put hf (.bool true)
    rw [bF_put] at h
    simpa using h) (hb1.setCell (p := ⟨gs, f, none⟩) (by rw [← hgs]; exact Nat.le_refl _) (.bool true)))
  have hfI : (f : Int) < (n : Int) := by omega
  clear hown hg hb1 hc1 hgs hgl
  go_wp2
  clear hcf hff
  go_loopg [10] (cnt n (fun v => v == f) + 1) (fun gk v wr => ∃ (ag : Bool) (r : Nat → Bool), v = .bool ag ∧ (ag = true → cnt n r < gk) ∧ Hid (Sn (rs.map st) u f n r ∧ (ag = false → Su (rs.map st) u r)) ∧ CellsAt wr gs gs n (bF r) ∧ Below w.heap.size w wr)
  case atStart => exact ⟨true, _, rfl, fun _ => Nat.lt_succ_self _, Lib.hid ⟨Sn.start hf, (fun h => by cases h)⟩, HC2.out.1, HC2.out.2⟩
  case round =>
    clear HC2
    obtain ⟨ag, r, rfl, hgk, HS, hcs, hbr⟩ := hrel
    have HCS := Lib.hid hcs
    have HBR := Lib.hid hbr
    have hbz := hbr.size
    obtain ⟨W, hW⟩ : ∃ W : World, W = wr := ⟨_, rfl⟩
    subst hW
    cases ag with
    | true =>
      have HGK := Lib.hid (hgk rfl)
      clear hgk hcs hbr
      go_wp2_with fail
      go_loopw [10, 11] (fun v kk wr => ∃ (k : Nat) (ag : Bool) (r' : Nat → Bool), k ≤ rs.length ∧ kk = .int .i64 k ∧ v = .bool ag ∧ Hid (Sn (rs.map st) u f n r' ∧ (ag = true → cnt n r' < cnt n r) ∧ (∀ v, r v = true → r' v = true) ∧ (ag = false → r' = r ∧ ∀ j (h : j < (rs.map st).length), j < k → u j = false → r (rs.map st)[j].1 = r (rs.map st)[j].2.1)) ∧ CellsAt wr gs gs n (bF r') ∧ Below w.heap.size w wr) (fun _ kk _ => rs.length - (intOf kk).toNat)
      case atStart => exact ⟨0, false, r, by omega, rfl, rfl, Lib.hid ⟨HS.out.1, (fun h => by cases h), fun _ h => h, fun _ => ⟨rfl, fun j _ h => by omega⟩⟩, HCS.out, HBR.out⟩
      case round =>
        clear HBR hbz
        obtain ⟨k, ag, r', hk, rfl, rfl, HI, hcs2, hbr⟩ := hrel
        have HCS2 := Lib.hid hcs2
        have HBR := Lib.hid hbr
        have hbz := hbr.size
        by_cases hlt : k < rs.length
        · obtain ⟨a, b, l, bA, oA, b', o', c1, hej, hst, ⟨ha, hb, hl1, hl2⟩, rfl, g0, g1, g2, g3, hbA, hb'⟩ := (HR.out.below hbr).street HOK.out hlt
          have q1 := (HBR.out.cell (p := ⟨gu, k, none⟩) hugl).trans (HU.out.2.2.1 k hlt)
          have q2 := hcs2.2.2.1 a ha
          have q3 := hcs2.2.2.1 b hb
          have q4 := hcs2.2.2.2
          have hkm : k < (rs.map st).length := by simpa using hlt
          have HSQ := Lib.hid (show (rs.map st)[k]'hkm = (a, b, l) by rw [List.getElem_map]; exact hst)
          have hkI : (k : Int) < (rs.length : Int) := by omega
          have hk0 : (0 : Int) ≤ (k : Int) := by omega
          have haI : (a : Int) < (n : Int) := by omega
          have hbI : (b : Int) < (n : Int) := by omega
          have ha0 : (0 : Int) ≤ (a : Int) := by omega
          have hb0 : (0 : Int) ≤ (b : Int) := by omega
          simp only [bF] at q1 q2 q3
          clear hej hst hbr hcs2 g3
          cases huk : u k with
          | true =>
            rw [huk] at q1
            have HN := Lib.hid (show ag = false → ∀ j (h : j < (rs.map st).length), j < k + 1 → u j = false → r (rs.map st)[j].1 = r (rs.map st)[j].2.1 from fun h j hj hj2 huj => by
              by_cases e : j = k
              · subst e; rw [huk] at huj; cases huj
              · exact (HI.out.2.2.2 h).2 j hj (by omega) huj)
            clear huk
            go_wp2
            go_quiet (fail)
            go_simp
            go_wp2
            go_roundw
            case rel => exact ⟨k + 1, ag, r', by omega, by go_num, rfl, Lib.hid ⟨HI.out.1, HI.out.2.1, HI.out.2.2.1, fun h => ⟨(HI.out.2.2.2 h).1, HN.out h⟩⟩, ⟨HCS2.out.1, HCS2.out.2.1, HCS2.out.2.2.1, HCS2.out.2.2.2⟩, below_drewN HBR.out _⟩
            case measure => simp [intOf]; omega
          | false =>
            rw [huk] at q1
            by_cases hne : r' a = r' b
            · have HN := Lib.hid (show ag = false → ∀ j (h : j < (rs.map st).length), j < k + 1 → u j = false → r (rs.map st)[j].1 = r (rs.map st)[j].2.1 from fun h j hj hj2 huj => by
                by_cases e : j = k
                · subst e; rw [HSQ.out, ← (HI.out.2.2.2 h).1]; exact hne
                · exact (HI.out.2.2.2 h).2 j hj (by omega) huj)
              obtain ⟨y, hy⟩ : ∃ y, r' b = y := ⟨_, rfl⟩
              rw [hne, hy] at q2
              rw [hy] at q3
              have tne : (y != y) = false := by cases y <;> rfl
              clear huk hne hy
              go_wp2
              go_quiet (fail)
              go_simp
              clear tne
              go_wp2
              go_roundw
              case rel => exact ⟨k + 1, ag, r', by omega, by go_num, rfl, Lib.hid ⟨HI.out.1, HI.out.2.1, HI.out.2.2.1, fun h => ⟨(HI.out.2.2.2 h).1, HN.out h⟩⟩, ⟨HCS2.out.1, HCS2.out.2.1, HCS2.out.2.2.1, HCS2.out.2.2.2⟩, below_drewN HBR.out _⟩
              case measure => simp [intOf]; omega
            · have HSB := Lib.hid (show Sn (rs.map st) u f n (fun v => r' v || (v == a || v == b)) by
                have h := HI.out.1.both hkm huk (by rw [HSQ.out]; exact ⟨ha, hb⟩) (by rw [HSQ.out]; exact hne)
                rw [HSQ.out] at h; exact h)
              have HCN := Lib.hid (show cnt n (fun v => r' v || (v == a || v == b)) < cnt n r from Nat.lt_of_lt_of_le (cnt_both ha hb hne) (cnt_mono HI.out.2.2.1 n))
              have HMO := Lib.hid (show ∀ v, r v = true → (r' v || (v == a || v == b)) = true from fun v hv => by rw [HI.out.2.2.1 v hv]; rfl)
              obtain ⟨x, hx⟩ : ∃ x, r' a = x := ⟨_, rfl⟩
              obtain ⟨y, hy⟩ : ∃ y, r' b = y := ⟨_, rfl⟩
              rw [hx] at q2
              rw [hy] at q3
              have hxy : (x = true ∧ y = false) ∨ (x = false ∧ y = true) := by
                rw [hx, hy] at hne
                revert hne; cases x <;> cases y <;> simp
              have hab : ¬ a = b := fun e => hne (by rw [e])
              have hba : ¬ b = a := fun e => hne (by rw [e])
              have q5 := q4 a
              have q6 := q4 b
              have HFIN := Lib.hid (fun (X : World) (hX : ∃ z, X = wr.drewN z) => show CellsAt ((X.setCell ⟨gs, a, none⟩ (.bool true)).setCell ⟨gs, b, none⟩ (.bool true)) gs gs n (bF (fun v => r' v || (v == a || v == b))) ∧ Below w.heap.size w ((X.setCell ⟨gs, a, none⟩ (.bool true)).setCell ⟨gs, b, none⟩ (.bool true)) from by
                obtain ⟨z, rfl⟩ := hX
                have h0 : CellsAt (wr.drewN z) gs gs n (bF r') := ⟨HCS2.out.1, HCS2.out.2.1, HCS2.out.2.2.1, HCS2.out.2.2.2⟩
                have h1 := h0.put ha (.bool true)
                rw [bF_put] at h1
                have h2 := h1.put hb (.bool true)
                rw [bF_put] at h2
                refine ⟨h2.congr fun i _ => ?_, ((below_drewN HBR.out z).setCell (p := ⟨gs, a, none⟩) (by rw [HGS.out]; exact Nat.le_refl _) _).setCell (p := ⟨gs, b, none⟩) (by rw [HGS.out]; exact Nat.le_refl _) _⟩
                simp [bF, Bool.or_assoc])
              clear huk hne hx hy q4
              rcases hxy with ⟨rfl, rfl⟩ | ⟨rfl, rfl⟩
              all_goals
                go_wp2
                go_quiet (fail)
                go_simp
                go_wp2
                go_roundw
                case rel => exact ⟨k + 1, true, _, by omega, by go_num, rfl, Lib.hid ⟨HSB.out, fun _ => HCN.out, HMO.out, (fun h => by cases h)⟩, (HFIN.out _ ⟨_, rfl⟩).1, (HFIN.out _ ⟨_, rfl⟩).2⟩
                case measure => simp [intOf]; omega
        · have hke : k = rs.length := by omega
          subst hke
          have HE := Lib.hid (show (ag = true → cnt n r' < cnt n r) ∧ Sn (rs.map st) u f n r' ∧ (ag = false → Su (rs.map st) u r') from ⟨HI.out.2.1, HI.out.1, fun h k hk huk => by
            obtain ⟨h1, h2⟩ := HI.out.2.2.2 h
            rw [h1]; exact h2 k hk (by simpa using hk) huk⟩)
          clear hbr hcs2
          go_wp2_with fail
          go_roundg (cnt n r)
          case measure => exact HGK.out
          case rel => exact ⟨ag, r', rfl, HE.out.1, Lib.hid HE.out.2, HCS2.out, HBR.out⟩
    | false =>
      have HSU := Lib.hid (HS.out.2 rfl)
      clear hgk hcs hbr
      go_wp2_with fail
      go_loopw [14] (fun kk wr => ∃ (k nn : Nat), k ≤ rs.length ∧ kk = .int .i64 k ∧ Hid (∀ j (h : j < (rs.map st).length), j < k → u j = false → r (rs.map st)[j].1 = true) ∧ wr = W.drewN nn) (fun kk _ => rs.length - (intOf kk).toNat)
      case atStart => exact ⟨0, 0, by omega, rfl, Lib.hid (fun j _ h => by omega), rfl⟩
      case round =>
        obtain ⟨k, nn, hk, rfl, HI, rfl⟩ := hrel
        by_cases hlt : k < rs.length
        · obtain ⟨a, b, l, bA, oA, b', o', c1, hej, hst, ⟨ha, hb, hl1, hl2⟩, rfl, g0, g1, g2, g3, hbA, hb'⟩ := (HR.out.below HBR.out).street HOK.out hlt
          have q1 := (HBR.out.cell (p := ⟨gu, k, none⟩) hugl).trans (HU.out.2.2.1 k hlt)
          have q2 := HCS.out.2.2.1 a ha
          have hkm : k < (rs.map st).length := by simpa using hlt
          have HSQ := Lib.hid (show (rs.map st)[k]'hkm = (a, b, l) by rw [List.getElem_map]; exact hst)
          have hkI : (k : Int) < (rs.length : Int) := by omega
          have hk0 : (0 : Int) ≤ (k : Int) := by omega
          have haI : (a : Int) < (n : Int) := by omega
          have ha0 : (0 : Int) ≤ (a : Int) := by omega
          simp only [bF] at q1 q2
          clear hej hst g2 g3
          have HNX := Lib.hid (show (u k = true ∨ r a = true) → ∀ j (h : j < (rs.map st).length), j < k + 1 → u j = false → r (rs.map st)[j].1 = true from fun h j hj hj2 huj => by
            by_cases e : j = k
            · subst e
              rcases h with h | h
              · rw [huj] at h; cases h
              · rw [HSQ.out]; exact h
            · exact HI.out j hj (by omega) huj)
          cases huk : u k with
          | true =>
            rw [huk] at q1
            have HN := Lib.hid (HNX.out (.inl huk))
            clear huk
            go_wp2
            go_roundw
            case rel => exact ⟨k + 1, _, by omega, by go_num, Lib.hid HN.out, rfl⟩
            case measure => simp [intOf]; omega
          | false =>
            rw [huk] at q1
            cases hra : r a with
            | true =>
              rw [hra] at q2
              have HN := Lib.hid (HNX.out (.inr hra))
              clear huk hra
              go_wp2
              go_roundw
              case rel => exact ⟨k + 1, _, by omega, by go_num, Lib.hid HN.out, rfl⟩
              case measure => simp [intOf]; omega
            | false =>
              rw [hra] at q2
              have HF := Lib.hid (show bb = false from by
                rw [Bool.eq_false_iff]
                intro hbt
                have h1 := (HB.out.1 hbt) k hkm huk
                rw [HSQ.out] at h1
                have h2 := (HS.out.1.done HSU.out a).2 h1
                rw [hra] at h2; cases h2)
              clear huk hra
              go_wp2
              go_ret
              exact ⟨ret_bool HF.out.symm, below_drewN HBR.out _⟩
        · have hke : k = rs.length := by omega
          subst hke
          have HF := Lib.hid (show bb = true from HB.out.2 (fun k hk huk => (HS.out.1.done HSU.out _).1 (HI.out k hk (by simpa using hk) huk)))
          go_wp2
          go_ret
          exact ⟨ret_bool HF.out.symm, below_drewN HBR.out _⟩
end Go.Proofs.Ytjklnknlifpidaa
