/- Odd corners: spec.odds, impl.oddsIn. No condition. -/
import Derived.Test.YtjklnknlifpidaaN7
import Derived.Test.YtjklnknlifpidaaG6
import Derived.Test.YtjklnknlifpidaaEx
namespace Go.Proofs.Ytjklnknlifpidaa
open Go.RowKit

def ends1 (i : Nat) (s : St) : Nat := (if s.1 = i then 1 else 0) + (if s.2.1 = i then 1 else 0)
def degT (ss : List St) (i : Nat) : Nat := (ss.map (ends1 i)).sum
def oddsTo (k : Nat) (ss : List St) : List Int := ((List.range k).filter fun i => degT ss i % 2 == 1).map Int.ofNat
theorem degT_take {ss : List St} {k : Nat} (hk : k < ss.length) (i : Nat) : degT (ss.take (k + 1)) i = degT (ss.take k) i + ends1 i ss[k] := by
  unfold degT; rw [List.take_succ_eq_append_getElem hk, List.map_append, List.sum_append]; simp
theorem ends1_le (i : Nat) (s : St) : ends1 i s ≤ 2 := by unfold ends1; split <;> split <;> omega
theorem degT_le (ss : List St) (i : Nat) : degT ss i ≤ 2 * ss.length := by
  unfold degT
  induction ss with
  | nil => simp
  | cons s ss ih => have := ends1_le i s; simp only [List.map_cons, List.sum_cons, List.length_cons]; omega
theorem degT_take_le (ss : List St) (k i : Nat) : degT (ss.take k) i ≤ 2 * k := by
  have := degT_le (ss.take k) i
  simp only [List.length_take] at this; omega
theorem oddsTo_yes {ss : List St} {k : Nat} (h : degT ss k % 2 = 1) : oddsTo (k + 1) ss = oddsTo k ss ++ [(k : Int)] := by
  unfold oddsTo; rw [List.range_succ, List.filter_append, List.map_append]; simp [h]
theorem oddsTo_no {ss : List St} {k : Nat} (h : ¬ degT ss k % 2 = 1) : oddsTo (k + 1) ss = oddsTo k ss := by
  unfold oddsTo; rw [List.range_succ, List.filter_append, List.map_append]; simp [h]
theorem oddsTo_len (ss : List St) (k : Nat) : (oddsTo k ss).length ≤ k := by
  unfold oddsTo; rw [List.length_map]; have := List.length_filter_le (fun i => degT ss i % 2 == 1) (List.range k); simpa using this

theorem Try.infoI : (Try.prog.info? 3).map (fun i => (i.zero, i.size, i.bytes)) = some (some (.int .i64 0), 1, 8) := by kernel_rfl
/-- What a call that answers a fresh row of numbers says. -/
theorem first_litN (W : World) : (W.alloc (.cells #[] 3)).ownsRow W.heap.size 3 1 (.slice (some ⟨W.heap.size, 0, none⟩) 0 0) 0 [] := ⟨rfl, .inr ⟨W.heap.size, 0, #[], rfl, Nat.le_refl _, heap_alloc_new W _, Nat.le_refl _, by simp [maxLen], rfl, rfl⟩⟩
def iRes (w : World) (V : List Int) (e : Ending) (w' : World) : Prop := ∃ A c, e = .returned (.slice A V.length c) ∧ V.length ≤ c ∧ OwnInts w' w.heap.size w'.heap.size A V ∧ Below w.heap.size w w'
theorem iRes_row {w w' : World} {A : Option Addr} {n c : Nat} {V : List Int} (h : w'.ownsRow w.heap.size 3 1 (.slice A n c) n (V.map (Value.int .i64))) (hn : n = V.length) (hb : Below w.heap.size w w') : iRes w V (.returned (.slice A n c)) w' := by
  subst hn
  exact ⟨A, c, rfl, own_cap h, own_row_cells h, hb⟩

set_option maxRecDepth 100000 in
set_option maxHeartbeats 4000000 in
theorem specOdds_low (A : Option Addr) (c0 : Nat) (rs : List (List Int)) (n : Nat) (w : World) (hr : Grid w 0 w.heap.size A rs) (hn5 : n ≤ 5) (hl7 : rs.length ≤ 7) (hok : rs.all (okS n) = true) :
    Calls Try.prog 30 #[.int .i64 (n : Int), .slice A rs.length c0] w (iRes w (oddsTo n (rs.map st))) := by
  have HOK := Lib.hid hok
  obtain ⟨i0, hi0, hz0, hz1, hz2⟩ := info_parts Try.infoI
  have HST := Lib.hid (first_litN w)
  clear hok
  go_enter Try.func30, Try.ntmps30
  go_wp2
  go_loopw [5, 6] (fun v i wr => ∃ (k m : Nat) (H : Option Addr) (cH : Nat), k ≤ n ∧ i = .int .i64 k ∧ v = .slice H m cH ∧ m = (oddsTo k (rs.map st)).length ∧ wr.ownsRow w.heap.size 3 1 (.slice H m cH) m ((oddsTo k (rs.map st)).map (Value.int .i64)) ∧ Below w.heap.size w wr) (fun _ i _ => n - (intOf i).toNat)
  case atStart => exact ⟨0, 0, _, _, by omega, rfl, rfl, rfl, HST.out, (Below.refl _ _).alloc (Nat.le_refl _) _⟩
  case round =>
    obtain ⟨k, m, H, cH, hk, rfl, rfl, hm, hown, hbr⟩ := hrel
    have HM := Lib.hid hm
    have HO := Lib.hid hown
    have HBR := Lib.hid hbr
    have hbz := hbr.size
    have hm5 : m ≤ 5 := by have := oddsTo_len (rs.map st) k; omega
    clear hm hown
    by_cases hlt : k < n
    · go_wp2
      go_loop [7, 8] (fun d j => ∃ q : Nat, q ≤ rs.length ∧ j = .int .i64 q ∧ d = .int .i64 (degT ((rs.map st).take q) k : Nat)) (fun _ j => rs.length - (intOf j).toNat)
      case atStart => exact ⟨0, by omega, rfl, rfl⟩
      case round =>
        obtain ⟨q, hq, rfl, rfl⟩ := hrel
        by_cases hlq : q < rs.length
        · obtain ⟨x, y, l, bA, oA, b', o', c1, hej, hst, ⟨hx, hy, hl1, hl2⟩, rfl, g0, g1, g2, g3, hbA, hb'⟩ := (hr.below HBR.out).street HOK.out hlq
          have HD := Lib.hid (degT_take (ss := rs.map st) (k := q) (by simpa using hlq) k)
          have HSQ := Lib.hid (show (rs.map st)[q]'(by simpa using hlq) = (x, y, l) by rw [List.getElem_map]; exact hst)
          have hdl := degT_take_le (rs.map st) q k
          obtain ⟨d, hd⟩ : ∃ d, degT ((rs.map st).take q) k = d := ⟨_, rfl⟩
          have HDE := Lib.hid hd
          rw [hd] at hdl ⊢
          clear hej hst hd hbr
          by_cases e1 : x = k
          · have f1 : ((x : Int) == (k : Int)) = true := by simp; omega
            by_cases e2 : y = k
            · have f2 : ((y : Int) == (k : Int)) = true := by simp; omega
              have HF := Lib.hid (show degT ((rs.map st).take (q + 1)) k = d + 1 + 1 by rw [HD.out, HSQ.out, HDE.out]; simp [ends1, e1, e2])
              clear e1 e2
              go_wp2
              go_round
              case rel => exact ⟨q + 1, by omega, by go_num, by rw [HF.out]; go_num⟩
              case measure => simp [intOf]; omega
            · have f2 : ((y : Int) == (k : Int)) = false := by simp; omega
              have HF := Lib.hid (show degT ((rs.map st).take (q + 1)) k = d + 1 by rw [HD.out, HSQ.out, HDE.out]; simp [ends1, e1, e2])
              clear e1 e2
              go_wp2
              go_round
              case rel => exact ⟨q + 1, by omega, by go_num, by rw [HF.out]; go_num⟩
              case measure => simp [intOf]; omega
          · have f1 : ((x : Int) == (k : Int)) = false := by simp; omega
            by_cases e2 : y = k
            · have f2 : ((y : Int) == (k : Int)) = true := by simp; omega
              have HF := Lib.hid (show degT ((rs.map st).take (q + 1)) k = d + 1 by rw [HD.out, HSQ.out, HDE.out]; simp [ends1, e1, e2])
              clear e1 e2
              go_wp2
              go_round
              case rel => exact ⟨q + 1, by omega, by go_num, by rw [HF.out]; go_num⟩
              case measure => simp [intOf]; omega
            · have f2 : ((y : Int) == (k : Int)) = false := by simp; omega
              have HF := Lib.hid (show degT ((rs.map st).take (q + 1)) k = d by rw [HD.out, HSQ.out, HDE.out]; simp [ends1, e1, e2])
              clear e1 e2
              go_wp2
              go_round
              case rel => exact ⟨q + 1, by omega, by go_num, by rw [HF.out]⟩
              case measure => simp [intOf]; omega
        · have hqq : q = rs.length := by omega
          subst hqq
          have htk : (rs.map st).take rs.length = rs.map st := by rw [← List.length_map (f := st)]; exact List.take_length
          rw [htk]
          have hdl := degT_le (rs.map st) k
          rw [List.length_map] at hdl
          by_cases ho : degT (rs.map st) k % 2 = 1
          · have HF := Lib.hid (oddsTo_yes ho)
            have hpar : ((degT (rs.map st) k : Int) % 2 == 1) = true := by simp; omega
            have HOO := Lib.hid HO.out
            have hown := HO.out
            obtain ⟨d, hd⟩ : ∃ d, degT (rs.map st) k = d := ⟨_, rfl⟩
            rw [hd] at hpar hdl ⊢
            clear htk hd ho hbr
            go_wp2_with (at_builtin; refine wpList_push rfl (.tmp 44) (.tmp 46) 24 rfl i0 (.int .i64 0) 8 Try.underlying24 hi0 hz0 hz1 hz2 rfl (by decide) _ _ rfl hown [.int .i64 (k : Int)] rfl rfl (by simp [Value.oneCell']) (by omega) (by omega) hbz ?_)
            intro H' c' w6 hown6 hg6
            have HW := Lib.hid (And.intro hown6 (HBR.out.grown hg6 hbz (fun i hi => (hown.lt _ hi).1)))
            clear hown hown6 hg6
            go_wp2
            go_roundw
            case rel => exact ⟨k + 1, m + 1, H', c', by omega, by go_num, rfl, by rw [HF.out, List.length_append, ← HM.out]; rfl, by rw [HF.out, List.map_append]; exact HW.out.1, HW.out.2⟩
            case measure => simp [intOf]; omega
          · have HF := Lib.hid (oddsTo_no ho)
            have hpar : ((degT (rs.map st) k : Int) % 2 == 1) = false := by simp; omega
            obtain ⟨d, hd⟩ : ∃ d, degT (rs.map st) k = d := ⟨_, rfl⟩
            rw [hd] at hpar hdl ⊢
            clear htk hd ho hbr
            go_wp2
            go_roundw
            case rel => exact ⟨k + 1, m, H, cH, by omega, by go_num, rfl, by rw [HF.out]; exact HM.out, by rw [HF.out]; exact HO.out, HBR.out⟩
            case measure => simp [intOf]; omega
    · have hkn : k = n := by omega
      subst hkn
      have HF := Lib.hid (iRes_row HO.out HM.out HBR.out)
      go_wp2
      go_ret
      exact HF.out
end Go.Proofs.Ytjklnknlifpidaa
