/- impl.OnceRound. No condition. -/
import Derived.Test.YtjklnknlifpidaaOr9
import Derived.Test.YtjklnknlifpidaaOr5
namespace Go.Proofs.Ytjklnknlifpidaa
open Go.RowKit

set_option maxRecDepth 100000 in
set_option maxHeartbeats 8000000 in
theorem impOnceRound_any (A : Option Addr) (c : Nat) (rs : List (List Int)) (n : Int) (V : List Int) (b : Bool) (w : World) (hr : Grid w 0 w.heap.size A rs) (hs : ∀ r ∈ rs, r.length ≤ 1000000000) (hV : OnceV n rs V b) :
    Calls Try.prog 12 #[.int .i64 n, .slice A rs.length c] w (OrRes w V b) := by
  have H := Lib.hid (townOf_all A c rs n w hr hs)
  have HV := Lib.hid hV
  obtain ⟨j0, hj0, hy0, hy1, hy2⟩ := info_parts Try.infoI
  have hmf : ∀ (fn : Fn) (first cap : Array Value) (w : World), (Instr.makeFunc fn first cap).run Try.prog w = .ok (.func fn first cap) w := fun _ _ _ _ => rfl
  clear hs hr hV
  cases h : townB n rs with
  | false =>
    have hVn : V = [] ∧ b = false := by
      rcases HV.out with ⟨_, h1, h2⟩ | ⟨h2, _⟩
      · exact ⟨h1, h2⟩
      · rw [h] at h2; cases h2
    obtain ⟨rfl, rfl⟩ := hVn
    have HT := Lib.hid h
    clear h
    go_enter Try.func12, Try.ntmps12
    go_wp2_with fail
    refine H.out.mono ?_
    rintro e w1 ⟨_, hp⟩
    obtain ⟨rfl, hb⟩ := hp HT.out
    have HB := Lib.hid (hb.alloc hb.size (.cells #[.slice none 0 0] 40))
    clear hb hp
    go_wp2_with fail
    go_ret2
    exact ⟨none, 0, rfl, Nat.le_refl _, .inl rfl, HB.out⟩
  | true =>
    obtain ⟨m, rfl, h1, h2, h3, h4, _⟩ := townB_parts h
    have HT := Lib.hid h
    have H4 := Lib.hid h4
    have HLT := Lib.hid (street_lt h4)
    clear h h4
    go_enter Try.func12, Try.ntmps12
    go_wp2_with fail
    refine H.out.mono ?_
    rintro e w1 ⟨hp, _⟩
    obtain ⟨A1, c1, bs, rfl, hcc, ht, hb⟩ := hp HT.out
    have hbA : Below w1.heap.size w1 (w1.alloc (.cells #[.slice A1 rs.length c1] 40)) := (Below.refl _ _).alloc (Nat.le_refl _) _
    have ho := oddsIn_any A1 c1 w.heap.size m bs (fresh (rs.map st)) (w1.alloc (.cells #[.slice A1 rs.length c1] 40)) (ht.keep hbA) (by rw [fresh_len]; exact h3) (fresh_lt H4.out) h2
    rw [fresh_len, fresh_fst] at ho
    have HTL := Lib.hid (show TownL (w1.alloc (.cells #[.slice A1 rs.length c1] 40)) w.heap.size w1.heap.size A1 bs (sws (rs.map st) fun _ => false) by
      rw [← fresh_sws]
      refine ⟨ht.keep hbA, ht.2.1.below hbA, fun x hx => ?_, by simp⟩
      obtain ⟨j, hj, rfl⟩ := List.getElem_of_mem hx
      exact lt_of_heap (ht.2.2.2 j hj (by have := ht.1; omega)).2)
    have hcA : (w1.alloc (.cells #[.slice A1 rs.length c1] 40)).cell? ⟨w1.heap.size, 0, none⟩ = some (.slice A1 rs.length c1) := by
      rw [cell_of_row _ _ 0 _ _ _ (heap_alloc_new w1 _)]; rfl
    have HCA := Lib.hid hcA
    have HB1 := Lib.hid (hb.trans (hbA.mono hb.size))
    have hz1 := hb.size
    have hol := oddsTo_len (rs.map st) m
    obtain ⟨O, hO⟩ : ∃ O, oddsTo m (rs.map st) = O := ⟨_, rfl⟩
    rw [hO] at ho hol
    have HO := Lib.hid ho
    have HOE := Lib.hid hO
    clear hp ht hb hbA ho hcA hO
    have HA := HCA.out
    go_wp2_with fail
    refine HO.out.mono ?_
    rintro e w2 ⟨A2, c2, rfl, _, _, hb2⟩
    have HB2 := Lib.hid hb2
    have hz2 : w1.heap.size < w2.heap.size := by have := hb2.size; simp at this; omega
    have HB12 := Lib.hid (HB1.out.trans (hb2.mono (by simp; omega)))
    have q6 : w2.cell? ⟨w1.heap.size, 0, none⟩ = some (.slice A1 rs.length c1) := cell_keep hb2 (by simp) HCA.out
    have HTL2 := Lib.hid (HTL.out.keep (hb2.mono (by simp)))
    clear hb2 HA
    by_cases hO0 : O.length = 0
    · have hOn : O = [] := List.eq_nil_of_length_eq_zero hO0
      have tO : decide (0 < O.length) = false := decide_eq_false (by omega)
      have tO2 : decide ((0 : Int) < (O.length : Int)) = false := decide_eq_false (by omega)
      obtain ⟨L, q, hw, hVL, hbt⟩ : ∃ L q, Way m (rs.map st) rs.length L q ∧ V = intsN L ∧ b = true := by
        rcases HV.out with ⟨h1, _⟩ | ⟨_, _, h3, L, q, h4, h5⟩
        · rw [HT.out, show ((m : Int)).toNat = m from rfl, HOE.out, hOn] at h1
          simp at h1
        · exact ⟨L, q, h4, h5, h3⟩
      subst hbt
      have HW := Lib.hid hw
      have HVL := Lib.hid hVL
      have HLL := Lib.hid hw.len
      clear hw hVL hOn hO0
      go_wp2_with (at_make; refine wpList_make_own _ rfl (.const (.int .i64 0)) (.tmp 27) _ rfl w2.heap.size 3 j0 (.int .i64 0) 1 Try.underlying24 hj0 hy0 hy1 _ _ _ rs.length rfl rfl rfl (by rw [hy2]; omega) (by unfold maxLen; omega) (Nat.le_refl _) ?_)
      intro w3 hown hg
      have hb3 : Below w2.heap.size w2 w3 := (Below.refl _ _).grown hg (Nat.le_refl _) (by simp)
      have hz3 : w2.heap.size < w3.heap.size := (hown.lt _ rfl).2
      have hb4 : Below w3.heap.size w3 (w3.alloc (.cells #[.int .i64 0] 3)) := (Below.refl _ _).alloc (Nat.le_refl _) _
      have hr4 : (w3.alloc (.cells #[.int .i64 0] 3)).heap[w3.heap.size]? = some (.cells #[.int .i64 0] 3 (0, 0)) := heap_alloc_new w3 _
      have q63 := cell_keep hb3 (by omega) q6
      have q64 := cell_keep hb4 (by omega) q63
      have HST := Lib.hid (show IrSt w (w3.alloc (.cells #[.int .i64 0] 3)) w1.heap.size w3.heap.size w2.heap.size rs.length c1 w.heap.size A1 bs (rs.map st) (inU L 0) (q 0) (some ⟨w2.heap.size, 0, none⟩) 0 rs.length ((intsN (L.take 0)).map (Value.int .i64)) by
        have e : inU L 0 = fun _ => false := by funext k; simp [inU]
        rw [e, HW.out.z]
        refine ⟨q64, hz2, ?_, frozen_of_row _ _ _ _ _ hr4, by simp, by omega, (HTL2.out.keep (hb3.mono (by omega))).keep (hb4.mono (by omega)), own_keep3 hown hb4, ?_, HB12.out.trans ((hb3.mono (by omega)).trans (hb4.mono (by omega))), hz1, by simp; omega⟩
        · rw [cell_of_row _ _ 0 _ _ _ hr4]; rfl
        · intro i hi
          have : w2.heap.size = i := Option.some.inj hi
          omega)
      clear hown hg hb3 hb4 hr4 q63 q6
      go_wp2_with fail
      clear q64
      go_loopw [8, 31] (fun v kk wr => ∃ (j l c' : Nat) (H : Option Addr), j ≤ rs.length ∧ kk = .int .i64 j ∧ v = .slice H l c' ∧ l = j ∧ IrSt w wr w1.heap.size w3.heap.size w2.heap.size rs.length c1 w.heap.size A1 bs (rs.map st) (inU L j) (q j) H l c' ((intsN (L.take j)).map (Value.int .i64))) (fun _ kk _ => rs.length - (intOf kk).toNat)
      case atStart => exact ⟨0, 0, rs.length, _, by omega, rfl, rfl, rfl, HST.out⟩
      case round =>
        clear HST
        obtain ⟨j, l, c', H, hj, rfl, rfl, hm, hst⟩ := hrel
        have HS := Lib.hid hst
        have HM := Lib.hid hm
        by_cases hlj : j < rs.length
        · have hjI : (j : Int) < (rs.length : Int) := by omega
          have hjz : (0 : Int) ≤ (j : Int) := by omega
          have hln : l < rs.length := by omega
          obtain ⟨x, hx⟩ : ∃ x, L.getD j 0 = x := ⟨_, rfl⟩
          have hxl := HW.out.in hlj
          rw [hx] at hxl
          have hxn : x < rs.length := by simpa using hxl
          have hI := indexStreet_any A1 c1 w.heap.size m (q j) x w1.heap.size w3.heap.size bs (rs.map st) (inU L j) wr hst.tw.1 (by rw [List.length_map]; exact h3) HLT.out h2 (by have := HW.out.may j hlj; rwa [hx] at this) (by have := HW.out.least j hlj; rwa [hx] at this) (by rw [List.length_map]; exact hst.cT) (by have := hst.cTB; have := hst.cZ; omega) hst.cA hst.cAz
          rw [List.length_map] at hI
          have HI := Lib.hid hI
          have HNX := Lib.hid (show q (j + 1) = oth ((rs.map st)[x]'hxl) (q j) by rw [HW.out.nx j hlj, hx, st_getD hxl])
          have HWK := Lib.hid (show walkU (inU L j) x = inU L (j + 1) by rw [← hx]; exact inU_walk (by rw [HLL.out]; exact hlj))
          have HTK := Lib.hid (show intsN (L.take (j + 1)) = intsN (L.take j) ++ [(x : Int)] by rw [intsN_take (by rw [HLL.out]; exact hlj), hx])
          have q6 := hst.cT
          clear hI hst hm hx
          go_wp2_with fail
          refine HI.out.mono ?_
          rintro e w4 ⟨rfl, hb4⟩
          have hs4 := HS.out.keep hb4
          obtain ⟨b0, o, d, hA, hb0, g0, hd, _, e1, g1, g2, g3, g4⟩ := Town.street hs4.tw.1 (show x < (sws (rs.map st) (inU L j)).length by rw [sws_len]; exact hxl)
          rw [sws_at hxl] at g1 g2 g4
          have fd : w4.frozen? ⟨d, 3, none⟩ = false := by
            obtain ⟨⟨f1, _, _, f4⟩, _⟩ := hs4.tw
            rw [sws_len] at f1
            have hkb : x < bs.length := by omega
            have f5 := (f4 x hkb (by rw [sws_len]; exact hxl)).2
            have : bs[x] = d := by rw [List.getElem?_eq_getElem hkb] at e1; exact Option.some.inj e1
            rw [this] at f5
            exact frozen_of_row _ _ _ _ _ f5
          have hs5 := hs4.walk hxl e1 (Nat.le_refl _)
          rw [HWK.out] at hs5
          obtain ⟨s, hs⟩ : ∃ s, (rs.map st)[x]'hxl = s := ⟨_, rfl⟩
          rw [hs] at g1 g2 HNX
          obtain ⟨sx, sy, sl⟩ := s
          dsimp only at g1 g2 g4
          have hL := leadsTo_any d sx sy sl (q j) (w4.setCell ⟨d, 3, none⟩ (.bool true)).drew (by rw [World.cell?_drew, World.cell?_setCell_other _ _ _ _ (by simp)]; exact g1) (by rw [World.cell?_drew, World.cell?_setCell_other _ _ _ _ (by simp)]; exact g2)
          rw [← HNX.out] at hL
          have HL := Lib.hid hL
          have HS5 := Lib.hid hs5
          have HS6 := Lib.hid ((hs5.at (q (j + 1))).keep (below_drewT _))
          have hc4 := hs4.cT
          have hc5 := hs5.cT
          have ha5 := hs5.cA
          have hf5 := hs5.cF
          have hp5 : (w4.setCell ⟨d, 3, none⟩ (.bool true)).cell? ⟨b0, o + x, none⟩ = some (.pointer (some ⟨d, 0, none⟩)) := by
            rw [World.cell?_setCell_other _ _ _ _ (by intro e; rw [← e, g4] at g0; cases g0)]; exact g0
          have hx0 : (0 : Int) ≤ (x : Int) := by omega
          have hxI : (x : Int) < (rs.length : Int) := by omega
          subst hA
          clear hb4 hs4 hs5 g1 g2 g3 hb0 hd e1 hs hL q6
          go_wp2_with fail
          go_region_with (go_at_call 38; (with_reducible refine HL.out.mono ?_); rintro e w5 ⟨rfl, rfl⟩)
          all_goals
            have hS7 := HS6.out
            generalize (((w4.setCell ⟨d, 3, none⟩ (.bool true)).setCell ⟨w3.heap.size, 0, none⟩ (.int .i64 ((q (j + 1) : Nat) : Int))).drew) = W5 at hS7 ⊢
            have HS7 := Lib.hid hS7
            have hbz := hS7.cZ
            clear hS7 hc4 hc5 ha5 hf5 g0 g4 fd hp5
            go_wp2_with (at_builtin; refine wpList_push_in rfl (.tmp 48) (.tmp 50) 24 rfl j0 (.int .i64 0) 8 Try.underlying24 hj0 hy0 hy1 hy2 rfl (by decide) _ _ rfl HS7.out.row [.int .i64 (x : Int)] rfl _ rfl rfl (by simp [Value.oneCell']) (by omega) (by omega) hbz ?_)
            intro H8 c8 w8 hown8 hg8 hn8
            have HS8 := Lib.hid (show IrSt w w8 w1.heap.size w3.heap.size w2.heap.size rs.length c1 w.heap.size _ bs (rs.map st) (inU L (j + 1)) (q (j + 1)) H8 (l + 1) c8 ((intsN (L.take (j + 1))).map (Value.int .i64)) from by
              rw [HTK.out, List.map_append]; exact HS7.out.push hown8 hg8 (hn8.imp id (fun ⟨z, e, h⟩ => by rw [e]; exact congrArg some h)))
            clear hown8 hg8 hn8 hbz
            go_wp2_with fail
            go_roundw
            case rel => exact ⟨j + 1, l + 1, c8, H8, by omega, by go_num, rfl, by rw [HM.out], HS8.out⟩
            case measure => simp [intOf]; omega
        · have hje : j = rs.length := by omega
          have hjI : ¬ ((j : Int) < (rs.length : Int)) := by omega
          subst hje
          have HF := Lib.hid (show OrRes w V true (.returned (.tuple #[.slice H l c', .bool true])) wr by
            have h1 := HS.out.row
            have h7 := HS.out.cZ
            rw [List.take_of_length_le (by rw [HLL.out]; exact Nat.le_refl _), ← HVL.out] at h1
            have hlV : l = V.length := by rw [HVL.out, intsN_len, HLL.out]; exact HM.out
            subst hlV
            have h8 := rowLess h1 (base' := w.heap.size) (by omega)
            exact ⟨H, c', rfl, own_cap h8, own_row_cells h8, HS.out.low⟩)
          clear hst hm
          go_wp2_with fail
          go_ret2
          exact HF.out
    · have tO : decide (0 < O.length) = true := decide_eq_true (by omega)
      have tO2 : decide ((0 : Int) < (O.length : Int)) = true := decide_eq_true (by omega)
      have hVn : V = [] ∧ b = false := by
        rcases HV.out with ⟨_, h1, h2⟩ | ⟨_, h2, _⟩
        · exact ⟨h1, h2⟩
        · rw [show ((m : Int)).toNat = m from rfl, HOE.out] at h2
          rw [h2] at hO0; simp at hO0
      obtain ⟨rfl, rfl⟩ := hVn
      clear hO0
      go_wp2_with fail
      go_ret2
      exact ⟨none, 0, rfl, Nat.le_refl _, .inl rfl, HB12.out⟩


theorem oddsTo_even {ss : List St} : ∀ {n : Nat}, oddsTo n ss = [] → ∀ v, v < n → degT ss v % 2 = 0
  | 0, _, v, hv => by omega
  | n + 1, h, v, hv => by
    by_cases e : degT ss n % 2 = 1
    · rw [oddsTo_yes e] at h; simp at h
    · rw [oddsTo_no e] at h
      by_cases e2 : v = n
      · rw [e2]; omega
      · exact oddsTo_even h v (by omega)
theorem exists_once (n : Int) (rs : List (List Int)) : ∃ V b, OnceV n rs V b := by
  cases h : (townB n rs && decide (oddsTo n.toNat (rs.map st) = [])) with
  | false => exact ⟨[], false, .inl ⟨h, rfl, rfl⟩⟩
  | true =>
    have h1 := Bool.and_eq_true_iff.1 h
    have h2 := of_decide_eq_true h1.2
    obtain ⟨m, rfl, g1, g2, g3, g4, g5⟩ := townB_parts h1.1
    have hlt := street_lt g4
    have h3 : RInv m (rs.map st) (fun _ => false) 0 := RInv.start hlt (fun v hv => (reach_iff hlt 0 v).1 (g5 v hv)) (oddsTo_even h2)
    obtain ⟨L, q, hw⟩ := exists_way hlt (by omega) h3
    rw [List.length_map] at hw
    exact ⟨_, true, .inr ⟨h1.1, h2, rfl, L, q, hw, rfl⟩⟩
theorem once_len {n : Int} {rs : List (List Int)} {V : List Int} {b : Bool} (h : OnceV n rs V b) : V.length ≤ 7 := by
  rcases h with ⟨_, rfl, _⟩ | ⟨ht, _, _, L, q, hw, rfl⟩
  · simp
  · obtain ⟨m, rfl, _, _, g3, _⟩ := townB_parts ht
    rw [List.length_map, hw.len]; exact g3


section
variable {n m : Nat} {ss : List St} {L : List Nat} {q : Nat → Nat}
theorem Way.inv (h : Way n ss m L q) (h0 : RInv n ss (fun _ => false) 0) : ∀ j, j ≤ m → RInv n ss (inU L j) (q j) := by
  intro j
  induction j with
  | zero =>
    intro _
    have e : inU L 0 = fun _ => false := by funext k; simp [inU]
    rw [e, h.z]; exact h0
  | succ j ih =>
    intro hj
    obtain ⟨hi, hu, he, hjn⟩ := h.may j (by omega)
    have h1 := ih (by omega)
    rw [← inU_walk (by rw [h.len]; omega), h.nx j (by omega), st_getD hi]
    exact h1.step hi hu (oth_leads he) hjn
theorem Way.fresh (h : Way n ss m L q) {j : Nat} (hj : j < m) : L.getD j 0 ∉ L.take j := by
  obtain ⟨_, hu, _, _⟩ := h.may j hj
  simpa [inU] using hu
theorem Way.nodup (h : Way n ss m L q) : L.Nodup := by
  have key : ∀ j, j ≤ m → (L.take j).Nodup := by
    intro j
    induction j with
    | zero => intro _; simp
    | succ j ih =>
      intro hj
      have hl : j < L.length := by rw [h.len]; omega
      rw [List.take_succ_eq_append_getElem hl, List.nodup_append]
      refine ⟨ih (by omega), by simp, fun a ha b hb => ?_⟩
      simp only [List.mem_singleton] at hb
      subst hb
      intro e
      subst e
      have := h.fresh (j := j) (by omega)
      rw [nat_getD hl] at this
      exact this ha
  have := key m (Nat.le_refl _)
  rwa [List.take_of_length_le (by rw [h.len]; exact Nat.le_refl _)] at this
theorem Way.all (h : Way n ss ss.length L q) {k : Nat} (hk : k < ss.length) : k ∈ L := by
  refine Classical.byContradiction fun hno => ?_
  have h1 : (k :: L).length ≤ (List.range ss.length).length := by
    have key : ∀ (l l' : List Nat), l.Nodup → (∀ y ∈ l, y ∈ l') → l.length ≤ l'.length := by
      intro l
      induction l with
      | nil => intro l' _ _; simp
      | cons a t ih =>
        intro l' hn hs
        have h1 := List.nodup_cons.1 hn
        have h3 := ih (l'.erase a) h1.2 (fun y hy => (List.mem_erase_of_ne (fun e => h1.1 (by rw [← e]; exact hy))).2 (hs y (by simp [hy])))
        have h4 := hs a (by simp)
        rw [List.length_erase_of_mem h4] at h3
        have := List.length_pos_of_mem h4
        simp only [List.length_cons]; omega
    refine key _ _ (List.nodup_cons.2 ⟨hno, h.nodup⟩) fun y hy => List.mem_range.2 ?_
    rcases List.mem_cons.1 hy with rfl | hy
    · exact hk
    · obtain ⟨j, hj, rfl⟩ := List.getElem_of_mem hy
      have := h.in (j := j) (by rw [h.len] at hj; exact hj)
      rwa [nat_getD hj] at this
  rw [List.length_range, List.length_cons, h.len] at h1
  omega
theorem Way.home (h : Way n ss ss.length L q) (h0 : RInv n ss (fun _ => false) 0) : q ss.length = 0 := by
  refine (h.inv h0 _ (Nat.le_refl _)).back (h.lt _ (Nat.le_refl _)) fun k hk => ?_
  simp only [inU, decide_eq_true_eq]
  rw [List.take_of_length_le (by rw [h.len]; exact Nat.le_refl _)]
  exact h.all hk
end
/-- The whole of what the law asks of an answer. -/
theorem once_back {m : Nat} {rs : List (List Int)} {L : List Nat} {q : Nat → Nat} (ht : townB (m : Int) rs = true) (ho : oddsTo m (rs.map st) = []) (h : Way m (rs.map st) rs.length L q) : q rs.length = 0 := by
  obtain ⟨m2, e, g1, g2, g3, g4, g5⟩ := townB_parts ht
  have e2 : m = m2 := by omega
  subst e2
  have hlt := street_lt g4
  have h3 : RInv m (rs.map st) (fun _ => false) 0 := RInv.start hlt (fun v hv => (reach_iff hlt 0 v).1 (g5 v hv)) (oddsTo_even ho)
  have h' : Way m (rs.map st) (rs.map st).length L q := by rw [List.length_map]; exact h
  have := h'.home h3
  rwa [List.length_map] at this
theorem ints_nodup {L : List Nat} (h : L.Nodup) : (intsN L).Nodup := h.map (fun k : Nat => (k : Int)) (fun a b hne e => hne (by omega))
end Go.Proofs.Ytjklnknlifpidaa
