/- OrderBy, both sides. No condition. -/
import Derived.Test.YtlgeoilnjgojnaaO3
import Derived.Laws.EntriesVeiled
import Derived.WalkSpells
namespace Go.Proofs.Ytlgeoilnjgojnaa
open Go.RowKit

def orderB (rs : List (List Int)) (s : ByteArray) : Bool := housesB rs && (isLoop s || isTurn s)
def orderV (rs : List (List Int)) (s : ByteArray) : List Int := if orderB rs s = true then ordL (ltH rs (isLoop s)) rs.length else []
theorem orderV_yes {rs : List (List Int)} {s : ByteArray} (h : orderB rs s = true) : orderV rs s = ordL (ltH rs (isLoop s)) rs.length := by rw [orderV, if_pos h]
theorem orderV_no {rs : List (List Int)} {s : ByteArray} (h : orderB rs s = false) : orderV rs s = [] := by rw [orderV, if_neg (by rw [h]; simp)]

/-- What OrderBy answers. -/
def OrdPost (V : List Int) (w : World) (e : Ending) (w' : World) : Prop :=
  ∃ A c, e = .returned (.slice A V.length c) ∧ V.length ≤ c ∧ OwnInts w' w.heap.size w'.heap.size A V ∧ Below w.heap.size w w'
theorem OrdPost.none {V : List Int} (hV : V = []) {w w' : World} (hb : Below w.heap.size w w') : OrdPost V w (.returned (.slice none 0 0)) w' := by
  subst hV
  exact ⟨Option.none, 0, rfl, Nat.le_refl _, .inl rfl, hb⟩

set_option maxRecDepth 100000 in
set_option maxHeartbeats 2000000 in
theorem stable_any (g n b7 b5 : Nat) (rs : List (List Int)) (loop : Bool) (w : World) (hn : n = rs.length) (hv : housesB rs = true) (hc : CmpAt w g loop b7 b5 rs) (hrow : RowIn w g (upFrom 0 n)) :
    Calls Try.prog 57 #[.slice (some ⟨g, 0, none⟩) n n, .func (Fn.func 58) #[] #[.pointer (some ⟨b7, 0, none⟩), .pointer (some ⟨b5, 0, none⟩)]] w fun e w' => e = .returned (.tuple #[]) ∧ RowIn w' g (ordL (ltH rs loop) n) ∧ Below g w w' := by
  have hl6 := house_len hv
  have hn6 : n ≤ 6 := by omega
  have H := Lib.hid (insSort_any g n b7 b5 rs loop w hn hv hc hrow _ rfl)
  have H2 : Hid (Calls Try.prog 97 #[.slice (some ⟨g, 0, none⟩) n n, .int .i64 n, .func (Fn.func 58) #[] #[.pointer (some ⟨b7, 0, none⟩), .pointer (some ⟨b5, 0, none⟩)]] w fun e w' => e = .returned (.tuple #[]) ∧ RowIn w' g (ordL (ltH rs loop) n) ∧ Below g w w') := by
    refine Lib.hid ?_
    have hd : decide ((20 : Int) ≤ (n : Int)) = false := decide_eq_false (by omega)
    have hd2 : decide ((20 : Int) < (n : Int)) = false := decide_eq_false (by omega)
    clear hn hv hc hrow
    go_enter Try.func97, Try.ntmps97
    go_wp2
    refine wp_loop_rounds 1 ?_
    rw [rounds_succ]
    go_wp2_with (go_at_call 118; ((with_reducible refine H.out.mono ?_); rintro e w2 ⟨rfl, h1, h2⟩))
    go_rounds 1
    go_end0
    exact ⟨rfl, h1, h2⟩
  clear hn hv hc hrow
  go_enter Try.func57, Try.ntmps57
  go_wp2_with fail
  refine H2.out.mono ?_
  rintro e w2 ⟨rfl, h1, h2⟩
  go_wp2
  go_end0
  exact ⟨rfl, h1, h2⟩

set_option maxRecDepth 100000 in
theorem eq_fn (f : Nat) (W : World) : (binOp BinOp.eql 69 (Value.func (Fn.func f) #[] #[]) Value.nilFunc).run Try.prog W = .ok (.bool false) W := by rfl
set_option maxRecDepth 100000 in
theorem eq_fn0 (W : World) : (binOp BinOp.eql 69 Value.nilFunc Value.nilFunc).run Try.prog W = .ok (.bool true) W := by rfl
theorem up_at (n k : Nat) (hk : k < n) : ((upFrom 0 n).take k ++ List.replicate (n - k) (0 : Int))[k]? = some 0 := by
  have hl : ((upFrom 0 n).take k).length = k := by rw [List.length_take, upFrom_length]; omega
  rw [List.getElem?_append_right (by omega), hl, Nat.sub_self, List.getElem?_replicate, if_pos (by omega)]
theorem up_set (n k : Nat) (hk : k < n) : ((upFrom 0 n).take k ++ List.replicate (n - k) 0).set k (k : Int) = (upFrom 0 n).take (k + 1) ++ List.replicate (n - (k + 1)) 0 := by
  have h := fill_set (0 : Int) (upFrom 0 n) k (by rw [upFrom_length]; exact hk)
  rw [upFrom_get _ _ _ hk, Int.zero_add] at h
  simpa only [upFrom_length] using h

set_option maxRecDepth 100000 in
set_option maxHeartbeats 8000000 in
theorem impOrder_any (A : Option Addr) (c : Nat) (rs : List (List Int)) (s : ByteArray) (w : World) (hr : Grid w 0 w.heap.size A rs) (hs : ∀ r ∈ rs, r.length ≤ 1000000000) :
    Calls Try.prog 19 #[.slice A rs.length c, .string s] w (OrdPost (orderV rs s) w) := by
  obtain ⟨i0, hi0, hz0, hz1, hz2⟩ := info_parts Try.info3
  have H := Lib.hid (housesOf_all A c rs w hr hs)
  clear hs
  by_cases hB : housesB rs = true
  · have HB := Lib.hid hB
    have hl6 := house_len hB
    by_cases hL : isLoop s = true
    · have HV := Lib.hid (orderV_yes (show orderB rs s = true by simp only [orderB, hB, hL, Bool.true_or, Bool.and_self]))
      have HOF := Lib.hid (fun X => orderOf_loop s X hL)
      have HLP := Lib.hid hL
      have hef := fun W => eq_fn 95 W
      clear hB hL
      go_enter Try.func19, Try.ntmps19
      go_wp2_with fail
      refine H.out.mono ?_
      rintro e w1 ⟨h1, _⟩
      obtain ⟨A1, c1, rfl, _, ho, hb⟩ := h1 HB.out
      have HB1 := Lib.hid hb
      have HO := Lib.hid ho
      have hb1 := hb.size
      clear h1 hb ho
      go_wp2_with (first | (go_at_call 56; ((with_reducible refine (HOF.out _).mono ?_); rintro e w' ⟨rfl, rfl⟩)) | (at_make; refine wpList_make_full _ rfl (.tmp 24) (.tmp 24) _ rfl w1.heap.size 3 i0 (.int .i64 0) 1 Try.underlying31 hi0 hz0 hz1 _ _ _ _ rs.length rfl rfl rfl rfl (by rw [hz2]; omega) (by unfold maxLen; omega) (by simp; omega) ?_))
      intro w2 hown hg
      have hblk := own_heapN hown
      have hcs : (madeCells #[Value.int .i64 0] rs.length).toList = ((upFrom 0 rs.length).take 0 ++ List.replicate (rs.length - 0) 0).map (Value.int .i64) := by
        refine (toList_madeCells_one _ _).trans ?_
        simp
      have hblk2 : RowIn w2 (w1.heap.size + 1 + 1) ((upFrom 0 rs.length).take 0 ++ List.replicate (rs.length - 0) 0) := by
        unfold RowIn
        rw [← hcs]
        exact hblk
      have hV2 : CmpAt ((w1.alloc (.cells #[Value.slice A1 rs.length c1] 54)).alloc (.cells #[Value.func (Fn.func 95) #[] #[]] 69)) (w1.heap.size + 1 + 1) true (w1.heap.size + 1) w1.heap.size rs := by
        refine ⟨?_, by omega, by omega, A1, rs.length, c1, ?_, rfl, ?_⟩
        · rw [World.cell?_alloc_at _ _ _ _ (World.size_alloc _ _).symm]; rfl
        · rw [((Below.refl _ _).alloc (Nat.le_refl _) _).cell (p := ⟨w1.heap.size, 0, none⟩) (by simp)]
          rw [World.cell?_alloc_at _ _ _ _ rfl]; rfl
        · exact (HO.out.below (((Below.refl _ _).alloc (Nat.le_refl _) _).alloc (by simp) _)).row.more (by omega)
      have hbV : Below (w1.heap.size + 1 + 1) ((w1.alloc (.cells #[Value.slice A1 rs.length c1] 54)).alloc (.cells #[Value.func (Fn.func 95) #[] #[]] 69)) w2 := below_g hg (by simp)
      have HC2 := Lib.hid (hV2.keep hbV)
      have HB2 := Lib.hid (show Below w.heap.size w w2 from (((HB1.out.alloc hb1 _).alloc (by simp; omega) _).trans (hbV.mono (by omega))))
      have HBK := Lib.hid hblk2
      have hg2 : w1.heap.size + 1 + 1 < w2.heap.size := lt_of_heap hblk2
      clear hown hg hblk hcs hblk2 hV2 hbV hef
      go_wp2
      go_loopw [28] (fun v wr => ∃ k : Nat, k ≤ rs.length ∧ v = .int .i64 k ∧ RowIn wr (w1.heap.size + 1 + 1) ((upFrom 0 rs.length).take k ++ List.replicate (rs.length - k) 0) ∧ Below (w1.heap.size + 1 + 1) w2 wr) (fun v _ => rs.length - (intOf v).toNat)
      case atStart => exact ⟨0, by omega, rfl, HBK.out, Below.refl _ _⟩
      case round =>
        obtain ⟨k, hk, rfl, hrow, hbr⟩ := hrel
        clear HBK
        by_cases hlt : k < rs.length
        · have hy := hrow.at (k := k) (z := 0) (up_at _ _ hlt)
          have hf := hrow.froz k
          have hset := hrow.set k (k : Int)
          rw [up_set _ _ hlt] at hset
          have HS := Lib.hid hset
          have HBS := Lib.hid (hbr.setCell (p := ⟨w1.heap.size + 1 + 1, k, none⟩) (Nat.le_refl _) (.int .i64 (k : Int)))
          have hkI : (k : Int) < rs.length := by omega
          clear hrow hbr hset
          go_wp2
          go_roundw
          case rel => exact ⟨k + 1, by omega, by go_num, HS.out, HBS.out⟩
          case measure => simp [intOf]; omega
        · have hk' : k = rs.length := by omega
          have hrow2 : RowIn wr (w1.heap.size + 1 + 1) (upFrom 0 rs.length) := by
            rw [hk', Nat.sub_self, List.take_of_length_le (by rw [upFrom_length]; exact Nat.le_refl _)] at hrow
            simpa using hrow
          have HSTB := Lib.hid (stable_any (w1.heap.size + 1 + 1) rs.length (w1.heap.size + 1) w1.heap.size rs true wr rfl HB.out (HC2.out.keep hbr) hrow2)
          have HBR := Lib.hid hbr
          clear hrow hrow2 hbr hk'
          go_wp2_with (go_at_call 57; ((with_reducible refine HSTB.out.mono ?_); rintro e w5 ⟨rfl, h1, h2⟩))
          go_ret
          rw [HV.out, HLP.out]
          have hl := ordL_length (ltH rs true) rs.length
          refine ⟨some ⟨w1.heap.size + 1 + 1, 0, none⟩, rs.length, by rw [hl]; rfl, by omega, own_block h1 (by omega), ?_⟩
          exact HB2.out.trans ((HBR.out.trans h2).mono (by omega))
    by_cases hT : isTurn s = true
    · have hL' : isLoop s = false := by simpa using hL
      have HV := Lib.hid (orderV_yes (show orderB rs s = true by simp only [orderB, hB, hT, Bool.or_true, Bool.and_self]))
      have HOF := Lib.hid (fun X => orderOf_turn s X hL' hT)
      have HLP := Lib.hid hL'
      have hef := fun W => eq_fn 96 W
      clear hT hL'
      clear hB hL
      go_enter Try.func19, Try.ntmps19
      go_wp2_with fail
      refine H.out.mono ?_
      rintro e w1 ⟨h1, _⟩
      obtain ⟨A1, c1, rfl, _, ho, hb⟩ := h1 HB.out
      have HB1 := Lib.hid hb
      have HO := Lib.hid ho
      have hb1 := hb.size
      clear h1 hb ho
      go_wp2_with (first | (go_at_call 56; ((with_reducible refine (HOF.out _).mono ?_); rintro e w' ⟨rfl, rfl⟩)) | (at_make; refine wpList_make_full _ rfl (.tmp 24) (.tmp 24) _ rfl w1.heap.size 3 i0 (.int .i64 0) 1 Try.underlying31 hi0 hz0 hz1 _ _ _ _ rs.length rfl rfl rfl rfl (by rw [hz2]; omega) (by unfold maxLen; omega) (by simp; omega) ?_))
      intro w2 hown hg
      have hblk := own_heapN hown
      have hcs : (madeCells #[Value.int .i64 0] rs.length).toList = ((upFrom 0 rs.length).take 0 ++ List.replicate (rs.length - 0) 0).map (Value.int .i64) := by
        refine (toList_madeCells_one _ _).trans ?_
        simp
      have hblk2 : RowIn w2 (w1.heap.size + 1 + 1) ((upFrom 0 rs.length).take 0 ++ List.replicate (rs.length - 0) 0) := by
        unfold RowIn
        rw [← hcs]
        exact hblk
      have hV2 : CmpAt ((w1.alloc (.cells #[Value.slice A1 rs.length c1] 54)).alloc (.cells #[Value.func (Fn.func 96) #[] #[]] 69)) (w1.heap.size + 1 + 1) false (w1.heap.size + 1) w1.heap.size rs := by
        refine ⟨?_, by omega, by omega, A1, rs.length, c1, ?_, rfl, ?_⟩
        · rw [World.cell?_alloc_at _ _ _ _ (World.size_alloc _ _).symm]; rfl
        · rw [((Below.refl _ _).alloc (Nat.le_refl _) _).cell (p := ⟨w1.heap.size, 0, none⟩) (by simp)]
          rw [World.cell?_alloc_at _ _ _ _ rfl]; rfl
        · exact (HO.out.below (((Below.refl _ _).alloc (Nat.le_refl _) _).alloc (by simp) _)).row.more (by omega)
      have hbV : Below (w1.heap.size + 1 + 1) ((w1.alloc (.cells #[Value.slice A1 rs.length c1] 54)).alloc (.cells #[Value.func (Fn.func 96) #[] #[]] 69)) w2 := below_g hg (by simp)
      have HC2 := Lib.hid (hV2.keep hbV)
      have HB2 := Lib.hid (show Below w.heap.size w w2 from (((HB1.out.alloc hb1 _).alloc (by simp; omega) _).trans (hbV.mono (by omega))))
      have HBK := Lib.hid hblk2
      have hg2 : w1.heap.size + 1 + 1 < w2.heap.size := lt_of_heap hblk2
      clear hown hg hblk hcs hblk2 hV2 hbV hef
      go_wp2
      go_loopw [28] (fun v wr => ∃ k : Nat, k ≤ rs.length ∧ v = .int .i64 k ∧ RowIn wr (w1.heap.size + 1 + 1) ((upFrom 0 rs.length).take k ++ List.replicate (rs.length - k) 0) ∧ Below (w1.heap.size + 1 + 1) w2 wr) (fun v _ => rs.length - (intOf v).toNat)
      case atStart => exact ⟨0, by omega, rfl, HBK.out, Below.refl _ _⟩
      case round =>
        obtain ⟨k, hk, rfl, hrow, hbr⟩ := hrel
        clear HBK
        by_cases hlt : k < rs.length
        · have hy := hrow.at (k := k) (z := 0) (up_at _ _ hlt)
          have hf := hrow.froz k
          have hset := hrow.set k (k : Int)
          rw [up_set _ _ hlt] at hset
          have HS := Lib.hid hset
          have HBS := Lib.hid (hbr.setCell (p := ⟨w1.heap.size + 1 + 1, k, none⟩) (Nat.le_refl _) (.int .i64 (k : Int)))
          have hkI : (k : Int) < rs.length := by omega
          clear hrow hbr hset
          go_wp2
          go_roundw
          case rel => exact ⟨k + 1, by omega, by go_num, HS.out, HBS.out⟩
          case measure => simp [intOf]; omega
        · have hk' : k = rs.length := by omega
          have hrow2 : RowIn wr (w1.heap.size + 1 + 1) (upFrom 0 rs.length) := by
            rw [hk', Nat.sub_self, List.take_of_length_le (by rw [upFrom_length]; exact Nat.le_refl _)] at hrow
            simpa using hrow
          have HSTB := Lib.hid (stable_any (w1.heap.size + 1 + 1) rs.length (w1.heap.size + 1) w1.heap.size rs false wr rfl HB.out (HC2.out.keep hbr) hrow2)
          have HBR := Lib.hid hbr
          clear hrow hrow2 hbr hk'
          go_wp2_with (go_at_call 57; ((with_reducible refine HSTB.out.mono ?_); rintro e w5 ⟨rfl, h1, h2⟩))
          go_ret
          rw [HV.out, HLP.out]
          have hl := ordL_length (ltH rs false) rs.length
          refine ⟨some ⟨w1.heap.size + 1 + 1, 0, none⟩, rs.length, by rw [hl]; rfl, by omega, own_block h1 (by omega), ?_⟩
          exact HB2.out.trans ((HBR.out.trans h2).mono (by omega))
    · have hL' : isLoop s = false := by simpa using hL
      have hT' : isTurn s = false := by simpa using hT
      have HV := Lib.hid (orderV_no (show orderB rs s = false by simp only [orderB, hT', hL', Bool.or_false, Bool.and_false]))
      have HOF := Lib.hid (fun X => orderOf_none s X hL' hT')
      have hef := fun W => eq_fn0 W
      clear hB hL hT hL' hT'
      go_enter Try.func19, Try.ntmps19
      go_wp2_with fail
      refine H.out.mono ?_
      rintro e w1 ⟨h1, _⟩
      obtain ⟨A1, c1, rfl, _, ho, hb⟩ := h1 HB.out
      have HB1 := Lib.hid hb
      have hb1 := hb.size
      clear h1 hb ho
      go_wp2_with (first | (go_at_call 56; ((with_reducible refine (HOF.out _).mono ?_); rintro e w' ⟨rfl, rfl⟩)))
      go_ret
      exact OrdPost.none HV.out ((HB1.out.alloc hb1 _).alloc (by simp; omega) _)
  · have hB' : housesB rs = false := by simpa using hB
    have HB := Lib.hid hB'
    have HV := Lib.hid (orderV_no (show orderB rs s = false by simp only [orderB, hB', Bool.false_and]))
    clear hB hB'
    go_enter Try.func19, Try.ntmps19
    go_wp2_with fail
    refine H.out.mono ?_
    rintro e w1 ⟨_, h2⟩
    obtain ⟨rfl, hb⟩ := h2 HB.out
    have HB1 := Lib.hid hb
    have hb1 := hb.size
    clear h2 hb
    by_cases hL : isLoop s = true
    · have HOF := Lib.hid (fun X => orderOf_loop s X hL)
      clear hL
      go_wp2_with (first | (go_at_call 56; ((with_reducible refine (HOF.out _).mono ?_); rintro e w' ⟨rfl, rfl⟩)))
      go_ret
      exact OrdPost.none HV.out ((HB1.out.alloc hb1 _).alloc (by simp; omega) _)
    · have hL' : isLoop s = false := by simpa using hL
      by_cases hT : isTurn s = true
      · have HOF := Lib.hid (fun X => orderOf_turn s X hL' hT)
        clear hL hT hL'
        go_wp2_with (first | (go_at_call 56; ((with_reducible refine (HOF.out _).mono ?_); rintro e w' ⟨rfl, rfl⟩)))
        go_ret
        exact OrdPost.none HV.out ((HB1.out.alloc hb1 _).alloc (by simp; omega) _)
      · have hT' : isTurn s = false := by simpa using hT
        have HOF := Lib.hid (fun X => orderOf_none s X hL' hT')
        clear hL hT hL' hT'
        go_wp2_with (first | (go_at_call 56; ((with_reducible refine (HOF.out _).mono ?_); rintro e w' ⟨rfl, rfl⟩)))
        go_ret
        exact OrdPost.none HV.out ((HB1.out.alloc hb1 _).alloc (by simp; omega) _)
end Go.Proofs.Ytlgeoilnjgojnaa
