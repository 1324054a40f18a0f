/- Lists of texts: equal ones are found equal, marks are written and found again. No condition. -/
import Derived.Test.YtempfagjbpnlcaaMk
import Derived.Test.YtempfagjbpnlcaaMark2
import Derived.Test.YtempfagjbpnlcaaEq
import Derived.Deep.RegionHeld3
import Derived.Test.YtempfagjbpnlcaaRq4
namespace Go.Proofs.Ytempfagjbpnlcaa
open Go.RowKit

def sv (ts : List ByteArray) : List Value := ts.map Value.string
theorem sv_length (ts : List ByteArray) : (sv ts).length = ts.length := by simp [sv]
theorem sv_get (ts : List ByteArray) (k : Nat) (h : k < ts.length) : (sv ts)[k]? = some (.string ts[k]) := by simp [sv, h]
def mkS (k n : Nat) : List ByteArray := (List.range n).map fun i => mkT (k + i)
theorem mkS_length (k n : Nat) : (mkS k n).length = n := by simp [mkS]
theorem mkS_get (k n i : Nat) (h : i < n) : (mkS k n)[i]'(by rw [mkS_length]; exact h) = mkT (k + i) := by simp [mkS]
theorem mkS_succ (k j : Nat) : mkS k (j + 1) = mkS k j ++ [mkT (k + j)] := by simp [mkS, List.range_succ]
theorem markS_step (ts : List ByteArray) (k j : Nat) (hj : j < ts.length) :
    (sv (mkS k j ++ ts.drop j)).set j (.string (mkT (k + j))) = sv (mkS k (j + 1) ++ ts.drop (j + 1)) := by
  have hl : (sv (mkS k j)).length = j := by rw [sv_length, mkS_length]
  unfold sv at hl ⊢
  rw [List.drop_eq_getElem_cons hj, mkS_succ, List.map_append, List.set_append_right _ _ (by omega), hl]
  simp only [List.map_cons, Nat.sub_self, List.set_cons_zero, List.map_append, List.append_assoc, List.cons_append, List.nil_append]

set_option maxRecDepth 100000 in
set_option maxHeartbeats 1000000 in
theorem eqStringS_self (A B : Option Addr) (c d : Nat) (ts : List ByteArray) (w : World) (hr : Own w 0 w.heap.size A (sv ts)) (hs : Own w 0 w.heap.size B (sv ts)) (hl : ts.length ≤ 1048576) :
    Calls Try.prog 24 #[.slice A ts.length c, .slice B ts.length d] w fun e w' => e = .returned (.bool true) ∧ Below w.heap.size w w' := by
  have ht : ((ts.length : Int) != (ts.length : Int)) = false := by simp
  go_enter Try.func24, Try.ntmps24
  go_wp2
  clear ht
  go_loopw [5] (fun i wr => ∃ k : Nat, k ≤ ts.length ∧ i = .int .i64 k ∧ ∃ n, wr = w.drewN n) (fun i _ => ts.length - (intOf i).toNat)
  case atStart => exact ⟨0, by omega, rfl, 0, rfl⟩
  case round =>
    obtain ⟨k, hk, rfl, n, rfl⟩ := hrel
    by_cases hlt : k < ts.length
    · obtain ⟨b, o, rfl, hb, hc⟩ := hr.open (by rw [sv_length]; omega)
      obtain ⟨b', o', rfl, hb', hc'⟩ := hs.open (by rw [sv_length]; omega)
      have h1 := hc k _ (sv_get ts k hlt)
      have h2 := hc' k _ (sv_get ts k hlt)
      obtain ⟨T, hT⟩ : ∃ T, ts[k] = T := ⟨_, rfl⟩
      rw [hT] at h1 h2
      have hn1 : (T.toList != T.toList) = false := by simp
      have hn2 : (T.toList == T.toList) = true := by simp
      clear hc hc' hT
      go_wp2
      go_quiet (fail)
      go_wp2
      go_roundw
      case rel => exact ⟨k + 1, by omega, by go_num, _, rfl⟩
      case measure => simp [intOf]; omega
    · have hk' : k = ts.length := by omega
      subst hk'
      go_wp2
      go_ret
      exact ⟨rfl, below_drewN (Below.refl _ _) _⟩

set_option maxRecDepth 100000 in
set_option maxHeartbeats 2000000 in
theorem markStringS_at (A : Option Addr) (c : Nat) (ts : List ByteArray) (k base B : Nat) (w : World) (ho : Own w (base + 1) B A (sv ts)) (hB : B ≤ w.heap.size) (hl : ts.length ≤ 10000000) (hk : 0 < k) (hk1 : k ≤ 10000000) :
    Calls Try.prog 25 #[.slice A ts.length c, .int .i64 k] w fun e w' => e = .returned (.int .i64 ((k + ts.length : Nat) : Int)) ∧ Own w' (base + 1) B A (sv (mkS k ts.length)) ∧ Wrote base B w w' := by
  by_cases h0 : ts.length = 0
  · have hz : ts = [] := List.eq_nil_of_length_eq_zero h0
    subst hz
    clear ho
    go_enter Try.func25, Try.ntmps25
    go_wp2
    go_rounds 1
    go_ret
    exact ⟨by simp, .inl (by simp [mkS, sv]), none, World.grownBy.refl w _, by simp⟩
  · obtain ⟨b, o, rfl, hbb, hlt, _, _⟩ := ho.open' (by omega) (by rw [sv_length]; omega)
    have hst : Own w (base + 1) B (some ⟨b, o, none⟩) (sv (mkS k 0 ++ ts.drop 0)) := by simpa [mkS] using ho
    have HST := Lib.hid hst
    have hbw : b < w.heap.size := by omega
    clear ho h0 hst
    go_enter Try.func25, Try.ntmps25
    go_wp2
    go_loopw [1, 5] (fun m i wr => ∃ j : Nat, j ≤ ts.length ∧ i = .int .i64 j ∧ m = .int .i64 ((k + j : Nat) : Int) ∧ Own wr (base + 1) B (some ⟨b, o, none⟩) (sv (mkS k j ++ ts.drop j)) ∧ w.grownBy wr (some b)) (fun _ i _ => ts.length - (intOf i).toNat)
    case atStart => exact ⟨0, by omega, rfl, rfl, HST.out, World.grownBy.refl w _⟩
    case round =>
      obtain ⟨j, hj, rfl, rfl, ho, hg⟩ := hrel
      clear HST
      have HO := Lib.hid ho
      have HG := Lib.hid hg
      have hgz := hg.size
      clear ho hg
      by_cases hjl : j < ts.length
      · have hmt := markText_any (k + j) wr (by omega) (by omega)
        have HMT := Lib.hid hmt
        have hjI : (j : Int) < ts.length := by omega
        clear hmt
        go_wp2_with fail
        refine HMT.out.mono ?_
        rintro e w2 ⟨rfl, hb2⟩
        have ho2 := HO.out.below (hb2.mono (by omega))
        have hlen2 : (sv (mkS k j ++ ts.drop j)).length = ts.length := by rw [sv_length, List.length_append, mkS_length, List.length_drop]; omega
        obtain ⟨b', o', e, _, _, hcc, hf⟩ := ho2.open' (by omega) (by omega)
        simp only [Option.some.injEq, Addr.mk.injEq, and_true] at e
        obtain ⟨rfl, rfl⟩ := e
        have c1 := hcc j _ (List.getElem?_eq_getElem (by omega))
        obtain ⟨y1, hy1⟩ : ∃ y, (sv (mkS k j ++ ts.drop j))[j]'(by omega) = y := ⟨_, rfl⟩
        rw [hy1] at c1
        have f1 := hf (o + j)
        have hset := ho2.set j (.string (mkT (k + j)))
        rw [markS_step ts k j hjl] at hset
        have HS := Lib.hid (show Own (w2.setCell ⟨b, o + j, none⟩ (.string (mkT (k + j)))) (base + 1) B (some ⟨b, o, none⟩) (sv (mkS k (j + 1) ++ ts.drop (j + 1))) ∧ w.grownBy (w2.setCell ⟨b, o + j, none⟩ (.string (mkT (k + j)))) (some b) from
          ⟨hset, g_set (grown_trans HG.out (grownB hb2 (some b))) (o + j) (.string (mkT (k + j)))⟩)
        clear hcc hf hy1 hlen2 ho2 hset hb2
        go_wp2
        go_roundw
        case rel => exact ⟨j + 1, by omega, by go_num, congrArg (Value.int .i64) (by push_cast; omega), HS.out.1, HS.out.2⟩
        case measure => simp [intOf]; omega
      · have hj' : j = ts.length := by omega
        have HF := Lib.hid (show Own wr (base + 1) B (some ⟨b, o, none⟩) (sv (mkS k ts.length)) by
          have := HO.out
          rwa [hj', List.drop_length, List.append_nil] at this)
        have HJ := Lib.hid hj'
        clear hj'
        go_wp2
        go_ret
        exact ⟨ret_int (by rw [HJ.out]), HF.out, some b, HG.out, fun i hi => by injection hi with hi; omega⟩

set_option maxRecDepth 100000 in
set_option maxHeartbeats 2000000 in
theorem heldStringS_any (A : Option Addr) (c n k : Nat) (w : World) (ho : Own w 0 w.heap.size A (sv (mkS k n))) (hl : n ≤ 10000000) (hk : 0 < k) (hk1 : k ≤ 10000000) :
    Calls Try.prog 26 #[.slice A n c, .int .i64 k] w fun e w' => e = .returned (.int .i64 ((k + n : Nat) : Int)) ∧ Below w.heap.size w w' := by
  go_enter Try.func26, Try.ntmps26
  go_wp2
  go_loopw [1, 5] (fun m i wr => ∃ j : Nat, j ≤ n ∧ i = .int .i64 j ∧ m = .int .i64 ((k + j : Nat) : Int) ∧ Below w.heap.size w wr) (fun _ i _ => n - (intOf i).toNat)
  case atStart => exact ⟨0, by omega, rfl, rfl, Below.refl _ _⟩
  case round =>
    obtain ⟨j, hj, rfl, rfl, hbr⟩ := hrel
    have HBR := Lib.hid hbr
    have hbz := hbr.size
    by_cases hjl : j < n
    · have hmt := markText_any (k + j)
      obtain ⟨b, o, rfl, hb, hcc⟩ := (ho.below hbr).open (by rw [sv_length, mkS_length]; omega)
      have h1 := hcc j _ (sv_get (mkS k n) j (by rw [mkS_length]; exact hjl))
      rw [mkS_get k n j hjl] at h1
      obtain ⟨T, hT⟩ : ∃ T, mkT (k + j) = T := ⟨_, rfl⟩
      simp only [hT] at h1
      have hmt2 : ∀ X, Calls Try.prog 43 #[.int .i64 ((k + j : Nat) : Int)] X fun e w' => e = .returned (.string T) ∧ Below X.heap.size X w' := fun X => by rw [← hT]; exact hmt X (by omega) (by omega)
      have HMT := Lib.hid hmt2
      have HC := Lib.hid h1
      have hbW : b < wr.heap.size := by omega
      have hjI : (j : Int) < n := by omega
      have hj0 : (0 : Int) ≤ (j : Int) := by omega
      have hn1 : (T.toList != T.toList) = false := by simp
      have hn2 : (T.toList == T.toList) = true := by simp
      have q4 : Below wr.heap.size wr wr.drew := ⟨rfl, rfl, rfl, Nat.le_refl _, fun _ _ => rfl⟩
      clear hcc h1 hmt hmt2 hT hbr
      go_wp2
      go_region_held3 (fun w' => w'.cell? ⟨b, o + j, none⟩ = some (.string T))
        (first | exact cell_stay q5 hbW HC.out | exact cell_stay q4 hbW HC.out)
        ((first
          | (go_at_call 43; refine (HMT.out _).mono ?_; rintro e w5 ⟨rfl, b5⟩; have q5 : Below wr.heap.size wr w5 := q4.trans b5)
          | fail))
      have HQ := Lib.hid q5
      clear q4 q5 b5
      go_simp
      go_wp2
      go_roundw
      case rel => exact ⟨j + 1, by omega, by go_num, congrArg (Value.int .i64) (by push_cast; omega), HBR.out.trans (HQ.out.mono hbz)⟩
      case measure => simp [intOf]; omega
    · have hj' : j = n := by omega
      have HJ := Lib.hid hj'
      clear hj' hbr
      go_wp2
      go_ret
      exact ⟨ret_int (by rw [HJ.out]), HBR.out⟩


def repS (s : ByteArray) : List ByteArray := (repV s.data.toList).map fun l => ⟨l.toArray⟩
theorem repS_sv (s : ByteArray) : sv (repS s) = (repV s.data.toList).map str := by
  unfold sv repS
  rw [List.map_map]
  rfl
theorem repS_len (s : ByteArray) : (repS s).length = (repV s.data.toList).length ∧ (repS s).length ≤ 10000 := by
  have h : (repS s).length = (repV s.data.toList).length := by simp [repS]
  refine ⟨h, ?_⟩
  rw [h]
  unfold repV
  split
  · exact repT_len _ _
  · simp
theorem specRepairs_S (s : ByteArray) (V : List ByteArray) (w : World) (hV : repS s = V) :
    Calls Try.prog 19 #[.string s] w fun e w' => ∃ A c, e = .returned (.slice A V.length c) ∧ V.length ≤ c ∧ Own w' (w.heap.size + 1) w'.heap.size A (sv V) ∧ Below w.heap.size w w' := by
  have h := specRepairs_any s w
  rw [← repS_sv, ← (repS_len s).1, hV] at h
  exact h
theorem impRepairs_S (s : ByteArray) (V : List ByteArray) (w : World) (hV : repS s = V) :
    Calls Try.prog 16 #[.string s] w fun e w' => ∃ A c, e = .returned (.slice A V.length c) ∧ V.length ≤ c ∧ Own w' (w.heap.size + 1) w'.heap.size A (sv V) ∧ Below w.heap.size w w' := by
  have h := impRepairs_any s w
  unfold RepPost at h
  rw [← repS_sv, ← (repS_len s).1, hV] at h
  exact h
theorem markS1 (A : Option Addr) (c : Nat) (ts : List ByteArray) (base B : Nat) (w : World) (ho : Own w (base + 1) B A (sv ts)) (hB : B ≤ w.heap.size) (hl : ts.length ≤ 10000000) :
    Calls Try.prog 25 #[.slice A ts.length c, .int .i64 1] w fun e w' => e = .returned (.int .i64 ((1 + ts.length : Nat) : Int)) ∧ Own w' (base + 1) B A (sv (mkS 1 ts.length)) ∧ Wrote base B w w' :=
  markStringS_at A c ts 1 base B w ho hB hl (by omega) (by omega)
theorem heldS1 (A : Option Addr) (c n : Nat) (w : World) (ho : Own w 0 w.heap.size A (sv (mkS 1 n))) (hl : n ≤ 10000000) :
    Calls Try.prog 26 #[.slice A n c, .int .i64 1] w fun e w' => e = .returned (.int .i64 ((1 + n : Nat) : Int)) ∧ Below w.heap.size w w' :=
  heldStringS_any A c n 1 w ho hl (by omega) (by omega)

set_option maxRecDepth 100000 in
set_option maxHeartbeats 8000000 in
theorem exactRepairsOf_law (s : ByteArray) (w : World) (_hs : s.size ≤ maxLen) :
    Calls Try.prog 8 #[.string s] w fun e w' => e = .returned (.bool true) ∧ Below w.heap.size w w' := by
  have hVl := (repS_len s).2
  obtain ⟨V, hV⟩ : ∃ V, repS s = V := ⟨_, rfl⟩
  rw [hV] at hVl
  have HV := Lib.hid hV
  clear hV
  by_cases hs : s.size ≤ 1048576
  · have hd : decide ((1048576 : Int) < (s.size : Int)) = false := decide_eq_false (by omega)
    go_enter Try.func8, Try.ntmps8
    have p0 := Below.refl w.heap.size w
    have z0 : w.heap.size ≤ w.heap.size := Nat.le_refl _
    go_wp2_with fail
    refine (specRepairs_S s V _ HV.out).mono ?_
    rintro e w1 ⟨A1, c1, rfl, hc1, o1, e1⟩
    have z1 := e1.size
    have s1 := o1
    clear o1
    have p1 := p0.trans (e1.mono (by omega))
    clear p0 e1
    go_wp2_with fail
    refine (impRepairs_S s V _ HV.out).mono ?_
    rintro e w2 ⟨A2, c2, rfl, hc2, o2, e2⟩
    have z2 := e2.size
    have s2 := s1.keep (by omega) e2
    clear s1
    have g2 := o2
    clear o2
    have p2 := p1.trans (e2.mono (by omega))
    clear p1 e2
    go_wp2_with fail
    refine (eqStringS_self _ _ _ _ _ _ (g2.row.more (by omega)) (s2.row.more (by omega)) (by omega)).mono ?_
    rintro e w3 ⟨rfl, e3⟩
    have z3 := e3.size
    have s3 := s2.keep (by omega) e3
    clear s2
    have g3 := g2.keep (by omega) e3
    clear g2
    have p3 := p2.trans (e3.mono (by omega))
    clear p2 e3
    go_wp2_with fail
    refine (markS1 _ _ _ _ _ _ g3 (by omega) (by omega)).mono ?_
    rintro e w4 ⟨rfl, m4, wr4⟩
    have z4 := wr4.size
    have s4 := wr4.elder s3 (by omega) (by omega)
    clear s3
    have g4 := m4
    clear m4 g3
    have p4 := p3.trans (wr4.below (by omega) (by omega))
    clear p3 wr4
    obtain ⟨M2, hM2⟩ : ∃ M2 : Int, ((1 + V.length : Nat) : Int) = M2 := ⟨_, rfl⟩
    have hpos2 : (0 : Int) ≤ M2 := by omega
    have HM2 := Lib.hid hM2
    rw [hM2]
    clear hM2
    have ht1 : (M2 != M2) = false := by simp
    go_wp2_with fail
    refine (heldS1 _ _ _ _ (g4.row.more (by omega)) (by omega)).mono ?_
    rw [HM2.out]
    rintro e w5 ⟨rfl, e5⟩
    have z5 := e5.size
    have s5 := s4.keep (by omega) e5
    clear s4
    have g5 := g4.keep (by omega) e5
    clear g4
    have p5 := p4.trans (e5.mono (by omega))
    clear p4 e5
    go_wp2_with fail
    refine (impRepairs_S s V _ HV.out).mono ?_
    rintro e w6 ⟨A6, c6, rfl, hc6, o6, e6⟩
    have z6 := e6.size
    have s6 := s5.keep (by omega) e6
    clear s5
    have g6 := g5.keep (by omega) e6
    clear g5
    have h6 := o6
    clear o6
    have p6 := p5.trans (e6.mono (by omega))
    clear p5 e6
    go_wp2_with fail
    refine (eqStringS_self _ _ _ _ _ _ (h6.row.more (by omega)) (s6.row.more (by omega)) (by omega)).mono ?_
    rintro e w7 ⟨rfl, e7⟩
    have z7 := e7.size
    have s7 := s6.keep (by omega) e7
    clear s6
    have g7 := g6.keep (by omega) e7
    clear g6
    have h7 := h6.keep (by omega) e7
    clear h6
    have p7 := p6.trans (e7.mono (by omega))
    clear p6 e7
    go_wp2_with fail
    refine (heldS1 _ _ _ _ (g7.row.more (by omega)) (by omega)).mono ?_
    rw [HM2.out]
    rintro e w8 ⟨rfl, e8⟩
    have z8 := e8.size
    have s8 := s7.keep (by omega) e8
    clear s7
    have g8 := g7.keep (by omega) e8
    clear g7
    have h8 := h7.keep (by omega) e8
    clear h7
    have p8 := p7.trans (e8.mono (by omega))
    clear p7 e8
    go_wp2_with fail
    go_ret
    exact ⟨rfl, p8⟩
  · have hd : decide ((1048576 : Int) < (s.size : Int)) = true := decide_eq_true (by omega)
    go_enter Try.func8, Try.ntmps8
    go_wp2
    go_ret
    exact ⟨rfl, Below.refl _ _⟩
end Go.Proofs.Ytempfagjbpnlcaa
