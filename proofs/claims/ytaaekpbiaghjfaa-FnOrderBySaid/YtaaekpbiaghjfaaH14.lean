/- The walk of the law FnOrderBy. No condition. -/
import Derived.Test.YtaaekpbiaghjfaaRo
import Derived.Test.YtaaekpbiaghjfaaO4
import Derived.Test.YtaaekpbiaghjfaaH7
import Derived.Test.YtaaekpbiaghjfaaW2
import Derived.Test.YtaaekpbiaghjfaaEq
import Derived.Test.YtaaekpbiaghjfaaEx
namespace Go.Proofs.Ytaaekpbiaghjfaa
open Go.RowKit

set_option maxRecDepth 100000 in
theorem isIn_any (A : Option Addr) (c : Nat) (zs : List Int) (x : Int) (w : World) (hr : Ints w w.heap.size A zs) (hl : zs.length ≤ 1000000000) :
    Calls Try.prog 61 #[.slice A zs.length c, .int .i64 x] w fun e w' => e = .returned (.bool (decide (x ∈ zs))) ∧ w = w' := by
  go_enter Try.func61, Try.ntmps61
  go_wp2
  go_loop [5] (fun i => ∃ k : Nat, k ≤ zs.length ∧ i = .int .i64 k ∧ Hid (¬ x ∈ zs.take k)) (fun i => zs.length - (intOf i).toNat)
  case atStart => exact ⟨0, by omega, rfl, Lib.hid (by simp)⟩
  case round =>
    obtain ⟨k, hk, rfl, HN⟩ := hrel
    by_cases hlt : k < zs.length
    · obtain ⟨b, o, rfl, hb, hc⟩ := hr.open (by simp; omega)
      have hcell := ints_at hc hlt
      have HT := Lib.hid (List.take_succ_eq_append_getElem hlt)
      have HM := Lib.hid (List.getElem_mem hlt)
      obtain ⟨z, hz⟩ : ∃ z, zs[k] = z := ⟨_, rfl⟩
      rw [hz] at hcell
      have HZ := Lib.hid hz
      clear hc hz
      by_cases hx : z = x
      · have he : (z == x) = true := beq_iff_eq.2 hx
        have HF := Lib.hid (show decide (x ∈ zs) = true from decide_eq_true (by rw [← hx, ← HZ.out]; exact HM.out))
        clear hx
        go_wp2
        go_ret
        exact ⟨ret_bool HF.out.symm, rfl⟩
      · have he : (z == x) = false := beq_eq_false_iff_ne.2 hx
        have HX := Lib.hid hx
        clear hx
        go_wp2
        go_round
        case rel =>
          refine ⟨k + 1, by omega, by go_num, Lib.hid ?_⟩
          rw [HT.out, HZ.out, List.mem_append, List.mem_singleton]
          rintro (h | h)
          · exact HN.out h
          · exact HX.out h.symm
        case measure => simp [intOf]; omega
    · have hk' : k = zs.length := by omega
      subst hk'
      go_wp2
      go_ret
      exact ⟨ret_bool (by have := HN.out; rw [List.take_length] at this; exact (decide_eq_false this).symm), rfl⟩

theorem slice_uptoI (b o n c j : Nat) (h : j ≤ c) (W : World) :
    (Instr.slice 27 (.slice (some ⟨b, o, none⟩) n c) none (some (.int .i64 (j : Int))) none).run Try.prog W = .ok (.slice (some ⟨b, o, none⟩) j c) W := by
  have h1 : (0 : Int) ≤ (j : Int) := by omega
  have h2 : (j : Int) ≤ (c : Int) := by omega
  go_simp

set_option maxRecDepth 100000 in
set_option maxHeartbeats 1000000 in
theorem different_any (A : Option Addr) (c : Nat) (zs : List Int) (w : World) (hr : Ints w w.heap.size A zs) (hc : zs.length ≤ c) (hl : zs.length ≤ 1000000) (hnd : zs.Nodup) :
    Calls Try.prog 29 #[.slice A zs.length c] w fun e w' => e = .returned (.int .i64 zs.length) ∧ ∃ n, w' = w.drewN n := by
  have HND := Lib.hid hnd
  clear hnd
  go_enter Try.func29, Try.ntmps29
  go_wp2
  go_loopw [3, 4] (fun m i wr => ∃ k : Nat, k ≤ zs.length ∧ i = .int .i64 k ∧ m = .int .i64 k ∧ ∃ n, wr = w.drewN n) (fun _ i _ => zs.length - (intOf i).toNat)
  case atStart => exact ⟨0, by omega, rfl, rfl, 0, rfl⟩
  case round =>
    obtain ⟨k, hk, rfl, rfl, hwr⟩ := hrel
    have HWR := Lib.hid hwr
    have hbw : Below w.heap.size w wr := by obtain ⟨n, rfl⟩ := hwr; exact below_drewN (Below.refl _ _) n
    have hrr := hr.below hbw
    have hz := hbw.size
    obtain ⟨W, hW⟩ : ∃ W : World, W = wr := ⟨_, rfl⟩
    subst hW
    clear hwr
    by_cases hlt : k < zs.length
    · obtain ⟨b, o, rfl, hb, hcc⟩ := hrr.open (by simp; omega)
      have hcell := ints_at hcc hlt
      have hno : ¬ zs[k] ∈ zs.take k := fun hm => by
        obtain ⟨i, hi, he⟩ := List.getElem_of_mem hm
        rw [List.length_take] at hi
        rw [List.getElem_take] at he
        exact List.pairwise_iff_getElem.1 HND.out i k (by omega) hlt (by omega) he
      obtain ⟨z, hze⟩ : ∃ z, zs[k] = z := ⟨_, rfl⟩
      rw [hze] at hcell hno
      have hsl := slice_uptoI b o zs.length c k (by omega)
      have hrow : Ints W W.heap.size (some ⟨b, o, none⟩) (zs.take k) := by
        have := (hrr.more hz).take k
        rwa [← List.map_take] at this
      have hml : (zs.take k).length = k := by rw [List.length_take]; omega
      have hq := fun m => isIn_any (some ⟨b, o, none⟩) c (zs.take k) z (W.drewN m) (hrow.below (below_drewN (Below.refl _ _) m)) (by omega)
      rw [hml, decide_eq_false hno] at hq
      have HQ := Lib.hid hq
      have hk0 : (0 : Int) ≤ (k : Int) := by omega
      have hkI : (k : Int) < zs.length := by omega
      clear hcc hno hze hq hrow hml
      go_wp2
      go_quiet ((go_at_call 61; exact Calls.quiet_of ((HQ.out _).mono fun _ _ ⟨h1, h2⟩ => ⟨h1, 0, h2.symm⟩)))
      go_simp
      clear hsl
      go_wp2
      go_roundw
      case rel => exact ⟨k + 1, by omega, by go_num, by go_num, by obtain ⟨n, hn⟩ := HWR.out; rw [hn]; exact ⟨_, World.drewN_drewN ..⟩⟩
      case measure => simp [intOf]; omega
    · have hk' : k = zs.length := by omega
      subst hk'
      go_wp2
      go_ret
      exact ⟨rfl, HWR.out⟩

set_option maxRecDepth 100000 in
theorem drawOrderBy_any (A : Option Addr) (c : Nat) (zs : List Int) (w : World) (hr : Own w 0 w.heap.size A (zs.map (Value.int .u8))) (hx : zs.length ≤ c ∧ c ≤ maxLen ∧ ∀ z ∈ zs, (Lit.int .u8 z).wf = true) :
    Calls Try.prog 26 #[.slice A zs.length c] w fun e w' => ∃ (A : Option Addr) (c : Nat) (rs : List (List Int)) (s : ByteArray), e = .returned (.tuple #[.slice A rs.length c, .string s]) ∧ Drawn w A c rs w' := by
  have H := Lib.hid hx
  clear hx
  go_enter Try.func26, Try.ntmps26
  go_wp2_with fail
  refine (newReader_any _ _ _ _ hr H.out).mono ?_
  rintro e w1 ⟨rfl, hrd, hb1⟩
  go_wp2_with fail
  refine (someHouses_any _ 0 _ hrd (by omega)).mono ?_
  rintro e w2 ⟨A2, c2, rs, rfl, h6, hc, htw, hm, ⟨q, hq, hrd2⟩, hg⟩
  have HTW := Lib.hid htw
  have HM := Lib.hid hm
  have HG := Lib.hid hg
  have hz1 := hrd.lt
  clear htw hm hg
  go_wp2_with fail
  refine (of_mem _ q w2 hrd2 (by omega) [⟨#[108, 111, 111, 112]⟩, ⟨#[116, 117, 114, 110]⟩, ⟨#[108, 111, 111, 112]⟩, ⟨#[116, 117, 114, 110]⟩, ⟨#[]⟩] (by decide) (by decide) 5 _ rfl rfl _ rfl).mono ?_
  rintro e w3 ⟨s, rfl, _, _, hg3⟩
  have HF := Lib.hid (show Drawn w A2 c2 rs w3 from ⟨h6, hc, HTW.out, ((HM.out.apart (Nat.le_refl _) hg3 (fun i hi => by injection hi with hi; omega)).more hg3.size).row, hb1.grown (grown_trans HG.out hg3) hb1.size (fun k hk => by injection hk with hk; omega)⟩)
  clear hg3
  go_wp2_with fail
  go_ret2
  exact ⟨A2, c2, rs, s, rfl, HF.out⟩

theorem key_turn {rs : List (List Int)} {a b : Int} (h : keyP false (hAt rs a) ≤ keyP false (hAt rs b)) : (hAt rs a).1 ≤ (hAt rs b).1 := by simpa [keyP] using h
theorem key_loop {a b : Int × Int} (h : keyP true a ≤ keyP true b) (ha : 0 ≤ a.1 ∧ a.1 ≤ 20 ∧ 0 ≤ a.2 ∧ a.2 ≤ 1) (hb : 0 ≤ b.1 ∧ b.1 ≤ 20 ∧ 0 ≤ b.2 ∧ b.2 ≤ 1) : a.2 ≤ b.2 := by
  unfold keyP at h
  simp only [if_true] at h
  split at h <;> split at h <;> omega

set_option maxRecDepth 100000 in
set_option maxHeartbeats 4000000 in
theorem orderBy_law (A : Option Addr) (c : Nat) (zs : List Int) (w : World) (hr : Own w 0 w.heap.size A (zs.map (Value.int .u8))) (hx : zs.length ≤ c ∧ c ≤ maxLen ∧ ∀ z ∈ zs, (Lit.int .u8 z).wf = true) :
    Calls Try.prog 6 #[.slice A zs.length c] w fun e w' => e = .returned (.bool true) ∧ Below w.heap.size w w' := by
  have hl : zs.length ≤ 9223372036854775807 := by have := hx.1; have := hx.2.1; unfold maxLen at this; omega
  have HX := Lib.hid hx
  clear hx
  by_cases h20 : zs.length ≤ 1048576
  · go_enter Try.func6, Try.ntmps6
    go_wp2_with fail
    refine (drawOrderBy_any _ _ _ _ hr HX.out).mono ?_
    rintro e w1 ⟨A1, c1, rs, s, rfl, h6, hdc, htw, ho, hb1⟩
    have HM := Lib.hid (show ∀ r ∈ rs, r.length ≤ 1000000000 from fun r h => by have := htw r h; omega)
    clear htw
    obtain ⟨V, hV⟩ : ∃ V, orderV rs s = V := ⟨_, rfl⟩
    have HV := Lib.hid hV
    have HEV := Lib.hid (show eqI V V = true by simp [eqI])
    clear hV
    go_wp2_with fail
    refine (impOrder_any _ _ _ _ _ ho HM.out).mono ?_
    rw [HV.out]
    rintro e w2 ⟨A2, c2, rfl, hc2, o2, hb2⟩
    have ho2 := ho.past hb2
    go_wp2_with fail
    refine (specOrder_any _ _ _ _ _ ho2 (by omega) HM.out).mono ?_
    rw [HV.out]
    rintro e w3 ⟨A3, c3, rfl, hc3, o3, hb3⟩
    have ho3 := ho2.past hb3
    have o23 := o2.past hb3
    have hb13 := (hb1.trans (hb2.mono hb1.size)).trans (hb3.mono (by have := hb1.size; have := hb2.size; omega))
    clear ho ho2 o2 hb1 hb2
    go_wp2_with fail
    have hVl : V.length ≤ 6 := by
      rw [← HV.out]; unfold orderV; split
      · rw [ordL_length]; exact h6
      · simp
    refine (equalInts_any _ _ _ _ _ _ _ (o23.row) (o3.row) (by omega)).mono ?_
    rw [HEV.out]
    rintro e w4 ⟨rfl, n4, hw4⟩
    have hb4 : Below w3.heap.size w3 w4 := by rw [hw4]; exact drewBelow _ _
    have ho4 := ho3.past hb4
    have o4 := o23.past hb4
    have hb14 := hb13.trans (hb4.mono hb13.size)
    clear hw4 o3 o23 ho3 hb13 hb4 hb3
    by_cases h0 : V.length = 0
    · have hd : ((V.length : Int) == 0) = true := beq_iff_eq.2 (by omega)
      clear h0
      go_wp2_with fail
      refine (specOrder_any _ _ _ _ _ ho4 (by omega) HM.out).mono ?_
      rw [HV.out]
      rintro e w5 ⟨A5, c5, rfl, hc5, o5, hb5⟩
      go_wp2_with fail
      refine (equalInts_any _ _ _ _ _ _ _ ((o4.past hb5).row) (o5.row) (by omega)).mono ?_
      rw [HEV.out]
      rintro e w6 ⟨rfl, n6, hw6⟩
      have hb6 : Below w5.heap.size w5 w6 := by rw [hw6]; exact drewBelow _ _
      have hb16 := hb14.trans ((hb5.trans (hb6.mono hb5.size)).mono hb14.size)
      clear hw6
      go_wp2_with fail
      go_ret
      exact ⟨rfl, hb16⟩
    · have hd : ((V.length : Int) == 0) = false := beq_eq_false_iff_ne.2 (by omega)
      have hB : orderB rs s = true := by
        by_cases hB : orderB rs s = true
        · exact hB
        · exfalso; apply h0; rw [← HV.out, orderV_no (by simpa using hB)]; rfl
      have hVe : V = ordL (ltH rs (isLoop s)) rs.length := by rw [← HV.out]; exact orderV_yes hB
      have hVl2 : V.length = rs.length := by rw [hVe]; exact ordL_length _ _
      have HVL := Lib.hid hVl2
      simp only [orderB, Bool.and_eq_true, Bool.or_eq_true] at hB
      obtain ⟨hB1, hB2⟩ := hB
      have HB := Lib.hid hB1
      have HND := Lib.hid (show V.Nodup by rw [hVe]; exact ordL_nodup _ _)
      have HGT := Lib.hid (show ∀ m, m < V.length → ∃ j : Nat, V[m]? = some (j : Int) ∧ j < rs.length from fun m hm => by
        obtain ⟨j, h1, h2⟩ := ordL_get (lt := ltH rs (isLoop s)) (n := rs.length) (k := m) (by omega)
        rw [← hVe] at h1
        exact ⟨j, by rw [getD_at hm, h1], h2⟩)
      have HSO := Lib.hid (show V.Pairwise (fun a b => keyP (isLoop s) (hAt rs a) ≤ keyP (isLoop s) (hAt rs b)) by rw [hVe]; exact order_sorted hB1 _)
      have HK := Lib.hid hB2
      have hvr : V.length ≤ rs.length := by omega
      have hrv : rs.length ≤ V.length := by omega
      have hpos : 1 ≤ V.length := by omega
      clear hVe hVl2 hB1 hB2 h0
      go_wp2_with fail
      clear hd
      go_loopw [6] (fun v wr => ∃ k : Nat, 1 ≤ k ∧ k ≤ V.length ∧ v = .int .i64 k ∧ ∃ n, wr = w4.drewN n) (fun v _ => V.length - (intOf v).toNat)
      case atStart => exact ⟨1, by omega, by omega, rfl, 0, rfl⟩
      case round =>
        obtain ⟨k, hk1, hk, rfl, hwr⟩ := hrel
        have HWR := Lib.hid hwr
        have hbw : Below w4.heap.size w4 wr := by obtain ⟨n, rfl⟩ := hwr; exact below_drewN (Below.refl _ _) n
        have hor := ho4.below hbw
        have ovr := o4.below hbw
        have HBW := Lib.hid hbw
        have hbz := hbw.size
        obtain ⟨W, hW⟩ : ∃ W : World, W = wr := ⟨_, rfl⟩
        subst hW
        clear hwr hbw
        by_cases hlt : k < V.length
        · obtain ⟨m, hm⟩ : ∃ m, k = m + 1 := ⟨k - 1, by omega⟩
          obtain ⟨j, hj, hjr⟩ := HGT.out m (by omega)
          obtain ⟨j2, hj2, hjr2⟩ := HGT.out k hlt
          obtain ⟨bV, oV, rfl, hbV, hcV⟩ := ovr.open (by simp; omega)
          have v1 := hcV m (.int .i64 j) (by rw [List.getElem?_map, hj]; rfl)
          have v2 := hcV k (.int .i64 j2) (by rw [List.getElem?_map, hj2]; rfl)
          obtain ⟨p, s1, b, o, b', o', d1, he, hpb, rfl, g, g0, g1, hb, hb'⟩ := hor.house HB.out hjr
          obtain ⟨q, t1, b2, o2, b2', o2', d2, he2, hqb, e2, k0, k1, k2, hb2, hb2'⟩ := hor.house HB.out hjr2
          simp only [Option.some.injEq, Addr.mk.injEq, and_true] at e2
          obtain ⟨rfl, rfl⟩ := e2
          have a1 := hAt_of (z := (j : Int)) rfl hjr he
          have a2 := hAt_of (z := (j2 : Int)) rfl hjr2 he2
          have hso := List.pairwise_iff_getElem.1 HSO.out m k (by omega) hlt (by omega)
          rw [List.getElem?_eq_getElem (by omega), Option.some.injEq] at hj hj2
          rw [hj, hj2, a1, a2] at hso
          have hkI : (k : Int) - 1 = (m : Int) := by omega
          have hkw : IntKind.i64.wrap ((k : Int) - 1) = (m : Int) := by rw [hkI]; exact IntWalk.i64_in _ (by omega)
          have hmw : IntKind.i64.wrap (m : Int) = (m : Int) := IntWalk.i64_in _ (by omega)
          have hkV : (k : Int) < V.length := by omega
          have hmV : (m : Int) < V.length := by omega
          have hk00 : (0 : Int) ≤ (k : Int) := by omega
          have hm00 : (0 : Int) ≤ (m : Int) := by omega
          have hjI : (j : Int) < rs.length := by omega
          have hj2I : (j2 : Int) < rs.length := by omega
          have hdK : decide (k < V.length) = true := decide_eq_true hlt
          have HM := Lib.hid hm
          clear hcV he he2 a1 a2 hj hj2 hm
          by_cases hL : isLoop s = true
          · have h1 : (s.toList == [108, 111, 111, 112]) = true := hL
            have h2 : (s.toList == [116, 117, 114, 110]) = false := loop_turn hL
            rw [hL] at hso
            have hst := key_loop hso hpb hqb
            have hst' : decide (t1 < s1) = false := decide_eq_false (by simpa using hst)
            clear hso hL hst hpb hqb
            go_wp2
            go_quiet (fail)
            go_simp
            clear hkI hkw hmw hdK h1 h2 hst'
            go_wp2
            go_roundw
            case rel => exact ⟨k + 1, by omega, by omega, by go_num, by obtain ⟨n, hn⟩ := HWR.out; rw [hn]; exact ⟨_, World.drewN_drewN ..⟩⟩
            case measure => simp [intOf]; omega
          · have hL' : isLoop s = false := by simpa using hL
            have h1 : (s.toList == [108, 111, 111, 112]) = false := hL'
            have h2 : (s.toList == [116, 117, 114, 110]) = true := by
              rcases HK.out with h | h
              · exact absurd h hL
              · exact h
            rw [hL'] at hso
            have hst : p ≤ q := by simpa [keyP] using hso
            have hst' : decide (q < p) = false := decide_eq_false (by omega)
            clear hso hL hL' hst hpb hqb
            go_wp2
            go_quiet (fail)
            go_simp
            clear hkI hkw hmw hdK h1 h2 hst'
            go_wp2
            go_roundw
            case rel => exact ⟨k + 1, by omega, by omega, by go_num, by obtain ⟨n, hn⟩ := HWR.out; rw [hn]; exact ⟨_, World.drewN_drewN ..⟩⟩
            case measure => simp [intOf]; omega
        · have hk' : k = V.length := by omega
          subst hk'
          have e1 : ((V.length : Int) == (rs.length : Int)) = true := beq_iff_eq.2 (by omega)
          have hdf := different_any A2 c2 V W (ovr.row.more hbz) hc2 (by omega) HND.out
          have HDF := Lib.hid hdf
          have HBF := Lib.hid (hb14.trans (HBW.out.mono hb14.size))
          clear hdf
          go_wp2_with (go_at_call 29; ((with_reducible refine HDF.out.mono ?_); rintro e w5 ⟨rfl, n5, rfl⟩))
          go_ret
          exact ⟨rfl, below_drewN HBF.out n5⟩
  · go_enter Try.func6, Try.ntmps6
    go_wp2
    go_ret
    exact ⟨rfl, Below.refl _ _⟩
end Go.Proofs.Ytaaekpbiaghjfaa
