/- How many different numbers; the walk of the law FnOnceRound (XDf and XOre in one text, for the sake of the number of files). No condition. -/
import Derived.Test.YtjklnknlifpidaaEq
import Derived.Test.YtjklnknlifpidaaEx
import Derived.Test.YtjklnknlifpidaaT
import Derived.Test.YtjklnknlifpidaaOrb
import Derived.Test.YtjklnknlifpidaaN19
namespace Go.Proofs.Ytjklnknlifpidaa
open Go.RowKit
/- laws.isIn, laws.different. No condition. -/

set_option maxRecDepth 100000 in
theorem isIn_any (A : Option Addr) (c : Nat) (zs : List Int) (x : Int) (w : World) (hr : Ints w w.heap.size A zs) (hl : zs.length ≤ 1000000000) :
    Calls Try.prog 41 #[.slice A zs.length c, .int .i64 x] w fun e w' => e = .returned (.bool (decide (x ∈ zs))) ∧ w = w' := by
  go_enter Try.func41, Try.ntmps41
  go_wp2
  go_loop [5] (fun i => ∃ k : Nat, k ≤ zs.length ∧ i = .int .i64 k ∧ Hid (¬ x ∈ zs.take k)) (fun i => zs.length - (intOf i).toNat)
  case atStart => exact ⟨0, by omega, rfl, Lib.hid (by simp)⟩
  case round =>
    obtain ⟨k, hk, rfl, HN⟩ := hrel
    by_cases hlt : k < zs.length
    · obtain ⟨b, o, rfl, hb, hc⟩ := hr.open (by simp; omega)
      have hcell := ints_at hc hlt
      have HT := Lib.hid (List.take_succ_eq_append_getElem hlt)
      have HM := Lib.hid (List.getElem_mem hlt)
      obtain ⟨z, hz⟩ : ∃ z, zs[k] = z := ⟨_, rfl⟩
      rw [hz] at hcell
      have HZ := Lib.hid hz
      clear hc hz
      by_cases hx : z = x
      · have he : (z == x) = true := beq_iff_eq.2 hx
        have HF := Lib.hid (show decide (x ∈ zs) = true from decide_eq_true (by rw [← hx, ← HZ.out]; exact HM.out))
        clear hx
        go_wp2
        go_ret
        exact ⟨ret_bool HF.out.symm, rfl⟩
      · have he : (z == x) = false := beq_eq_false_iff_ne.2 hx
        have HX := Lib.hid hx
        clear hx
        go_wp2
        go_round
        case rel =>
          refine ⟨k + 1, by omega, by go_num, Lib.hid ?_⟩
          rw [HT.out, HZ.out, List.mem_append, List.mem_singleton]
          rintro (h | h)
          · exact HN.out h
          · exact HX.out h.symm
        case measure => simp [intOf]; omega
    · have hk' : k = zs.length := by omega
      subst hk'
      go_wp2
      go_ret
      exact ⟨ret_bool (by have := HN.out; rw [List.take_length] at this; exact (decide_eq_false this).symm), rfl⟩

theorem slice_uptoI (b o n c j : Nat) (h : j ≤ c) (W : World) :
    (Instr.slice 24 (.slice (some ⟨b, o, none⟩) n c) none (some (.int .i64 (j : Int))) none).run Try.prog W = .ok (.slice (some ⟨b, o, none⟩) j c) W := by
  have h1 : (0 : Int) ≤ (j : Int) := by omega
  have h2 : (j : Int) ≤ (c : Int) := by omega
  go_simp

set_option maxRecDepth 100000 in
set_option maxHeartbeats 1000000 in
theorem different_any (A : Option Addr) (c : Nat) (zs : List Int) (w : World) (hr : Ints w w.heap.size A zs) (hc : zs.length ≤ c) (hl : zs.length ≤ 1000000) (hnd : zs.Nodup) :
    Calls Try.prog 20 #[.slice A zs.length c] w fun e w' => e = .returned (.int .i64 zs.length) ∧ ∃ n, w' = w.drewN n := by
  have HND := Lib.hid hnd
  clear hnd
  go_enter Try.func20, Try.ntmps20
  go_wp2
  go_loopw [3, 4] (fun m i wr => ∃ k : Nat, k ≤ zs.length ∧ i = .int .i64 k ∧ m = .int .i64 k ∧ ∃ n, wr = w.drewN n) (fun _ i _ => zs.length - (intOf i).toNat)
  case atStart => exact ⟨0, by omega, rfl, rfl, 0, rfl⟩
  case round =>
    obtain ⟨k, hk, rfl, rfl, hwr⟩ := hrel
    have HWR := Lib.hid hwr
    have hbw : Below w.heap.size w wr := by obtain ⟨n, rfl⟩ := hwr; exact below_drewN (Below.refl _ _) n
    have hrr := hr.below hbw
    have hz := hbw.size
    obtain ⟨W, hW⟩ : ∃ W : World, W = wr := ⟨_, rfl⟩
    subst hW
    clear hwr
    by_cases hlt : k < zs.length
    · obtain ⟨b, o, rfl, hb, hcc⟩ := hrr.open (by simp; omega)
      have hcell := ints_at hcc hlt
      have hno : ¬ zs[k] ∈ zs.take k := fun hm => by
        obtain ⟨i, hi, he⟩ := List.getElem_of_mem hm
        rw [List.length_take] at hi
        rw [List.getElem_take] at he
        exact List.pairwise_iff_getElem.1 HND.out i k (by omega) hlt (by omega) he
      obtain ⟨z, hze⟩ : ∃ z, zs[k] = z := ⟨_, rfl⟩
      rw [hze] at hcell hno
      have hsl := slice_uptoI b o zs.length c k (by omega)
      have hrow : Ints W W.heap.size (some ⟨b, o, none⟩) (zs.take k) := by
        have := (hrr.more hz).take k
        rwa [← List.map_take] at this
      have hml : (zs.take k).length = k := by rw [List.length_take]; omega
      have hq := fun m => isIn_any (some ⟨b, o, none⟩) c (zs.take k) z (W.drewN m) (hrow.below (below_drewN (Below.refl _ _) m)) (by omega)
      rw [hml, decide_eq_false hno] at hq
      have HQ := Lib.hid hq
      have hk0 : (0 : Int) ≤ (k : Int) := by omega
      have hkI : (k : Int) < zs.length := by omega
      clear hcc hno hze hq hrow hml
      go_wp2
      go_quiet ((go_at_call 41; exact Calls.quiet_of ((HQ.out _).mono fun _ _ ⟨h1, h2⟩ => ⟨h1, 0, h2.symm⟩)))
      go_simp
      clear hsl
      go_wp2
      go_roundw
      case rel => exact ⟨k + 1, by omega, by go_num, by go_num, by obtain ⟨n, hn⟩ := HWR.out; rw [hn]; exact ⟨_, World.drewN_drewN ..⟩⟩
      case measure => simp [intOf]; omega
    · have hk' : k = zs.length := by omega
      subst hk'
      go_wp2
      go_ret
      exact ⟨rfl, HWR.out⟩


def firsts : List Int → List Int
  | [] => []
  | x :: xs => x :: (firsts xs).filter (fun y => decide (y ≠ x))
theorem firsts_mem {l : List Int} {x : Int} : x ∈ firsts l ↔ x ∈ l := by
  induction l with
  | nil => simp [firsts]
  | cons a l ih =>
    simp only [firsts, List.mem_cons, List.mem_filter, ih, decide_eq_true_eq]
    constructor
    · rintro (h | ⟨h, _⟩)
      · exact .inl h
      · exact .inr h
    · rintro (h | h)
      · exact .inl h
      · by_cases e : x = a
        · exact .inl e
        · exact .inr ⟨h, e⟩
theorem firsts_nodup (l : List Int) : (firsts l).Nodup := by
  induction l with
  | nil => simp [firsts]
  | cons a l ih =>
    simp only [firsts, List.nodup_cons, List.mem_filter]
    exact ⟨fun h => by simpa using h.2, ih.filter _⟩
theorem firsts_snoc (l : List Int) (x : Int) : (firsts (l ++ [x])).length = (firsts l).length + if x ∈ l then 0 else 1 := by
  have perm : ∀ a b : List Int, a.Nodup → b.Nodup → (∀ y, y ∈ a ↔ y ∈ b) → a.length = b.length := fun a b ha hb h => ((List.perm_ext_iff_of_nodup ha hb).2 h).length_eq
  by_cases hx : x ∈ l
  · rw [if_pos hx]
    refine perm _ _ (firsts_nodup _) (firsts_nodup _) fun y => ?_
    rw [firsts_mem, firsts_mem, List.mem_append, List.mem_singleton]
    exact ⟨fun h => h.elim id (fun e => e ▸ hx), .inl⟩
  · rw [if_neg hx]
    have := perm (firsts (l ++ [x])) (firsts l ++ [x]) (firsts_nodup _) (by
      rw [List.nodup_append]
      refine ⟨firsts_nodup _, by simp, fun a ha b hb => ?_⟩
      simp only [List.mem_singleton] at hb
      subst hb
      intro e; subst e
      exact hx (firsts_mem.1 ha)) fun y => by rw [firsts_mem, List.mem_append, List.mem_append, firsts_mem]
    rw [this]; simp
theorem nodup_leI {l l' : List Int} (hn : l.Nodup) (hs : ∀ y ∈ l, y ∈ l') : l.length ≤ l'.length := by
  induction l generalizing l' with
  | nil => simp
  | cons a l ih =>
    obtain ⟨h1, h2⟩ := List.nodup_cons.1 hn
    have ha : a ∈ l' := hs a (by simp)
    have := ih (l' := l'.erase a) h2 (fun y hy => (List.mem_erase_of_ne (fun (e : y = a) => h1 (by rw [← e]; exact hy))).2 (hs y (by simp [hy])))
    rw [List.length_erase_of_mem ha] at this
    have := List.length_pos_of_mem ha
    simp only [List.length_cons]
    omega
def diffC (l : List Int) : Nat := (firsts l).length
theorem diffC_le (l : List Int) : diffC l ≤ l.length := nodup_leI (firsts_nodup l) fun _ h => firsts_mem.1 h
theorem diffC_step {l : List Int} {k : Nat} (h : k < l.length) : diffC (l.take (k + 1)) = diffC (l.take k) + if l[k] ∈ l.take k then 0 else 1 := by
  rw [List.take_succ_eq_append_getElem h]; exact firsts_snoc _ _
set_option maxRecDepth 100000 in
set_option maxHeartbeats 2000000 in
theorem different2_any (A : Option Addr) (c : Nat) (zs : List Int) (w : World) (hr : Ints w w.heap.size A zs) (hc : zs.length ≤ c) (hl : zs.length ≤ 1000000) :
    Calls Try.prog 20 #[.slice A zs.length c] w fun e w' => e = .returned (.int .i64 (diffC zs : Nat)) ∧ ∃ n, w' = w.drewN n := by
  go_enter Try.func20, Try.ntmps20
  go_wp2
  go_loopw [3, 4] (fun m i wr => ∃ k : Nat, k ≤ zs.length ∧ i = .int .i64 k ∧ m = .int .i64 (diffC (zs.take k) : Nat) ∧ ∃ n, wr = w.drewN n) (fun _ i _ => zs.length - (intOf i).toNat)
  case atStart => exact ⟨0, by omega, rfl, rfl, 0, rfl⟩
  case round =>
    obtain ⟨k, hk, rfl, rfl, hwr⟩ := hrel
    have HWR := Lib.hid hwr
    have hbw : Below w.heap.size w wr := by obtain ⟨n, rfl⟩ := hwr; exact below_drewN (Below.refl _ _) n
    have hrr := hr.below hbw
    have hz := hbw.size
    have hdl : diffC (zs.take k) ≤ k := by have := diffC_le (zs.take k); rw [List.length_take] at this; omega
    obtain ⟨W, hW⟩ : ∃ W : World, W = wr := ⟨_, rfl⟩
    subst hW
    clear hwr
    by_cases hlt : k < zs.length
    · obtain ⟨b, o, rfl, hb, hcc⟩ := hrr.open (by simp; omega)
      have hcell := ints_at hcc hlt
      have HST := Lib.hid (diffC_step hlt)
      obtain ⟨z, hze⟩ : ∃ z, zs[k] = z := ⟨_, rfl⟩
      rw [hze] at hcell HST
      have hsl := slice_uptoI b o zs.length c k (by omega)
      have hrow : Ints W W.heap.size (some ⟨b, o, none⟩) (zs.take k) := by
        have := (hrr.more hz).take k
        rwa [← List.map_take] at this
      have hml : (zs.take k).length = k := by rw [List.length_take]; omega
      have hq := fun m => isIn_any (some ⟨b, o, none⟩) c (zs.take k) z (W.drewN m) (hrow.below (below_drewN (Below.refl _ _) m)) (by omega)
      rw [hml] at hq
      obtain ⟨D, hD⟩ : ∃ D, diffC (zs.take k) = D := ⟨_, rfl⟩
      rw [hD] at HST hdl ⊢
      have hk0 : (0 : Int) ≤ (k : Int) := by omega
      have hkI : (k : Int) < zs.length := by omega
      by_cases hin : z ∈ zs.take k
      · rw [decide_eq_true hin] at hq
        have HQ := Lib.hid hq
        have HF := Lib.hid (show diffC (zs.take (k + 1)) = D by rw [HST.out, if_pos hin]; rfl)
        clear hcc hin hze hq hrow hml hD
        go_wp2
        go_quiet ((go_at_call 41; exact Calls.quiet_of ((HQ.out _).mono fun _ _ ⟨h1, h2⟩ => ⟨h1, 0, h2.symm⟩)))
        go_simp
        clear hsl
        go_wp2
        go_roundw
        case rel => exact ⟨k + 1, by omega, by go_num, by rw [HF.out], by obtain ⟨n, hn⟩ := HWR.out; rw [hn]; exact ⟨_, World.drewN_drewN ..⟩⟩
        case measure => simp [intOf]; omega
      · rw [decide_eq_false hin] at hq
        have HQ := Lib.hid hq
        have HF := Lib.hid (show diffC (zs.take (k + 1)) = D + 1 by rw [HST.out, if_neg hin])
        clear hcc hin hze hq hrow hml hD
        go_wp2
        go_quiet ((go_at_call 41; exact Calls.quiet_of ((HQ.out _).mono fun _ _ ⟨h1, h2⟩ => ⟨h1, 0, h2.symm⟩)))
        go_simp
        clear hsl
        go_wp2
        go_roundw
        case rel => exact ⟨k + 1, by omega, by go_num, by rw [HF.out]; go_num, by obtain ⟨n, hn⟩ := HWR.out; rw [hn]; exact ⟨_, World.drewN_drewN ..⟩⟩
        case measure => simp [intOf]; omega
    · have hk' : k = zs.length := by omega
      subst hk'
      rw [List.take_length]
      clear hdl
      go_wp2
      go_ret
      exact ⟨rfl, HWR.out⟩
theorem diffC_same {T V : List Int} (hn : V.Nodup) (h : ∀ x, x ∈ T ↔ x ∈ V) : diffC T = V.length := by
  unfold diffC
  exact ((List.perm_ext_iff_of_nodup (firsts_nodup T) hn).2 (fun x => by rw [firsts_mem, h])).length_eq


set_option maxRecDepth 100000 in
set_option maxHeartbeats 8000000 in
theorem fnOnceRound_law (A : Option Addr) (c : Nat) (zs : List Int) (v0 : World) (hr : Own v0 0 v0.heap.size A (zs.map (Value.int .u8))) (hx : zs.length ≤ c ∧ c ≤ maxLen ∧ ∀ z ∈ zs, (Lit.int .u8 z).wf = true) :
    Calls Try.prog 4 #[.slice A zs.length c] v0 fun e w' => e = .returned (.bool true) ∧ Below v0.heap.size v0 w' := by
  have hl : zs.length ≤ 9223372036854775807 := by have := hx.1; have := hx.2.1; unfold maxLen at this; omega
  have HX := Lib.hid hx
  clear hx
  by_cases h20 : zs.length ≤ 1048576
  · go_enter Try.func4, Try.ntmps4
    go_wp2_with fail
    refine (DrawOnceRound_any _ _ _ _ hr HX.out).mono ?_
    rintro e w ⟨B, d, rs, n, rfl, hn1, hn6, h9, hdc, hln, hrg, hb0⟩
    have HM := Lib.hid (show ∀ r ∈ rs, r.length ≤ 1000000000 from fun r h => by have := hln r h; omega)
    have HB0 := Lib.hid hb0
    have z00 := hb0.size
    clear hln hb0
    obtain ⟨V, b, hV⟩ := exists_once (n : Int) rs
    have hql := once_len hV
    have HV := Lib.hid hV
    have HE := Lib.hid (eqISelf V)
    have htt : (b != b) = false := by simp
    clear hV
    have g0 := hrg
    clear hrg
    have p0 := Below.refl w.heap.size w
    go_wp2_with fail
    refine (impOnceRound_any _ _ _ _ _ _ _ (g0.row.more (by omega)) HM.out HV.out).mono ?_
    rintro e w1 ⟨A1, c1, rfl, hc1, o1, e1⟩
    have z1 := e1.size
    have g1 := g0.keep (by omega) e1
    clear g0
    have a1 := o1
    clear o1
    have p1 := p0.trans (e1.mono (by omega))
    clear p0 e1
    go_wp2_with fail
    refine (specOnceRound_any _ _ _ _ _ _ _ (g1.row.more (by omega)) (by omega) HM.out HV.out).mono ?_
    rintro e w2 ⟨A2, c2, rfl, hc2, o2, e2⟩
    have z2 := e2.size
    have g2 := g1.keep (by omega) e2
    clear g1
    have a2 := a1.keep (by omega) e2
    clear a1
    have s2 := o2
    clear o2
    have p2 := p1.trans (e2.mono (by omega))
    clear p1 e2
    cases b with
    | false =>
      go_wp2_with fail
      refine (equalInts_any _ _ _ _ _ _ _ (a2.row.more (by omega)) (s2.row.more (by omega)) (by omega)).mono ?_
      rw [HE.out]
      rintro e w3 ⟨rfl, n3, hw3⟩
      have e3 : Below w2.heap.size w2 w3 := by rw [hw3]; exact drewBelow _ _
      clear hw3
      have z3 := e3.size
      have a3 := a2.keep (by omega) e3
      have s3 := s2.keep (by omega) e3
      have p3 := p2.trans (e3.mono (by omega))
      clear a2 s2 p2 e3
      go_wp2_with fail
      refine (equalInts_any _ _ _ _ _ _ _ (a3.row.more (by omega)) (s3.row.more (by omega)) (by omega)).mono ?_
      rw [HE.out]
      rintro e w4 ⟨rfl, n4, hw4⟩
      have e4 : Below w3.heap.size w3 w4 := by rw [hw4]; exact drewBelow _ _
      clear hw4
      have HF := Lib.hid (HB0.out.trans ((p3.trans (e4.mono (by omega))).mono z00))
      clear a3 s3 p3 e4
      go_wp2_with fail
      go_ret
      exact ⟨rfl, HF.out⟩
    | true =>
      obtain ⟨L, q, hw, hVL, hq0⟩ : ∃ L q, Way n (rs.map st) rs.length L q ∧ V = intsN L ∧ (townB (n : Int) rs = true ∧ q rs.length = 0) := by
        rcases HV.out with ⟨_, _, h1⟩ | ⟨h1, h2, _, L, q, h4, h5⟩
        · cases h1
        · exact ⟨L, q, h4, h5, h1, once_back h1 h2 h4⟩
      obtain ⟨m, e, g11, g12, hl7, hok, _⟩ := townB_parts hq0.1
      have e2 : n = m := by omega
      subst e2
      have HOK := Lib.hid hok
      have hVl : V.length = rs.length := by rw [hVL, intsN_len, hw.len]
      have HVL := Lib.hid hVl
      have HVAT := Lib.hid (show ∀ j (h : j < V.length), V[j] = ((L.getD j 0 : Nat) : Int) from fun j h => by
        subst hVL
        have hj : j < L.length := by simpa [intsN] using h
        rw [nat_getD hj]; simp [intsN])
      have HDF := Lib.hid (show diffC V = rs.length by rw [diffC_same (T := V) (V := V) (by rw [hVL]; exact ints_nodup hw.nodup) (fun x => Iff.rfl), hVl])
      have HW := Lib.hid hw
      have HQ0 := Lib.hid hq0.2
      have HLT := Lib.hid (street_lt hok)
      clear hq0 hok e hVL hw hVl
      go_wp2_with fail
      refine (equalInts_any _ _ _ _ _ _ _ (a2.row.more (by omega)) (s2.row.more (by omega)) (by omega)).mono ?_
      rw [HE.out]
      rintro e w3 ⟨rfl, n3, hw3⟩
      have e3 : Below w2.heap.size w2 w3 := by rw [hw3]; exact drewBelow _ _
      clear hw3
      have z3 := e3.size
      have g3 := g2.keep (by omega) e3
      have a3 := a2.keep (by omega) e3
      have p3 := p2.trans (e3.mono (by omega))
      clear g2 a2 s2 p2 e3
      have HG := Lib.hid (show Grid w3 0 w3.heap.size B rs from g3.row.more (by omega))
      have HA := Lib.hid (show Ints w3 w3.heap.size A1 V from a3.row.more (by omega))
      have HP := Lib.hid p3
      clear g3 a3 p3
      go_wp2_with fail
      go_loopw [9, 10] (fun v k wr => ∃ j : Nat, j ≤ rs.length ∧ v = .int .i64 ((q j : Nat) : Int) ∧ k = .int .i64 j ∧ Below w3.heap.size w3 wr) (fun _ k _ => rs.length - (intOf k).toNat)
      case atStart => exact ⟨0, by omega, by rw [HW.out.z]; rfl, rfl, Below.refl _ _⟩
      case round =>
        obtain ⟨j, hj, rfl, rfl, hbr⟩ := hrel
        have HBR := Lib.hid hbr
        by_cases hlj : j < rs.length
        · have hjV : j < V.length := by have := HVL.out; omega
          have hjI : (j : Int) < (V.length : Int) := by omega
          have hjz : (0 : Int) ≤ (j : Int) := by omega
          obtain ⟨b1, o1, hA1, hb1, hc⟩ := HA.out.open (by simp; omega)
          have q0 := cell_keep hbr hb1 (ints_at hc hjV)
          rw [HVAT.out j hjV] at q0
          have hxl := HW.out.in hlj
          have hmay := HW.out.may j hlj
          have hnx := HW.out.nx j hlj
          obtain ⟨x, hx⟩ : ∃ x, L.getD j 0 = x := ⟨_, rfl⟩
          rw [hx] at q0 hxl hmay hnx
          have hxr : x < rs.length := by simpa using hxl
          obtain ⟨a, bb, l, bA, oA, b', o', c9, hej, hsq, ⟨ha, hb, hl1, hl2⟩, hBA, g0, g1, g2, g3, hbA, hb'⟩ := (HG.out.below hbr).street HOK.out hxr
          have hsq2 : (rs.map st)[x]'hxl = (a, bb, l) := by rw [List.getElem_map]; exact hsq
          have HNX := Lib.hid (show q (j + 1) = oth (a, bb, l) (q j) by rw [hnx, st_getD hxl, hsq2])
          have hend : a = q j ∨ bb = q j := by
            obtain ⟨_, _, h3, _⟩ := hmay
            rw [hsq2] at h3; exact h3
          have hqn : q j < n := HW.out.lt j (by omega)
          have hqv : (a : Int) + (bb : Int) - ((q j : Nat) : Int) = ((q (j + 1) : Nat) : Int) := by
            rw [HNX.out]; unfold oth; simp only []; split <;> omega
          have hwt : IntKind.i64.wrap ((a : Int) + (bb : Int) - ((q j : Nat) : Int)) = ((q (j + 1) : Nat) : Int) := by
            rw [hqv]
            have := HW.out.lt (j + 1) (by omega)
            exact IntWalk.i64_in _ (by omega)
          have hwt2 : IntKind.i64.wrap ((a : Int) + (bb : Int)) = (a : Int) + (bb : Int) := IntWalk.i64_in _ (by omega)
          have hxI : (x : Int) < (rs.length : Int) := by omega
          have hxz : (0 : Int) ≤ (x : Int) := by omega
          have HBEG := Lib.hid (show (((a : Int) != ((q j : Nat) : Int)) = false) ∨ (((a : Int) != ((q j : Nat) : Int)) = true ∧ ((bb : Int) != ((q j : Nat) : Int)) = false) by
            by_cases h : a = q j
            · exact .inl (by simp; omega)
            · rcases hend with h2 | h2
              · exact absurd h2 h
              · exact .inr ⟨by simp; omega, by simp; omega⟩)
          subst hA1
          subst hBA
          clear hc hej hsq hsq2 hend hmay hnx hx hbr g3 hqv
          obtain ⟨W, hW⟩ : ∃ W : World, W = wr := ⟨_, rfl⟩
          subst hW
          rcases HBEG.out with t0 | ⟨t0, t1⟩
          all_goals
            clear HBEG
            go_wp2
            go_quiet (fail)
            go_simp
            go_wp2_with fail
            go_roundw
            case rel => exact ⟨j + 1, by omega, rfl, by go_num, by first | exact below_drewN HBR.out _ | exact HBR.out⟩
            case measure => simp [intOf]; omega
        · have hje : j = rs.length := by omega
          subst hje
          have hjI : ¬ ((rs.length : Int) < (V.length : Int)) := by have := HVL.out; omega
          have hq0 := HQ0.out
          rw [hq0]
          have hD := different2_any A1 c1 V wr ((HA.out.below hbr).more hbr.size) hc1 (by omega)
          rw [HDF.out] at hD
          have HD := Lib.hid hD
          have te : ((V.length : Int) == (rs.length : Int)) = true := by have := HVL.out; simp; omega
          have hnI : (0 : Int) < (n : Int) := by omega
          clear hD hq0 hbr
          go_wp2_with fail
          refine HD.out.mono ?_
          rintro e w5 ⟨rfl, n5, rfl⟩
          have HF := Lib.hid (HB0.out.trans ((HP.out.trans ((below_drewN HBR.out n5).mono (by omega))).mono z00))
          go_wp2_with fail
          go_ret
          refine ⟨?_, HF.out⟩
          show Ending.returned (.bool (decide (0 < n))) = _
          rw [decide_eq_true (show 0 < n by omega)]
  · go_enter Try.func4, Try.ntmps4
    go_wp2_with fail
    go_ret
    exact ⟨rfl, Below.refl _ _⟩
end Go.Proofs.Ytjklnknlifpidaa
