/- Repairs: what FnRepairsOf says of them, plain. No condition. -/
import Derived.Test.YtempfagjbpnlcaaRq6
import Derived.Test.YtempfagjbpnlcaaRsu
import Derived.WalkLawsBesides
namespace Go.Proofs.Ytempfagjbpnlcaa
open Go.RowKit

theorem sgl {a b : Int} (ha : 0 ≤ a ∧ a ≤ 9) (hb : 0 ≤ b ∧ b ≤ 9) : sg a < sg b ↔ a < b := by
  have h1 := sg_back ha
  have h2 := sg_back hb
  rw [UInt8.lt_iff_toNat_lt]
  omega
theorem bl_asym : ∀ x y : List UInt8, Op.bytesLess x y = true → Op.bytesLess y x = false
  | _, [], h => by simp [Op.bytesLess] at h
  | [], _ :: _, _ => rfl
  | a :: x, b :: y, h => by
    simp only [Op.bytesLess, Bool.or_eq_true, decide_eq_true_eq, Bool.and_eq_true, beq_iff_eq] at h
    simp only [Op.bytesLess, Bool.or_eq_false_iff, decide_eq_false_iff_not, Bool.and_eq_false_iff, beq_eq_false_iff_ne]
    rcases h with h | ⟨rfl, h⟩
    · rw [UInt8.lt_iff_toNat_lt] at h
      exact ⟨by rw [UInt8.lt_iff_toNat_lt]; omega, .inl fun e => by rw [e] at h; omega⟩
    · exact ⟨by rw [UInt8.lt_iff_toNat_lt]; omega, .inr (bl_asym x y h)⟩
theorem bl_ne {x y : List UInt8} (h : Op.bytesLess x y = true) : x ≠ y := by
  rintro rfl
  have := bl_asym x x h
  rw [h] at this
  cases this

theorem code_less {n m : Nat} (h : n < m) (hm : m < 10000) : Op.bytesLess (codeN n) (codeN m) = true := by
  have k0 : (0 : Int) ≤ ((n / 1000 : Nat) : Int) ∧ ((n / 1000 : Nat) : Int) ≤ 9 := by omega
  have k1 : (0 : Int) ≤ ((n / 100 % 10 : Nat) : Int) ∧ ((n / 100 % 10 : Nat) : Int) ≤ 9 := by omega
  have k2 : (0 : Int) ≤ ((n / 10 % 10 : Nat) : Int) ∧ ((n / 10 % 10 : Nat) : Int) ≤ 9 := by omega
  have k3 : (0 : Int) ≤ ((n % 10 : Nat) : Int) ∧ ((n % 10 : Nat) : Int) ≤ 9 := by omega
  have j0 : (0 : Int) ≤ ((m / 1000 : Nat) : Int) ∧ ((m / 1000 : Nat) : Int) ≤ 9 := by omega
  have j1 : (0 : Int) ≤ ((m / 100 % 10 : Nat) : Int) ∧ ((m / 100 % 10 : Nat) : Int) ≤ 9 := by omega
  have j2 : (0 : Int) ≤ ((m / 10 % 10 : Nat) : Int) ∧ ((m / 10 % 10 : Nat) : Int) ≤ 9 := by omega
  have j3 : (0 : Int) ≤ ((m % 10 : Nat) : Int) ∧ ((m % 10 : Nat) : Int) ≤ 9 := by omega
  unfold codeN
  show Op.bytesLess [sg ((n / 1000 : Nat) : Int), sg ((n / 100 % 10 : Nat) : Int), sg ((n / 10 % 10 : Nat) : Int), sg ((n % 10 : Nat) : Int), 45, sg _] [sg ((m / 1000 : Nat) : Int), sg ((m / 100 % 10 : Nat) : Int), sg ((m / 10 % 10 : Nat) : Int), sg ((m % 10 : Nat) : Int), 45, sg _] = true
  simp only [Op.bytesLess, Bool.or_eq_true, decide_eq_true_eq, Bool.and_eq_true, beq_iff_eq, sgl k0 j0, sgl k1 j1, sgl k2 j2, sgl k3 j3]
  by_cases h0 : n / 1000 < m / 1000
  · exact .inl (by omega)
  have e0 : n / 1000 = m / 1000 := by omega
  refine .inr ⟨by rw [e0], ?_⟩
  by_cases h1 : n / 100 % 10 < m / 100 % 10
  · exact .inl (by omega)
  have e1 : n / 100 % 10 = m / 100 % 10 := by omega
  refine .inr ⟨by rw [e1], ?_⟩
  by_cases h2 : n / 10 % 10 < m / 10 % 10
  · exact .inl (by omega)
  have e2 : n / 10 % 10 = m / 10 % 10 := by omega
  refine .inr ⟨by rw [e2], ?_⟩
  exact .inl (by omega)

theorem rep_order (l : List UInt8) : (repT l 10000).Pairwise fun a b => Op.bytesLess a b = true := by
  unfold repT repN
  rw [List.pairwise_map]
  exact (List.Pairwise.filter _ List.pairwise_lt_range).imp_of_mem fun {a b} _ hb h => code_less h (List.mem_range.1 (List.mem_filter.1 hb).1)
theorem rep_each {l t : List UInt8} (h : t ∈ repT l 10000) : readOk t = true ∧ t.length = 6 ∧ 1 ≤ cntD l t 6 ∧ cntD l t 6 ≤ 2 := by
  unfold repT repN at h
  obtain ⟨n, hn, rfl⟩ := List.mem_map.1 h
  obtain ⟨h1, h2⟩ := List.mem_filter.1 hn
  refine ⟨(read_code (D4_valid (List.mem_range.1 h1))).1, codeN_len n, ?_⟩
  unfold nearB at h2
  simp only [Bool.or_eq_true, Bool.and_eq_true, beq_iff_eq] at h2
  rcases h2 with h2 | h2
  · omega
  · have := h2.1.1.1; omega

theorem repS_form {s : ByteArray} (h : 0 < (repS s).length) : s.size = 6 ∧ repS s = (repT s.data.toList 10000).map fun l => ⟨l.toArray⟩ := by
  have hv : repV s.data.toList ≠ [] := fun e => by
    unfold repS at h
    rw [e] at h
    simp at h
  have hc : (shapedB s.data.toList && !readOk s.data.toList) = true := by
    by_cases hc : (shapedB s.data.toList && !readOk s.data.toList) = true
    · exact hc
    · exact absurd (by unfold repV; rw [if_neg hc]) hv
  have hs := shaped_len (Bool.and_eq_true _ _ ▸ hc : shapedB s.data.toList = true ∧ _).1
  rw [Array.length_toList] at hs
  refine ⟨hs, ?_⟩
  unfold repS repV
  rw [if_pos hc]
theorem repS_each {s T : ByteArray} (h : T ∈ repS s) : s.size = 6 ∧ T.size = 6 ∧ readOk T.data.toList = true ∧ 1 ≤ cntD s.data.toList T.data.toList 6 ∧ cntD s.data.toList T.data.toList 6 ≤ 2 := by
  obtain ⟨h1, h2⟩ := repS_form (List.length_pos_of_mem h)
  rw [h2] at h
  obtain ⟨l, hl, rfl⟩ := List.mem_map.1 h
  obtain ⟨g1, g2, g3⟩ := rep_each hl
  exact ⟨h1, by show l.toArray.size = 6; rw [List.size_toArray]; exact g2, g1, g3⟩
theorem repS_order {s : ByteArray} {k : Nat} (hk : k + 1 < (repS s).length) : Op.bytesLess (repS s)[k].toList (repS s)[k + 1].toList = true := by
  obtain ⟨h1, h2⟩ := repS_form (by omega : 0 < (repS s).length)
  have hp := List.pairwise_iff_getElem.1 (rep_order s.data.toList)
  have hl : (repS s).length = (repT s.data.toList 10000).length := by rw [h2, List.length_map]
  have h := hp k (k + 1) (by omega) (by omega) (by omega)
  simp only [ByteArray.toList_eq, h2, List.getElem_map]
  exact h


set_option maxRecDepth 100000 in
set_option maxHeartbeats 1000000 in
theorem equalTexts_self (A B : Option Addr) (c d : Nat) (ts : List ByteArray) (w : World) (hr : Own w 0 w.heap.size A (sv ts)) (hs : Own w 0 w.heap.size B (sv ts)) (hl : ts.length ≤ 1048576) :
    Calls Try.prog 18 #[.slice A ts.length c, .slice B ts.length d] w fun e w' => e = .returned (.bool true) ∧ Below w.heap.size w w' := by
  have ht : ((ts.length : Int) != (ts.length : Int)) = false := by simp
  go_enter Try.func18, Try.ntmps18
  go_wp2
  clear ht
  go_loopw [5] (fun i wr => ∃ k : Nat, k ≤ ts.length ∧ i = .int .i64 k ∧ ∃ n, wr = w.drewN n) (fun i _ => ts.length - (intOf i).toNat)
  case atStart => exact ⟨0, by omega, rfl, 0, rfl⟩
  case round =>
    obtain ⟨k, hk, rfl, n, rfl⟩ := hrel
    by_cases hlt : k < ts.length
    · obtain ⟨b, o, rfl, hb, hc⟩ := hr.open (by rw [sv_length]; omega)
      obtain ⟨b', o', rfl, hb', hc'⟩ := hs.open (by rw [sv_length]; omega)
      have h1 := hc k _ (sv_get ts k hlt)
      have h2 := hc' k _ (sv_get ts k hlt)
      obtain ⟨T, hT⟩ : ∃ T, ts[k] = T := ⟨_, rfl⟩
      rw [hT] at h1 h2
      have hn1 : (T.toList != T.toList) = false := by simp
      have hn2 : (T.toList == T.toList) = true := by simp
      clear hc hc' hT
      go_wp2
      go_quiet (fail)
      go_wp2
      go_roundw
      case rel => exact ⟨k + 1, by omega, by go_num, _, rfl⟩
      case measure => simp [intOf]; omega
    · have hk' : k = ts.length := by omega
      subst hk'
      go_wp2
      go_ret
      exact ⟨rfl, below_drewN (Below.refl _ _) _⟩

set_option maxRecDepth 100000 in
set_option maxHeartbeats 8000000 in
theorem repairsOf_law (A : Option Addr) (c : Nat) (zs : List Int) (w : World) (hr : Own w 0 w.heap.size A (zs.map (Value.int .u8))) (hx : zs.length ≤ c ∧ c ≤ maxLen ∧ ∀ z ∈ zs, (Lit.int .u8 z).wf = true) :
    Calls Try.prog 5 #[.slice A zs.length c] w fun e w' => e = .returned (.bool true) ∧ Below w.heap.size w w' := by
  have hl : zs.length ≤ 9223372036854775807 := by have := hx.1; have := hx.2.1; unfold maxLen at this; omega
  have HX := Lib.hid hx
  clear hx
  by_cases h20 : zs.length ≤ 1048576
  · go_enter Try.func5, Try.ntmps5
    go_wp2_with fail
    refine (drawRepairsOf_any _ _ _ _ hr HX.out).mono ?_
    rintro e w1 ⟨s, rfl, hs, b1⟩
    have z1 := b1.size
    have hea := fun T => repS_each (s := s) (T := T)
    have hor := fun k => repS_order (s := s) (k := k)
    have hvl := (repS_len s).2
    obtain ⟨V, hV⟩ : ∃ V, repS s = V := ⟨_, rfl⟩
    rw [hV] at hea hvl
    have hor2 : ∀ (k : Nat) (h : k + 1 < V.length), Op.bytesLess V[k].toList V[k + 1].toList = true := by subst hV; exact hor
    have HEA := Lib.hid hea
    have HOR := Lib.hid hor2
    have HV := Lib.hid hV
    clear hea hor hor2 hV HX hr h20 hl
    go_wp2_with fail
    refine (impRepairs_S s V _ HV.out).mono ?_
    rintro e w2 ⟨A2, c2, rfl, _, o2, b2⟩
    have z2 := b2.size
    have p2 := b1.trans (b2.mono z1)
    go_wp2_with fail
    refine (specRepairs_S s V _ HV.out).mono ?_
    rintro e w3 ⟨A3, c3, rfl, _, o3, b3⟩
    have z3 := b3.size
    have o23 := o2.past b3
    have p3 := p2.trans (b3.mono (by omega))
    clear b1 b2 b3 o2 p2
    go_wp2_with fail
    refine (equalTexts_self _ _ _ _ _ _ o23.row o3.row (by omega)).mono ?_
    rintro e w4 ⟨rfl, b4⟩
    have z4 := b4.size
    have o24 := o23.past b4
    have p4 := p3.trans (b4.mono (by omega))
    clear b4 o23 p3 o3
    have HP4 := Lib.hid p4
    clear p4
    by_cases h0 : V.length = 0
    · have h00 : ((V.length : Int) == 0) = true := by rw [h0]; rfl
      clear h0
      go_wp2_with fail
      refine (specRepairs_S s V _ HV.out).mono ?_
      rintro e w5 ⟨A5, c5, rfl, _, o5, b5⟩
      have z5 := b5.size
      have o25 := o24.past b5
      go_wp2_with fail
      refine (equalTexts_self _ _ _ _ _ _ o25.row o5.row (by omega)).mono ?_
      rintro e w6 ⟨rfl, b6⟩
      have hf5 := HP4.out.trans (b5.mono HP4.out.size)
      have HF := Lib.hid (hf5.trans (b6.mono hf5.size))
      clear hf5 b5 b6
      go_wp2
      go_ret
      exact ⟨rfl, HF.out⟩
    · have h00 : ((V.length : Int) == 0) = false := by rw [beq_eq_false_iff_ne]; omega
      have h6 := (HEA.out V[0] (List.getElem_mem (by omega))).1
      have h6a : s.size ≤ 6 := by omega
      have h6b : 6 ≤ s.size := by omega
      have HS6 := Lib.hid h6
      have HO := Lib.hid o24
      clear h0 h6 o24 hs
      go_wp2
      clear h00
      go_loopw [5] (fun i wr => ∃ k : Nat, k ≤ V.length ∧ i = .int .i64 k ∧ Below w4.heap.size w4 wr) (fun i _ => V.length - (intOf i).toNat)
      case atStart => exact ⟨0, by omega, rfl, Below.refl _ _⟩
      case round =>
        obtain ⟨k, hk, rfl, hbr⟩ := hrel
        have hbz := hbr.size
        by_cases hlt : k < V.length
        · obtain ⟨b, o, rfl, hb, hcc⟩ := (HO.out.below hbr).open (by rw [sv_length]; omega)
          have h1 := hcc k _ (sv_get V k hlt)
          have hev := HEA.out V[k] (List.getElem_mem hlt)
          obtain ⟨T, hT⟩ : ∃ T, V[k] = T := ⟨_, rfl⟩
          rw [hT] at h1 hev
          obtain ⟨-, ht6, hrk, hc1, hc2⟩ := hev
          have ht6a : T.size ≤ 6 := by omega
          have ht6b : 6 ≤ T.size := by omega
          have hrd := fun W => impReadCode_any T W
          unfold readTwo at hrd
          rw [hrk] at hrd
          have HRD := Lib.hid hrd
          have HBR := Lib.hid hbr
          have HT := Lib.hid hT
          have hbw : b < wr.heap.size := by omega
          clear hrd hrk ht6 hT hbr
          go_wp2_with fail
          refine (HRD.out _).mono ?_
          rintro e w5 ⟨A5, c5, rfl, _, b5⟩
          have h5 := cell_stay b5 hbw h1
          have HB5 := Lib.hid (HBR.out.trans (b5.mono hbz))
          have hcc5 : ∀ (j : Nat) (h : j < V.length), w5.cell? ⟨b, o + j, none⟩ = some (.string V[j]) := fun j h => cell_stay b5 hbw (hcc j _ (sv_get V j h))
          have HC5 := Lib.hid hcc5
          obtain ⟨fa, hfa⟩ : ∃ fa, s.data.toList = fa := ⟨_, rfl⟩
          obtain ⟨fb, hfb⟩ : ∃ fb, T.data.toList = fb := ⟨_, rfl⟩
          rw [hfa, hfb] at hc1 hc2
          have HAA := Lib.hid hfa
          have HBB := Lib.hid hfb
          have HCC := Lib.hid (And.intro hc1 hc2)
          obtain ⟨rl, hrl⟩ : ∃ rl, (readV T.data.toList).length = rl := ⟨_, rfl⟩
          rw [hrl]
          clear hcc hcc5 b5 h1 hfa hfb hc1 hc2 HRD HBR hbz hrl
          obtain ⟨W0, hW0⟩ : ∃ W : World, W = wr := ⟨_, rfl⟩
          subst hW0
          go_wp2
          go_loopw [8, 9] (fun f j wr => ∃ m n : Nat, m ≤ 6 ∧ j = .int .i64 m ∧ f = .int .i64 (cntD fa fb m : Nat) ∧ wr = w5.drewN n) (fun _ j _ => 6 - (intOf j).toNat)
          case atStart => exact ⟨0, 0, by omega, rfl, rfl, rfl⟩
          case round =>
            obtain ⟨m, n, hm, rfl, rfl, hw⟩ := hrel
            subst hw
            have hcb := cntD_le fa fb m
            obtain ⟨cn, hcn⟩ : ∃ cn, cntD fa fb m = cn := ⟨_, rfl⟩
            rw [hcn] at hcb
            rw [hcn]
            have HC := Lib.hid hcn
            clear hcn
            by_cases hmt : m < 6
            · have hks : m < s.size := by omega
              have hkt : m < T.size := by omega
              have hA := byte_getD s m hks
              have hB := byte_getD T m hkt
              rw [HAA.out] at hA
              rw [HBB.out] at hB
              have HA := Lib.hid hA
              have HB := Lib.hid hB
              clear hA hB
              by_cases hd : difC fa fb m = true
              · have hne : (((s[m]'hks).toNat : Int) != ((T[m]'hkt).toNat : Int)) = true := by
                  refine bne_iff_ne.2 fun e => ?_
                  have : s[m]'hks = T[m]'hkt := UInt8.toNat_inj.1 (by omega)
                  unfold difC at hd
                  rw [HA.out, HB.out, this] at hd
                  simp at hd
                have HC1 := Lib.hid (show cntD fa fb (m + 1) = cn + 1 by simp only [cntD, HC.out, hd, if_true])
                clear hd
                go_wp2
                go_region
                go_wp2
                go_roundw
                case rel => exact ⟨m + 1, n + 1, by omega, by go_num, by rw [HC1.out]; go_num, rfl⟩
                case measure => simp [intOf]; omega
              · have hne : (((s[m]'hks).toNat : Int) != ((T[m]'hkt).toNat : Int)) = false := by
                  refine bne_eq_false_iff_eq.2 ?_
                  have : s[m]'hks = T[m]'hkt := by unfold difC at hd; rw [HA.out, HB.out] at hd; simpa using hd
                  rw [this]
                have HC1 := Lib.hid (show cntD fa fb (m + 1) = cn by simp [cntD, HC.out, hd])
                clear hd
                go_wp2
                go_region
                go_wp2
                go_roundw
                case rel => exact ⟨m + 1, n + 1, by omega, by go_num, by rw [HC1.out], rfl⟩
                case measure => simp [intOf]; omega
            · have hm6 : m = 6 := by omega
              subst hm6
              have hcn1 := HCC.out
              rw [HC.out] at hcn1
              have d1 : decide ((cn : Int) < 1) = false := decide_eq_false (by omega)
              have d2 : decide ((2 : Int) < (cn : Int)) = false := decide_eq_false (by omega)
              clear hcn1 hcb HC
              by_cases hk0 : k = 0
              · subst hk0
                go_wp2
                go_quiet (fail)
                go_wp2
                go_roundw
                case rel => exact ⟨1, by omega, by go_num, below_drewN HB5.out _⟩
                case measure => simp [intOf]; omega
              · obtain ⟨r, hkr⟩ : ∃ r, k = r + 1 := ⟨k - 1, by omega⟩
                have hrv : r < V.length := by omega
                have hP := HC5.out r hrv
                have hle := HOR.out r (by omega)
                obtain ⟨P, hPP⟩ : ∃ P, V[r] = P := ⟨_, rfl⟩
                have hTT : V[r + 1]'(by omega) = T := by rw [← HT.out]; congr 1; exact hkr.symm
                rw [hPP] at hP
                rw [hTT, hPP] at hle
                have l1 : Op.bytesLess T.toList P.toList = false := bl_asym _ _ hle
                have l2 : (T.toList == P.toList) = false := by
                  rw [beq_eq_false_iff_ne]
                  exact fun e => bl_ne hle e.symm
                have hsub : (k : Int) - 1 = (r : Int) := by omega
                have hwk : IntKind.i64.wrap ((k : Int) - 1) = (r : Int) := by rw [hsub]; exact IntWalk.i64_in _ (by omega)
                have hwr : IntKind.i64.wrap (r : Int) = (r : Int) := IntWalk.i64_in _ (by omega)
                have hk0I : (0 : Int) < (k : Int) := by omega
                have hk0N : 0 < k := by omega
                have hk0D : decide (0 < k) = true := by simpa using hk0N
                have hr0 : (0 : Int) ≤ (r : Int) := by omega
                have hrI : (r : Int) < (V.length : Int) := by omega
                clear hle hPP hTT hkr
                go_wp2
                go_quiet (fail)
                go_wp2
                go_roundw
                case rel => exact ⟨k + 1, by omega, by go_num, below_drewN HB5.out _⟩
                case measure => simp [intOf]; omega
        · have hk' : k = V.length := by omega
          subst hk'
          have HF := Lib.hid (HP4.out.trans (hbr.mono HP4.out.size))
          clear hbr
          go_wp2
          go_ret
          exact ⟨rfl, HF.out⟩
  · go_enter Try.func5, Try.ntmps5
    go_wp2
    go_ret
    exact ⟨rfl, Below.refl _ _⟩
end Go.Proofs.Ytempfagjbpnlcaa
