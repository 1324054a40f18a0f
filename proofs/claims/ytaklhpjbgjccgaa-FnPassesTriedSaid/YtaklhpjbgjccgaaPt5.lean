/- spec.PassesTried. No condition. -/
import Derived.Test.YtaklhpjbgjccgaaPt4
import Derived.Test.YtaklhpjbgjccgaaS9
namespace Go.Proofs.Ytaklhpjbgjccgaa
open Go.RowKit

theorem lit_ownsRow (W : World) (x : Int) (base : Nat) (hb : base ≤ W.heap.size) : (W.alloc (.cells #[.int .i64 x] 3)).ownsRow base 3 1 (.slice (some ⟨W.heap.size, 0, none⟩) 1 1) 1 ([x].map (Value.int .i64)) := World.ownsRow_lit W #[.int .i64 x] 1 hb (by simp [maxLen]) rfl
theorem goal_small {zs : List Int} (h : zs.length ≤ 4) : ∀ (i : Nat) (hi : i < (goalOf zs).length), 0 ≤ (goalOf zs)[i] ∧ (goalOf zs)[i] < 9 := fun i hi => by
  unfold goalOf at hi ⊢
  rw [tab_length] at hi
  rw [tab_get hi]
  omega
theorem tab_snoc2 (n : Nat) (f : Nat → Int) : tab (n + 1) f = tab n f ++ [f n] := by
  unfold tab; rw [List.range_succ, List.map_append]; rfl

theorem Built.push2 {w1 w2 w3 : World} {base : Nat} {H H' R : Option Addr} {c c' cR : Nat} {hs : List Value} {rs : List (List Int)} {r : List Int}
    (h : Built w1 base H c hs rs) (hbase : base ≤ w1.heap.size) (h' : Built w2 base H c hs rs) (hb : w1.heap.size ≤ w2.heap.size) (hR : OwnInts w2 w1.heap.size w2.heap.size R r) (hc : r.length ≤ cR)
    (hown : w3.ownsRow base 23 1 (.slice H' (rs.length + 1) c') (rs.length + 1) (hs ++ [.slice R r.length cR])) (hg : w2.grownBy w3 (Value.slice H rs.length c).ownBlock)
    (hl : H'.map (·.block) = H.map (·.block) ∨ H'.map (·.block) = some (w2.heap.size + 1)) : Built w3 base H' c' (hs ++ [.slice R r.length cR]) (rs ++ [r]) := by
  obtain ⟨h1, h2, h3⟩ := h
  have hHlt : ∀ i, H.map (·.block) = some i → i < w1.heap.size := fun i hi => (h1.lt i (by rw [slice_block]; exact hi)).2
  rw [slice_block] at hg
  have hold : ∀ (i : Nat) (hi : i < rs.length) (A : Option Addr) (cA : Nat), rs[i] ≠ [] → hs[i]? = some (.slice A rs[i].length cA) → ∃ b o, A = some ⟨b, o, none⟩ ∧ b < w1.heap.size := by
    intro i hi A cA hne hA
    obtain ⟨A', c2, g1, _, g3⟩ := h2.2 i hi
    rw [g1] at hA
    simp only [Option.some.injEq, Value.slice.injEq] at hA
    obtain ⟨rfl, _, _⟩ := hA
    obtain ⟨b, o, hA2, hlt, _⟩ := g3.open (by simp; exact List.length_pos_iff.2 hne)
    exact ⟨b, o, hA2, hlt⟩
  have hnew : r ≠ [] → ∃ b o, R = some ⟨b, o, none⟩ ∧ w1.heap.size ≤ b ∧ b < w2.heap.size := by
    intro hne
    obtain ⟨b, o, hA2, h0, hlt, _⟩ := hR.open' (by omega) (by simp; exact List.length_pos_iff.2 hne)
    exact ⟨b, o, hA2, by omega, hlt⟩
  have hget : ∀ (i : Nat) (hi : i < rs.length), (rs ++ [r])[i]'(by simp; omega) = rs[i] := fun i hi => List.getElem_append_left hi
  have hgetn : (rs ++ [r])[rs.length]'(by simp) = r := by simp
  have hsl : hs.length = rs.length := h2.1
  refine ⟨by simpa using hown, ⟨by simp [hsl], fun i hi => ?_⟩, ?_, ?_⟩
  · simp only [List.length_append, List.length_cons, List.length_nil] at hi
    by_cases hir : i < rs.length
    · obtain ⟨A, c2, g1, g2, g3⟩ := h2.2 i hir
      rw [hget i hir]
      refine ⟨A, c2, by rw [List.getElem?_append_left (by omega)]; exact g1, g2, ?_⟩
      obtain ⟨A', c2', g1', _, g4⟩ := h'.2.1.2 i hir
      rw [g1] at g1'
      simp only [Option.some.injEq, Value.slice.injEq] at g1'
      obtain ⟨rfl, _, rfl⟩ := g1'
      by_cases hne : rs[i] = []
      · exact .inl (by rw [hne]; rfl)
      · obtain ⟨b, o, rfl, hblt⟩ := hold i hir A c2 hne g1
        have hap := h3.2 i hir _ c2 hne g1
        have hb2 := hb
        rcases g4 with g4 | ⟨b', o', hA, k0, klt, kc, kf⟩
        · exact .inl g4
        · simp only [Option.some.injEq, Addr.mk.injEq, and_true] at hA
          obtain ⟨rfl, rfl⟩ := hA
          have hbl := hg.block b (by omega) (fun e => hap e.symm.symm)
          exact .inr ⟨b, o, rfl, k0, by have := hg.size; omega, fun j u hu => (World.cell?_of_block (a := ⟨b, o + j, none⟩) hbl).trans (kc j u hu), fun h j => (World.frozen?_of_block (a := ⟨b, j, none⟩) hbl).trans (kf h j)⟩
    · have hie : i = rs.length := by omega
      subst hie
      rw [hgetn]
      refine ⟨R, cR, by rw [List.getElem?_append_right (by omega), hsl]; simp, hc, ?_⟩
      exact ((hR.apart (Nat.le_refl _) hg (fun i hi => hHlt i hi)).more hg.size).less (by omega)
  · intro i j hi hj A B cA cB hij hne1 hne2 hA hB
    simp only [List.length_append, List.length_cons, List.length_nil] at hi hj
    by_cases hir : i < rs.length
    · rw [hget i hir] at hne1 hA
      rw [List.getElem?_append_left (by omega)] at hA
      by_cases hjr : j < rs.length
      · rw [hget j hjr] at hne2 hB
        rw [List.getElem?_append_left (by omega)] at hB
        exact h3.1 i j hir hjr A B cA cB hij hne1 hne2 hA hB
      · have hje : j = rs.length := by omega
        subst hje
        rw [hgetn] at hne2 hB
        rw [List.getElem?_append_right (by omega), hsl] at hB
        simp at hB
        obtain ⟨rfl, _⟩ := hB
        obtain ⟨b, o, rfl, hb1⟩ := hold i hir A cA hne1 hA
        obtain ⟨b', o', rfl, hb2, _⟩ := hnew hne2
        simp; omega
    · have hie : i = rs.length := by omega
      subst hie
      have hjr : j < rs.length := by omega
      rw [hgetn] at hne1 hA
      rw [List.getElem?_append_right (by omega), hsl] at hA
      simp at hA
      obtain ⟨rfl, _⟩ := hA
      rw [hget j hjr] at hne2 hB
      rw [List.getElem?_append_left (by omega)] at hB
      obtain ⟨b, o, rfl, hb1⟩ := hold j hjr B cB hne2 hB
      obtain ⟨b', o', rfl, hb2, _⟩ := hnew hne1
      simp; omega
  · intro i hi A cA hne hA
    simp only [List.length_append, List.length_cons, List.length_nil] at hi
    have hb2 := hb
    by_cases hir : i < rs.length
    · rw [hget i hir] at hne hA
      rw [List.getElem?_append_left (by omega)] at hA
      rcases hl with hl | hl
      · rw [hl]; exact h3.2 i hir A cA hne hA
      · obtain ⟨b, o, rfl, hb1⟩ := hold i hir A cA hne hA
        rw [hl]; simp; omega
    · have hie : i = rs.length := by omega
      subst hie
      rw [hgetn] at hne hA
      rw [List.getElem?_append_right (by omega), hsl] at hA
      simp at hA
      obtain ⟨rfl, _⟩ := hA
      obtain ⟨b, o, rfl, hb1, hb3⟩ := hnew hne
      rcases hl with hl | hl
      · intro e
        rw [hl] at e
        have := hHlt b (by rw [← e]; rfl)
        omega
      · rw [hl]; simp; omega

set_option maxRecDepth 100000 in
set_option maxHeartbeats 32000000 in
theorem specTried_any (A : Option Addr) (c0 : Nat) (zs : List Int) (k : Int) (w : World) (hr : Ints w w.heap.size A zs) (hlc : zs.length ≤ c0) (hl : zs.length ≤ 9000000000000000000) :
    Calls Try.prog 33 #[.slice A zs.length c0, .int .i64 k] w fun e w' => e = .returned (.int .i64 (triedV zs k)) ∧ Below w.heap.size w w' := by
  obtain ⟨i0, hi0, hz0, hz1, hz2⟩ := info_parts Try.info3
  obtain ⟨iR, hiR, hR0, hR1, hR2⟩ := info_parts Try.infoR
  have hva := specValidRow_any A c0 zs 4 w hr (by omega) hl
  obtain ⟨V, hV⟩ : ∃ V, triedV zs k = V := ⟨_, rfl⟩
  rw [hV]
  have HV := Lib.hid hV
  clear hV
  by_cases hv4 : rowB 4 zs = true
  · rw [hv4] at hva
    have HVA := Lib.hid hva
    clear hva
    by_cases hk : inR k 2 4 = true
    · obtain ⟨k, rfl⟩ : ∃ k' : Nat, k = (k' : Int) := ⟨k.toNat, by simp [inR] at hk; omega⟩
      have hk2 : 2 ≤ k ∧ k ≤ 4 := by simp [inR] at hk; omega
      obtain ⟨hk2, hk4⟩ := hk2
      have hv := row9_of hv4
      have h4 : zs.length ≤ 4 := rowB_len hv4
      have HVV := Lib.hid (show V = (passN (runsNat zs) k : Int) by rw [← HV.out]; exact triedV_yes hv4 hk)
      have HKR := Lib.hid hk
      have HR := Lib.hid hv
      have hL2 : passN (runsNat zs) k ≤ 2 := passN_two (Nat.le_trans runsNat_few h4) hk2
      have HFO := Lib.hid (fun p N Sn (h : Stage zs k p N Sn) (hp : p ≤ passN (runsNat zs) k) => Stage.found hv hk2 hk4 h hp)
      obtain ⟨L, hL⟩ : ∃ L, passN (runsNat zs) k = L := ⟨_, rfl⟩
      rw [hL] at HVV hL2 HFO
      have hkn := pow_256 ⟨k, by omega⟩ ⟨zs.length, by omega⟩
      simp only at hkn
      have hkp : 0 < k ^ zs.length := Nat.pow_pos (by omega)
      have hpw := fun W => power_any k zs.length W (by omega) (by omega) (by omega)
      obtain ⟨K, hK⟩ : ∃ K, k ^ zs.length = K := ⟨_, rfl⟩
      rw [hK] at hkn hkp hpw
      have HK := Lib.hid hK
      have HPW := Lib.hid hpw
      have HPJ := Lib.hid (fun j (hj : j < zs.length) => show k ^ j ≤ 256 ∧ 0 < k ^ j from ⟨pow_256 ⟨k, by omega⟩ ⟨j, by omega⟩, Nat.pow_pos (by omega)⟩)
      have HFST := Lib.hid (first_lit w w.heap.size (Nat.le_refl _))
      clear hv hk hv4 hL hK hpw
      go_enter Try.func33, Try.ntmps33
      go_wp2_with (first | (go_at_call 72; refine HVA.out.mono ?_; rintro e w' ⟨rfl, rfl⟩) | (go_at_call 69; refine (inRange_any _ _ _ _).mono ?_; rintro e w' ⟨rfl, rfl⟩; rw [HKR.out]))
      go_loopw [5, 6] (fun v i wr => ∃ (j : Nat) (G : Option Addr) (cG : Nat), j ≤ zs.length ∧ i = .int .i64 j ∧ v = .slice G j cG ∧ wr.ownsRow w.heap.size 3 1 (.slice G j cG) j ((tab j fun j => (j : Int)).map (Value.int .i64)) ∧ Below w.heap.size w wr) (fun _ i _ => zs.length - (intOf i).toNat)
      case atStart => exact ⟨0, _, _, by omega, rfl, rfl, HFST.out, (Below.refl _ _).alloc (Nat.le_refl _) _⟩
      case round =>
        clear HFST
        obtain ⟨j, G, cG, hj, rfl, rfl, hown, hbr⟩ := hrel
        have hbz := hbr.size
        by_cases hlt : j < zs.length
        · go_wp2_with (at_builtin; refine wpList_push rfl (.tmp 32) (.tmp 34) 23 rfl i0 (.int .i64 0) 8 Try.underlying23 hi0 hz0 hz1 hz2 rfl (by decide) _ _ rfl hown [.int .i64 (j : Int)] rfl rfl (by simp [Value.oneCell']) (by omega) (by omega) hbz ?_)
          intro G' c' w2 hown2 hg2
          have HW := Lib.hid (And.intro hown2 (hbr.grown hg2 hbz (fun i hi => (hown.lt _ hi).1)))
          clear hown hbr hg2 hown2
          go_wp2
          go_roundw
          case rel => exact ⟨j + 1, G', c', by omega, by go_num, rfl, by rw [tab_snoc2, List.map_append]; exact HW.out.1, HW.out.2⟩
          case measure => simp [intOf]; omega
        · have hjn : j = zs.length := by omega
          subst hjn
          obtain ⟨Wg, hWg⟩ : ∃ W : World, W = wr := ⟨_, rfl⟩
          subst hWg
          have HGO := Lib.hid (own_of_rowS (by decide) hown).row
          have HBR := Lib.hid hbr
          obtain ⟨W1, hW1⟩ : ∃ W1, Wg.alloc (.cells #[.slice A zs.length c0] 23) = W1 := ⟨_, rfl⟩
          have hsz1 : W1.heap.size = Wg.heap.size + 1 := by rw [← hW1]; simp
          have hb1 : Below Wg.heap.size Wg W1 := by rw [← hW1]; exact (Below.refl _ _).alloc (Nat.le_refl _) _
          have hrg := hr.below hbr
          have HN1 := Lib.hid (show NowAt W1 W1.heap.size (some ⟨Wg.heap.size, 0, none⟩) [.slice A zs.length c0] [zs] W1.heap.size by
            rw [← hW1]
            refine ⟨(own_new Wg #[.slice A zs.length c0] 23).more (by simp), ⟨rfl, fun i hi => ?_⟩, fun _ => by simp, fun i hi A' cA hne hA e => ?_⟩
            · simp only [List.length_cons, List.length_nil, Nat.zero_add, Nat.lt_one_iff] at hi
              subst hi
              exact ⟨A, c0, rfl, hlc, (hrg.below ((Below.refl _ _).alloc hbz _)).more (by simp; omega)⟩
            · simp only [List.length_cons, List.length_nil, Nat.zero_add, Nat.lt_one_iff] at hi
              subst hi
              simp at hA
              obtain ⟨rfl, _⟩ := hA
              obtain ⟨b, o, rfl, hb2, _⟩ := hrg.open (by simp; exact List.length_pos_iff.2 (by simpa using hne))
              simp at e
              omega)
          have hrz1 : Ints W1 W1.heap.size A zs := (hrg.below (hb1.mono hbz)).more (by omega)
          have hrn := rowNumber_any A c0 zs W1 hrz1 h4 (row_small HR.out (by omega))
          obtain ⟨q0, hq0⟩ : ∃ q, numR zs = q := ⟨_, rfl⟩
          rw [hq0] at hrn
          have HRNU := Lib.hid hrn
          obtain ⟨S0, hS0⟩ : ∃ S, W1.heap.size = S := ⟨_, rfl⟩
          obtain ⟨W2, hW2⟩ : ∃ W2, W1.alloc (.cells #[.int .i64 q0] 3) = W2 := ⟨_, rfl⟩
          have hs2 : W2.ownsRow S0 3 1 (.slice (some ⟨S0, 0, none⟩) 1 1) 1 ([q0].map (Value.int .i64)) := by rw [← hW2, ← hS0]; exact lit_ownsRow W1 q0 _ (Nat.le_refl _)
          have hb12 : Below W1.heap.size W1 W2 := by rw [← hW2]; exact (Below.refl _ _).alloc (Nat.le_refl _) _
          have hn2 : NowAt W2 W2.heap.size (some ⟨Wg.heap.size, 0, none⟩) [.slice A zs.length c0] [zs] S0 := by
            have := (HN1.out.below hb12).more hb12.size
            rwa [hS0] at this
          have HST := Lib.hid (show Stage zs k 0 [zs] [q0] by rw [← hq0]; exact Stage.start HR.out k)
          have HGO2 := Lib.hid (show Own W2 0 S0 G ((goalOf zs).map (Value.int .i64)) from ((HGO.out.below hb1).more (by omega)).below (hb12.mono (by omega)))
          have HIN := Lib.hid (And.intro hs2 (And.intro hn2 (show Below w.heap.size w W2 from (HBR.out.trans (hb1.mono hbz)).trans (hb12.mono (by omega)))))
          have hSW : w.heap.size ≤ S0 := by omega
          have hW1' : Wg.alloc (.cells #[.slice A zs.length c0] 23) = W1 := hW1
          have hW2' : W1.alloc (.cells #[.int .i64 q0] 3) = W2 := hW2
          clear hown hbr hsz1 hb1 hrg HN1 hrz1 hrn hq0 hs2 hb12 hn2 hW1 hW2
          go_wp2_with (go_at_call 73; refine HRNU.out.mono ?_; rintro e w' ⟨rfl, rfl⟩)
          clear hW1' hW2' HGO HBR HRNU
          go_loopw [7, 8, 9] (fun v sv n wr => ∃ (p m c ms cs gs : Nat) (H : Option Addr) (hs : List Value) (N : List (List Int)) (Sn : List Int), p ≤ L ∧ n = .int .i64 p ∧ v = .slice H m c ∧ sv = .slice (some ⟨gs, 0, none⟩) ms cs ∧ Hid (m = N.length ∧ ms = Sn.length) ∧ m ≤ 256 ^ p ∧ ms ≤ 2 * 256 ^ p ∧
            wr.ownsRow S0 3 1 (.slice (some ⟨gs, 0, none⟩) ms cs) ms (Sn.map (Value.int .i64)) ∧ NowAt wr wr.heap.size H hs N gs ∧ Hid (Stage zs k p N Sn) ∧ Below S0 W2 wr) (fun _ _ n _ => L - (intOf n).toNat)
          case atStart => exact ⟨0, 1, 1, 1, 1, S0, _, _, [zs], [q0], by omega, rfl, rfl, rfl, Lib.hid ⟨rfl, rfl⟩, by simp, by simp, HIN.out.1, HIN.out.2.1, HST, Below.refl _ _⟩
          case round =>
            have HB2 := Lib.hid HIN.out.2.2
            clear HIN HST
            obtain ⟨p, m, c, ms, cs, gs, H, hs, N, Sn, hp, rfl, rfl, rfl, HMN, hmp, hmsp, hsn, hnow, HSTG, hbr⟩ := hrel
            obtain ⟨W, hW⟩ : ∃ W : World, W = wr := ⟨_, rfl⟩
            subst hW
            have HSN := Lib.hid hsn
            have HNOW := Lib.hid hnow
            have HBR := Lib.hid hbr
            have HMP := Lib.hid (And.intro hmp hmsp)
            have hm65 : m ≤ 65536 := by
              have : 256 ^ p ≤ 256 ^ 2 := Nat.pow_le_pow_right (by omega) (by omega)
              omega
            have HGW := Lib.hid (HGO2.out.below hbr)
            have hSz : S0 ≤ W.heap.size := by have := (hsn.lt gs rfl); omega
            have hrg := rowNumber_any G cG (goalOf zs) W (HGW.out.more hSz) (by unfold goalOf; rw [tab_length]; exact h4) (goal_small h4)
            rw [show (goalOf zs).length = zs.length by unfold goalOf; exact tab_length _ _] at hrg
            obtain ⟨qg, hqg⟩ : ∃ q, numR (goalOf zs) = q := ⟨_, rfl⟩
            rw [hqg] at hrg
            have HRG := Lib.hid hrg
            have HQG := Lib.hid hqg
            have HFP := Lib.hid (HFO.out p N Sn HSTG.out hp)
            clear hsn hnow hbr hmp hmsp hrg hqg
            go_wp2_with fail
            go_loop [10] (fun i => ∃ i' : Nat, i' ≤ m ∧ i = .int .i64 i' ∧ Hid (∀ r ∈ N.take i', numR r ≠ qg)) (fun i => m - (intOf i).toNat)
            case atStart => exact ⟨0, by omega, rfl, Lib.hid (by simp)⟩
            case round =>
              obtain ⟨i, hi, rfl, HNF⟩ := hrel
              by_cases hlt2 : i < m
              · have hiN : i < N.length := by have := HMN.out.1; omega
                obtain ⟨b, o, R0, cR, rfl, hb, hcell, hcR, hrow⟩ := HNOW.out.grid.open hiN
                have hre := HSTG.out.1 _ (List.getElem_mem hiN)
                have hrl := hre.len
                have hrn := rowNumber_any R0 cR N[i] W hrow (by omega) (row_small (hre.row HR.out) (by omega))
                have HT := Lib.hid (List.take_succ_eq_append_getElem hiN)
                have HM := Lib.hid (List.getElem_mem hiN)
                obtain ⟨r, hr'⟩ : ∃ r, N[i] = r := ⟨_, rfl⟩
                rw [hr'] at hcell hrl hrn HT HM
                rw [hrl] at hcell hrn
                obtain ⟨q, hq⟩ : ∃ q, numR r = q := ⟨_, rfl⟩
                rw [hq] at hrn
                have HRN := Lib.hid hrn
                have HQ := Lib.hid hq
                have hiI : (i : Int) < (m : Int) := by omega
                have hi0I : (0 : Int) ≤ (i : Int) := by omega
                clear hre hrl hrn hr' hq hcR hrow
                by_cases he : q = qg
                · have hd : (q == qg) = true := beq_iff_eq.2 he
                  have HF := Lib.hid (show V = (p : Int) by
                    rw [HVV.out]
                    have := HFP.out.1 ⟨r, HM.out, by rw [HQ.out, HQG.out]; exact he⟩
                    rw [this])
                  clear he
                  go_wp2_with (first | (go_at_call 73; with_reducible refine HRN.out.mono ?_; rintro e w' ⟨rfl, rfl⟩) | (go_at_call 73; with_reducible refine HRG.out.mono ?_; rintro e w' ⟨rfl, rfl⟩))
                  go_ret
                  exact ⟨ret_int HF.out.symm, HB2.out.trans (HBR.out.mono hSW)⟩
                · have hd : (q == qg) = false := beq_eq_false_iff_ne.2 he
                  have HNN := Lib.hid (show ∀ r' ∈ N.take (i + 1), numR r' ≠ qg from fun r' h => by
                    rw [HT.out] at h
                    rcases List.mem_append.1 h with h | h
                    · exact HNF.out r' h
                    · simp only [List.mem_singleton] at h
                      subst h
                      rw [HQ.out]; exact he)
                  clear he
                  go_wp2_with (first | (go_at_call 73; with_reducible refine HRN.out.mono ?_; rintro e w' ⟨rfl, rfl⟩) | (go_at_call 73; with_reducible refine HRG.out.mono ?_; rintro e w' ⟨rfl, rfl⟩))
                  go_round
                  case rel => exact ⟨i + 1, by omega, by go_num, Lib.hid (fun r' h => HNN.out r' h)⟩
                  case measure => simp [intOf]; omega
              · have hpL : p < L := by
                  refine Decidable.by_contra fun hc => ?_
                  obtain ⟨r, hr1, hr2⟩ := HFP.out.2 (by omega)
                  refine HNF.out r ?_ (by rw [hr2, HQG.out])
                  rw [List.take_of_length_le (by have := HMN.out.1; omega)]
                  exact hr1
                have hmp2 : m ≤ 256 ∧ ms ≤ 512 := by
                  have : 256 ^ p ≤ 256 ^ 1 := Nat.pow_le_pow_right (by omega) (by omega)
                  have := HMP.out
                  omega
                obtain ⟨hm256, hms512⟩ := hmp2
                clear HNF HFP
                obtain ⟨B2, hB2⟩ : ∃ B, W.heap.size = B := ⟨_, rfl⟩
                have HBU0 := Lib.hid (Built.start W B2 (by omega))
                obtain ⟨W3, hW3⟩ : ∃ W3, W.alloc (.cells #[] 23) = W3 := ⟨_, rfl⟩
                rw [hW3, hB2] at HBU0
                have hb3 : Below W.heap.size W W3 := by rw [← hW3]; exact (Below.refl _ _).alloc (Nat.le_refl _) _
                have hlgs := (HSN.out.lt gs rfl).2
                have HI3 := Lib.hid (show W3.ownsRow S0 3 1 (.slice (some ⟨gs, 0, none⟩) ms cs) ms (Sn.map (Value.int .i64)) ∧ NowAt W3 B2 H hs N gs ∧ NotIn (some ⟨B2, 0, none⟩) [] [] gs ∧ Below S0 W2 W3 ∧ B2 ≤ W3.heap.size from ⟨own_keep2 HSN.out hb3, by have := HNOW.out.below hb3; rwa [hB2] at this, ⟨by simp; omega, fun i hi => by simp at hi⟩, HBR.out.trans (hb3.mono hSz), by rw [← hB2]; exact hb3.size⟩)
                have hSB : S0 ≤ B2 := by omega
                have hW3' : W.alloc (.cells #[] 23) = W3 := hW3
                clear hb3 hlgs hW3
                go_wp2_with fail
                go_loopw [8, 11, 12] (fun sv v i wr => ∃ (i' m2 c2 ms' cs' gs' : Nat) (H2 : Option Addr) (hs2 : List Value) (R : List (List Int)) (Sm : List Int), i' ≤ m ∧ i = .int .i64 i' ∧ v = .slice H2 m2 c2 ∧ sv = .slice (some ⟨gs', 0, none⟩) ms' cs' ∧ Hid (m2 = R.length ∧ ms' = Sm.length) ∧ m2 ≤ i' * 256 ∧ ms' ≤ ms + i' * 256 ∧
                  wr.ownsRow S0 3 1 (.slice (some ⟨gs', 0, none⟩) ms' cs') ms' (Sm.map (Value.int .i64)) ∧ NowAt wr B2 H hs N gs' ∧ Built wr B2 H2 c2 hs2 R ∧ Hid (NotIn H2 hs2 R gs' ∧ Mid zs k p N Sn i' R Sm) ∧ Below S0 W2 wr ∧ B2 ≤ wr.heap.size) (fun _ _ i _ => m - (intOf i).toNat)
                case atStart => exact ⟨0, 0, 0, ms, cs, gs, _, [], [], Sn, by omega, rfl, rfl, rfl, Lib.hid ⟨rfl, HMN.out.2⟩, by omega, by omega, HI3.out.1, HI3.out.2.1, HBU0.out, Lib.hid ⟨HI3.out.2.2.1, Mid.start _ _ _ _ _⟩, HI3.out.2.2.2.1, HI3.out.2.2.2.2⟩
                case round =>
                  clear HI3 HBU0 HSN HNOW HBR HGW HRG
                  obtain ⟨i, m2, c2, ms', cs', gs', H2, hs2, R, Sm, hi, rfl, rfl, rfl, HMR, hm2, hms2, hsn, hnow, hbu, HNM, hbr, hB2i⟩ := hrel
                  by_cases hlt3 : i < m
                  · have hiN : i < N.length := by have := HMN.out.1; omega
                    have hre := HSTG.out.1 _ (List.getElem_mem hiN)
                    have HRE := Lib.hid (show ∀ X : World, NowAt X B2 H hs N gs' → True from fun _ _ => trivial)
                    obtain ⟨r, hr'⟩ : ∃ r, N[i] = r := ⟨_, rfl⟩
                    have HRI := Lib.hid hr'
                    rw [hr'] at hre
                    have HREA := Lib.hid hre
                    have hrl := hre.len
                    have HRL := Lib.hid hrl
                    have HM0 := Lib.hid (And.intro hm2 hms2)
                    clear hre hr' hrl HRE
                    go_wp2_with fail
                    go_loopw [8, 11, 13] (fun sv v wv wr => ∃ (wn m2 c2 ms' cs' gs' : Nat) (H2 : Option Addr) (hs2 : List Value) (R : List (List Int)) (Sm : List Int), wn ≤ K ∧ wv = .int .i64 wn ∧ v = .slice H2 m2 c2 ∧ sv = .slice (some ⟨gs', 0, none⟩) ms' cs' ∧ Hid (m2 = R.length ∧ ms' = Sm.length) ∧ m2 ≤ i * 256 + wn ∧ ms' ≤ ms + i * 256 + wn ∧
                      wr.ownsRow S0 3 1 (.slice (some ⟨gs', 0, none⟩) ms' cs') ms' (Sm.map (Value.int .i64)) ∧ NowAt wr B2 H hs N gs' ∧ Built wr B2 H2 c2 hs2 R ∧ Hid (NotIn H2 hs2 R gs' ∧ Mid zs k p N Sn i R Sm ∧ ∀ w', w' < wn → numR (passL r (digL k zs.length w') k) ∈ Sm) ∧ Below S0 W2 wr ∧ B2 ≤ wr.heap.size) (fun _ _ wv _ => K - (intOf wv).toNat)
                    case atStart => exact ⟨0, m2, c2, ms', cs', gs', H2, hs2, R, Sm, by omega, rfl, rfl, rfl, HMR, by omega, by omega, hsn, hnow, hbu, Lib.hid ⟨HNM.out.1, HNM.out.2, fun w' h => by omega⟩, hbr, hB2i⟩
                    case round =>
                      clear HMR HNM hsn hnow hbu hbr HM0 hm2 hms2
                      obtain ⟨wn, m2, c2, ms', cs', gs', H2, hs2, R, Sm, hwn, rfl, rfl, rfl, HMR, hm2, hms2, hsn, hnow, hbu, HNM, hbr, hB2r⟩ := hrel
                      by_cases hlw : wn < K
                      · obtain ⟨X, hX⟩ : ∃ W : World, W = wr := ⟨_, rfl⟩
                        subst hX
                        have HSN := Lib.hid hsn
                        have HNOW := Lib.hid hnow
                        have HBU := Lib.hid hbu
                        have HBR := Lib.hid hbr
                        have HF1 := Lib.hid (first_lit X X.heap.size (Nat.le_refl _))
                        have HB1 := Lib.hid (show Below X.heap.size X (X.alloc (.cells #[] 3)) from (Below.refl _ _).alloc (Nat.le_refl _) _)
                        have hdlw : decide (wn < K) = true := decide_eq_true hlw
                        clear hsn hnow hbu hbr
                        go_wp2_with (go_at_call 74; refine (HPW.out _).mono ?_; rintro e w' ⟨rfl, rfl⟩)
                        clear hdlw
                        go_loopw [14, 15] (fun v j wr => ∃ (j' cb : Nat) (Hb : Option Addr), j' ≤ zs.length ∧ j = .int .i64 j' ∧ v = .slice Hb j' cb ∧ wr.ownsRow X.heap.size 3 1 (.slice Hb j' cb) j' ((tab j' fun j => ((wn / k ^ j % k : Nat) : Int)).map (Value.int .i64)) ∧ Below X.heap.size X wr) (fun _ j _ => zs.length - (intOf j).toNat)
                        case atStart => exact ⟨0, _, _, by omega, rfl, rfl, HF1.out, HB1.out⟩
                        case round =>
                          clear HF1 HB1
                          obtain ⟨j, cb, Hb, hj, rfl, rfl, hown, hbX⟩ := hrel
                          have hbXz := hbX.size
                          by_cases hlj : j < zs.length
                          · obtain ⟨hP1, hP0⟩ := HPJ.out j hlj
                            have hpj := fun W => power_any k j W (by omega) (by omega) (by omega)
                            have HTB := Lib.hid (show tab (j + 1) (fun j => ((wn / k ^ j % k : Nat) : Int)) = tab j (fun j => ((wn / k ^ j % k : Nat) : Int)) ++ [((wn / k ^ j % k : Nat) : Int)] from tab_snoc2 j _)
                            obtain ⟨P, hP⟩ : ∃ P, k ^ j = P := ⟨_, rfl⟩
                            rw [hP] at hpj hP1 hP0
                            have HPP := Lib.hid hP
                            have HPJJ := Lib.hid hpj
                            have hp0 : ((P : Int) == 0) = false := beq_eq_false_iff_ne.2 (by omega)
                            have hk0 : ((k : Int) == 0) = false := beq_eq_false_iff_ne.2 (by omega)
                            have hq1 : (wn : Int).tdiv (P : Int) = ((wn / P : Nat) : Int) := rfl
                            obtain ⟨Q, hQ⟩ : ∃ Q, wn / P = Q := ⟨_, rfl⟩
                            rw [hQ] at hq1
                            have hQl : Q ≤ 256 := by rw [← hQ]; exact Nat.le_trans (Nat.div_le_self _ _) (by omega)
                            have hq2 : (Q : Int).tmod (k : Int) = ((Q % k : Nat) : Int) := rfl
                            have HQQ := Lib.hid hQ
                            obtain ⟨D, hD⟩ : ∃ D, Q % k = D := ⟨_, rfl⟩
                            rw [hD] at hq2
                            have hDl : D ≤ 4 := by have := Nat.mod_lt Q (show 0 < k by omega); omega
                            have HDD := Lib.hid hD
                            have HOW := Lib.hid hown
                            have HBX := Lib.hid hbX
                            clear hpj hP hQ hD hbX
                            go_wp2_with (first | (go_at_call 74; refine (HPJJ.out _).mono ?_; rintro e w' ⟨rfl, rfl⟩) | (at_builtin; refine wpList_push rfl (.tmp 80) (.tmp 88) 23 rfl i0 (.int .i64 0) 8 Try.underlying23 hi0 hz0 hz1 hz2 rfl (by decide) _ _ rfl hown [.int .i64 (D : Int)] rfl rfl (by simp [Value.oneCell']) (by omega) (by omega) hbXz ?_))
                            intro Hb' cb' w5 hown5 hg5
                            have HW := Lib.hid (And.intro hown5 (HBX.out.grown hg5 hbXz (fun i hi => (HOW.out.lt _ hi).1)))
                            clear hown hown5 hg5
                            go_wp2
                            go_roundw
                            case rel => exact ⟨j + 1, cb', Hb', by omega, by go_num, rfl, by rw [HTB.out, List.map_append, HPP.out, HQQ.out, HDD.out]; exact HW.out.1, HW.out.2⟩
                            case measure => simp [intOf]; omega
                          · have hjn : j = zs.length := by omega
                            subst hjn
                            have hown' : wr.ownsRow X.heap.size 3 1 (.slice Hb zs.length cb) zs.length ((digL k zs.length wn).map (Value.int .i64)) := hown
                            have hnow2 := HNOW.out.below (hbX.mono hB2r)
                            have HNOW2 := Lib.hid hnow2
                            obtain ⟨b, o, R0, cR, rfl, hb, hcell, hcR, hrow⟩ := hnow2.grid.open hiN
                            have hdl := digL_boxes (r := r) (k := k) (w := wn) (by omega)
                            rw [HRL.out] at hdl
                            rw [HRI.out] at hcell hrow
                            have hps := specPass_any R0 Hb cR cb r (digL k zs.length wn) k wr (hrow.more (by omega)) (own_of_rowS (by decide) hown').row (by have := HRL.out; omega) hdl.1 hk4
                            have hyl : (passL r (digL k zs.length wn) k).length = zs.length := by rw [(pass_perm hdl.1 hdl.2).length_eq, HRL.out]
                            have hry := HREA.out.next hdl
                            rw [HRL.out, digL_len] at hps
                            rw [HRL.out] at hcell
                            obtain ⟨y, hy⟩ : ∃ y, passL r (digL k zs.length wn) k = y := ⟨_, rfl⟩
                            rw [hy] at hps hyl hry
                            rw [hyl] at hps
                            have HPS := Lib.hid hps
                            have HY := Lib.hid (And.intro hy (And.intro hyl hry))
                            have HBX := Lib.hid hbX
                            have HSN2 := Lib.hid (own_keep2 HSN.out hbX)
                            have HBU2 := Lib.hid (HBU.out.keep hbX)
                            have hiI : (i : Int) < (m : Int) := by omega
                            have hi0I : (0 : Int) ≤ (i : Int) := by omega
                            have hX0 := hB2r
                            clear hown hown' hnow2 hcR hrow hdl hps hyl hry hy
                            go_wp2_with (go_at_call 61; refine HPS.out.mono ?_; rintro e w6 ⟨A6, c6, rfl, hc6, ho6, hb6⟩; have HO6 := Lib.hid (And.intro hc6 (And.intro ho6 hb6)); clear hc6 ho6 hb6; have hrn6 := rowNumber_any A6 c6 y w6 HO6.out.2.1.row (by have := HY.out.2.1; omega) (row_small (HY.out.2.2.row HR.out) (by have := HY.out.2.1; omega)); rw [HY.out.2.1] at hrn6; obtain ⟨q, hq⟩ : ∃ q, numR y = q := ⟨_, rfl⟩; rw [hq] at hrn6; have HRN6 := Lib.hid hrn6; have HQ := Lib.hid hq; clear hrn6 hq)
                            have hb6 := HO6.out.2.2
                            have hsn6 := own_keep2 HSN2.out hb6
                            have hpl := place2_any (some ⟨gs', 0, none⟩) cs' Sm q w6 (own_of_rowS (by decide) hsn6).row (by have := HMR.out.2; omega)
                            rw [← HMR.out.2] at hpl
                            have HPL := Lib.hid hpl
                            have HW6 := Lib.hid (And.intro hsn6 (And.intro (HNOW2.out.below (hb6.mono (by have := HBX.out.size; omega))) (And.intro (HBU2.out.keep hb6) (HBR.out.trans ((HBX.out.trans (hb6.mono HBX.out.size)).mono (by omega))))))
                            have hszX6 : X.heap.size ≤ w6.heap.size := Nat.le_trans HBX.out.size hb6.size
                            have hw1 : wn + 1 ≤ K := by omega
                            clear hb6 hsn6 hpl
                            refine (HRN6.out).mono ?_
                            rintro e w' ⟨rfl, rfl⟩
                            go_wp2_with fail
                            refine (HPL.out).mono ?_
                            rintro e w' ⟨⟨ix, rfl, hix⟩, rfl⟩
                            by_cases hqS : q ∈ Sm
                            · have hdx : decide (ix < 0) = false := by rw [hix, decide_eq_true hqS]; rfl
                              have HDG := Lib.hid (show ∀ w', w' < wn + 1 → numR (passL r (digL k zs.length w') k) ∈ Sm from fun w' h => by
                                by_cases e : w' = wn
                                · rw [e, HY.out.1, HQ.out]; exact hqS
                                · exact HNM.out.2.2 w' (by omega))
                              clear hix hqS
                              go_wp2_with fail
                              go_roundw
                              case rel => exact ⟨wn + 1, m2, c2, ms', cs', gs', H2, hs2, R, Sm, hw1, by go_num, rfl, rfl, HMR, by omega, by omega, HW6.out.1, HW6.out.2.1, HW6.out.2.2.1, Lib.hid ⟨HNM.out.1, HNM.out.2.1, HDG.out⟩, HW6.out.2.2.2, by omega⟩
                              case measure => simp [intOf]; omega
                            · have hdx : decide (ix < 0) = true := by rw [hix, decide_eq_false hqS]; rfl
                              have hsn6 := HW6.out.1
                              have hgs6 := (hsn6.lt gs' rfl).2
                              have hS6 : S0 ≤ w6.heap.size := by omega
                              clear hix hqS
                              go_wp2_with (first | (go_at_call 73; refine HRN6.out.mono ?_; rintro e w' ⟨rfl, rfl⟩) | (at_builtin; refine wpList_push_at rfl (.tmp 102) (.tmp 105) 23 rfl i0 (.int .i64 0) 8 Try.underlying23 hi0 hz0 hz1 hz2 rfl (by decide) _ _ rfl hsn6 [.int .i64 q] rfl rfl (by simp [Value.oneCell']) (by omega) (by omega) hS6 ?_))
                              intro Hs7 c7 w7 hown7 hg7 hat7
                              obtain ⟨gs2, rfl, _, _⟩ := own_some hown7 (by omega)
                              have hgs2 : gs2 = gs' ∨ gs2 = w6.heap.size + 1 := by
                                rcases hat7 with h | h
                                · left; simpa using h
                                · right; simpa using h
                              have hg7' : w6.grownBy w7 (some gs') := hg7
                              have hnow7 : NowAt w7 B2 (some ⟨b, o, none⟩) hs N gs2 := by
                                have h1 := HW6.out.2.1.wrote (by omega) hg7'
                                rcases hgs2 with e | e
                                · rw [e]; exact h1
                                · exact h1.other (by omega)
                              have hbu7 := HW6.out.2.2.1.wrote HNM.out.1 hg7'
                              have hni7 : NotIn H2 hs2 R gs2 := by
                                rcases hgs2 with e | e
                                · rw [e]; exact HNM.out.1
                                · exact NotIn.fresh HW6.out.2.2.1 (by omega)
                              have hgsX : gs' < wr.heap.size := (HSN2.out.lt gs' rfl).2
                              have hy7 : OwnInts w7 wr.heap.size w7.heap.size A6 y := (HO6.out.2.1.apart (Nat.le_refl _) hg7' (fun i hi => by injection hi with hi; omega)).more hg7.size
                              have hbr7 : Below S0 W2 w7 := HW6.out.2.2.2.grown hg7 hS6 (fun i hi => (hsn6.lt i hi).1)
                              have hz7 := hg7.size
                              have hz6w : wr.heap.size ≤ w6.heap.size := HO6.out.2.2.size
                              have hownC : w7.ownsRow B2 23 1 (.slice H2 m2 c2) m2 hs2 := by have := hbu7.1; rwa [← HMR.out.1] at this
                              have HW7 := Lib.hid (And.intro hown7 (And.intro hnow7 (And.intro hbu7 (And.intro hni7 (And.intro hy7 hbr7)))))
                              have hgs27 : gs2 < w7.heap.size := (hown7.lt gs2 rfl).2
                              clear hown7 hnow7 hbu7 hni7 hy7 hbr7 hg7 hg7' hat7 hsn6
                              go_wp2_with (at_builtin; refine wpList_push_at rfl (.tmp 107) (.tmp 109) 39 rfl iR (.slice none 0 0) 24 Try.underlying39 hiR hR0 hR1 hR2 rfl (by decide) _ _ rfl hownC [.slice A6 zs.length c6] rfl rfl (by simp [Value.oneCell']) (by omega) (by omega) (by omega) ?_)
                              intro H8 c8 w8 hown8 hg8 hat8
                              have hat9 : H8.map (·.block) = H2.map (·.block) ∨ H8.map (·.block) = some (w7.heap.size + 1) := by rcases hat8 with h | ⟨a, rfl, h⟩; exact .inl h; exact .inr (by simp [h])
                              have hpush := Built.push2 (R := A6) (cR := c6) (r := y) HBU2.out (by omega) HW7.out.2.2.1 (by omega) HW7.out.2.2.2.2.1 (by rw [HY.out.2.1]; exact HO6.out.1) (by rw [← HMR.out.1, HY.out.2.1]; exact hown8) (by rw [← HMR.out.1]; exact hg8) hat9
                              have hni8 := HW7.out.2.2.2.1.push (R := A6) (cR := c6) (r := y) HBU2.out.2.1.1 hat9 (by omega) (fun hne e => by
                                obtain ⟨b', o', hA, h0, hlt', _⟩ := HO6.out.2.1.open' (by omega) (by simp; exact List.length_pos_iff.2 hne)
                                rw [hA] at e; simp at e
                                rcases hgs2 with e2 | e2 <;> omega)
                              have hHne : ∀ j, (Value.slice H2 m2 c2).ownBlock = some j → j ≠ gs2 := fun j hj e => HW7.out.2.2.2.1.1 (by rw [← slice_block H2 m2 c2, hj, e])
                              have hsn8 := HW7.out.1.kept hg8 (.inr (fun e => hHne gs2 e.symm rfl))
                              have hnow8 : NowAt w8 B2 (some ⟨b, o, none⟩) hs N gs2 := HW7.out.2.1.below ((Below.refl _ _).grown hg8 (by omega) (fun i hi => (hownC.lt i hi).1))
                              have hbr8 : Below S0 W2 w8 := HW7.out.2.2.2.2.2.grown hg8 (by omega) (fun i hi => by have := (hownC.lt i hi).1; omega)
                              have HW8 := Lib.hid (And.intro (show w8.ownsRow S0 3 1 (.slice (some ⟨gs2, 0, none⟩) (ms' + 1) c7) (ms' + 1) ((Sm ++ [q]).map (Value.int .i64)) by rw [List.map_append]; exact hsn8) (And.intro hnow8 (And.intro hpush (And.intro hni8 hbr8))))
                              have HDG := Lib.hid (show ∀ w', w' < wn + 1 → numR (passL r (digL k zs.length w') k) ∈ Sm ++ [q] from fun w' h => by
                                by_cases e : w' = wn
                                · rw [e, HY.out.1, HQ.out]; simp
                                · exact List.mem_append_left _ (HNM.out.2.2 w' (by omega)))
                              have HMD := Lib.hid (show Mid zs k p N Sn i (R ++ [y]) (Sm ++ [q]) by rw [← HQ.out]; exact HNM.out.2.1.more HY.out.2.2)
                              have hB8 : B2 ≤ w8.heap.size := by have := hg8.size; omega
                              clear hpush hni8 hHne hsn8 hnow8 hbr8 hown8 hg8 hat8 hat9 hownC
                              go_wp2_with fail
                              go_roundw
                              case rel => exact ⟨wn + 1, m2 + 1, c8, ms' + 1, c7, gs2, H8, _, R ++ [y], Sm ++ [q], hw1, by go_num, rfl, rfl, Lib.hid ⟨by have := HMR.out.1; simp; omega, by have := HMR.out.2; simp; omega⟩, by omega, by omega, HW8.out.1, HW8.out.2.1, HW8.out.2.2.1, Lib.hid ⟨HW8.out.2.2.2.1, HMD.out, HDG.out⟩, HW8.out.2.2.2.2, hB8⟩
                              case measure => simp [intOf]; omega
                      · have hwK : wn = K := by omega
                        have hdlw : decide (wn < K) = false := decide_eq_false hlw
                        have HMD := Lib.hid (show Mid zs k p N Sn (i + 1) R Sm from HNM.out.2.1.row hiN (by omega) (by rw [HRI.out, HRL.out]) (by rw [HRI.out]; intro w' h; exact HNM.out.2.2 w' (by rw [hwK, ← HK.out]; exact h)))
                        have HW8 := Lib.hid (And.intro hsn (And.intro hnow (And.intro hbu hbr)))
                        have hm2' : m2 ≤ (i + 1) * 256 := by omega
                        have hms2' : ms' ≤ ms + (i + 1) * 256 := by omega
                        clear hsn hnow hbu hbr hwK
                        go_wp2_with (go_at_call 74; refine (HPW.out _).mono ?_; rintro e w' ⟨rfl, rfl⟩)
                        go_roundw
                        case rel => exact ⟨i + 1, m2, c2, ms', cs', gs', H2, hs2, R, Sm, by omega, by go_num, rfl, rfl, HMR, hm2', hms2', HW8.out.1, HW8.out.2.1, HW8.out.2.2.1, Lib.hid ⟨HNM.out.1, HMD.out⟩, HW8.out.2.2.2, hB2r⟩
                        case measure => simp [intOf]; omega
                  · have him : i = m := by omega
                    have HSG := Lib.hid (show Stage zs k (p + 1) R Sm from HSTG.out.next HR.out (by omega) (by have := HNM.out.2; rw [him, HMN.out.1] at this; exact this))
                    have HLN := Lib.hid (show m2 ≤ 256 ^ (p + 1) ∧ ms' ≤ 2 * 256 ^ (p + 1) by
                      have h1 := HMP.out
                      rw [Nat.pow_succ]
                      omega)
                    have HNW := Lib.hid (NowAt.of hbu HNM.out.1)
                    have HW8 := Lib.hid (And.intro hsn hbr)
                    clear hsn hnow hbu hbr him hm2 hms2
                    go_wp2_with fail
                    go_roundw
                    case rel => exact ⟨p + 1, m2, c2, ms', cs', gs', H2, hs2, R, Sm, by omega, by go_num, rfl, rfl, HMR, HLN.out.1, HLN.out.2, HW8.out.1, HNW.out, HSG, HW8.out.2⟩
                    case measure => simp [intOf]; omega
    · have hk' : inR k 2 4 = false := by simpa using hk
      have HKR := Lib.hid hk'
      have HF := Lib.hid (show V = -1 by rw [← HV.out]; exact triedV_no (.inr hk'))
      clear hk hk' hv4
      go_enter Try.func33, Try.ntmps33
      go_wp2_with (first | (go_at_call 72; refine HVA.out.mono ?_; rintro e w' ⟨rfl, rfl⟩) | (go_at_call 69; refine (inRange_any _ _ _ _).mono ?_; rintro e w' ⟨rfl, rfl⟩; rw [HKR.out]))
      go_ret
      exact ⟨ret_int HF.out.symm, Below.refl _ _⟩
  · have hv' : rowB 4 zs = false := by simpa using hv4
    rw [hv'] at hva
    have HVA := Lib.hid hva
    have HF := Lib.hid (show V = -1 by rw [← HV.out]; exact triedV_no (.inl hv'))
    clear hva hv4 hv'
    go_enter Try.func33, Try.ntmps33
    go_wp2_with (go_at_call 72; refine HVA.out.mono ?_; rintro e w' ⟨rfl, rfl⟩)
    go_ret
    exact ⟨ret_int HF.out.symm, Below.refl _ _⟩
end Go.Proofs.Ytaklhpjbgjccgaa
