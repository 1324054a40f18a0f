/- Calls that are tried: one more call, all know all. No condition. -/
import Derived.Test.YtonnffilcmlodaaVx0
import Derived.Test.YtonnffilcmlodaaVi
import Derived.Test.YtonnffilcmlodaaVe
import Derived.Test.YtonnffilcmlodaaShelf
namespace Go.Proofs.Ytonnffilcmlodaa
open Go.RowKit

/-- Rows so far. -/
def rowTo (r : List Int) (o : Nat) : List (List Int) := (List.range o).flatMap fun o' => (List.range o').map fun i => told r i o'
def inTo (r : List Int) (o i : Nat) : List (List Int) := (List.range i).map fun i' => told r i' o
theorem rowTo_succ (r : List Int) (o : Nat) : rowTo r (o + 1) = rowTo r o ++ inTo r o o := by simp [rowTo, inTo, List.range_succ]
theorem inTo_succ (r : List Int) (o i : Nat) : inTo r o (i + 1) = inTo r o i ++ [told r i o] := by simp [inTo, List.range_succ]
theorem behindR_to (r : List Int) : behindR r = rowTo r r.length := rfl
theorem behindL_take {rs : List (List Int)} {k : Nat} (hk : k < rs.length) : behindL (rs.take (k + 1)) = behindL (rs.take k) ++ rowTo rs[k] rs[k].length := by
  unfold behindL; rw [List.take_succ_eq_append_getElem hk, List.flatMap_append, List.flatMap_cons, List.flatMap_nil, List.append_nil, behindR_to]
theorem rowTo_len_le (r : List Int) (o m : Nat) (h : o ≤ m) : (rowTo r o).length ≤ (rowTo r m).length := by
  induction m with
  | zero => have : o = 0 := by omega
            subst this; exact Nat.le_refl _
  | succ m ih =>
    by_cases e : o = m + 1
    · subst e; exact Nat.le_refl _
    · rw [rowTo_succ, List.length_append]; have := ih (by omega); omega
theorem inTo_len (r : List Int) (o i : Nat) : (inTo r o i).length = i := by simp [inTo]

theorem cloneC_any (b o c n : Nat) (zs : List Int) (w : World) (hr : Own w 0 w.heap.size (some ⟨b, o, none⟩) (zs.map (Value.int .i64))) (hn : n = zs.length) (h1 : 1 ≤ n) (hl : zs.length ≤ 1000) :
    Calls Try.prog 65 #[.slice (some ⟨b, o, none⟩) n c] w fun e w' => ∃ g c', e = .returned (.slice (some ⟨g, 0, none⟩) n c') ∧ w'.ownsRow w.heap.size 3 1 (.slice (some ⟨g, 0, none⟩) n c') n (zs.map (Value.int .i64)) ∧ Below w.heap.size w w' := by
  subst hn
  obtain ⟨b', o', e, _, hc⟩ := hr.open (by simp; omega)
  simp only [Option.some.injEq, Addr.mk.injEq, and_true] at e
  obtain ⟨rfl, rfl⟩ := e
  refine (Try.slices_Clone_int b o zs.length c zs w (Nat.le_refl _) (by omega) (fun j hj => by rw [List.getD_eq_getElem?_getD, List.getElem?_eq_getElem hj]; exact ints_at hc hj)).mono ?_
  rintro e w' ⟨v', rfl, ho, _, hb⟩
  rw [List.take_length] at ho
  obtain ⟨A', c', rfl⟩ := own_form ho
  obtain ⟨g, rfl, _, _⟩ := own_some ho (by omega)
  exact ⟨g, c', rfl, ho, hb⟩

set_option maxRecDepth 100000 in
set_option maxHeartbeats 8000000 in
theorem behind_any (A : Option Addr) (c n : Nat) (rs : List (List Int)) (w : World) (hr : Grid w 0 w.heap.size A rs) (h1 : 1 ≤ n) (h7 : n ≤ 7) (hs : ∀ r ∈ rs, Sets n r) (hl : rs.length ≤ 100000) (hb : (behindL rs).length ≤ 100000) :
    Calls Try.prog 55 #[.slice A rs.length c] w fun e w' => ∃ H c' hs, e = .returned (.slice H (behindL rs).length c') ∧ Built w' w.heap.size H c' hs (behindL rs) ∧ Below w.heap.size w w' := by
  obtain ⟨i0, hi0, hz0, hz1, hz2⟩ := info_parts Try.infoR
  have HS := Lib.hid hs
  have HR := Lib.hid hr
  have HPRE := Lib.hid (fun k (hk : k ≤ rs.length) => show (behindL (rs.take k)).length ≤ (behindL rs).length by
    have h1 : behindL rs = behindL (rs.take k) ++ behindL (rs.drop k) := by
      unfold behindL; rw [← List.flatMap_append, List.take_append_drop]
    rw [h1, List.length_append]; omega)
  have HBL := Lib.hid hb
  have HST := Lib.hid (Built.nil w w.heap.size)
  clear hs hr hb
  go_enter Try.func55, Try.ntmps55
  go_wp2
  go_loopw [3, 11] (fun v i wr => ∃ (k : Nat) (H : Option Addr) (cH : Nat) (hs : List Value), k ≤ rs.length ∧ i = .int .i64 k ∧ v = .slice H (behindL (rs.take k)).length cH ∧ Built wr w.heap.size H cH hs (behindL (rs.take k)) ∧ Below w.heap.size w wr) (fun _ i _ => rs.length - (intOf i).toNat)
  case atStart => exact ⟨0, _, _, [], by omega, rfl, rfl, HST.out, Below.refl _ _⟩
  case round =>
    obtain ⟨k, H, cH, hs, hk, rfl, rfl, hbu, hbr⟩ := hrel
    clear HST
    have HBR := Lib.hid hbr
    have hbz := hbr.size
    by_cases hlt : k < rs.length
    · obtain ⟨b, o, R, cR, rfl, hb0, hcell0, hcR, hrow⟩ := HR.out.open hlt
      have hcell := cellKC hbr hb0 hcell0
      have hS := HS.out _ (List.getElem_mem hlt)
      have HTK := Lib.hid (behindL_take hlt)
      have hpk := HPRE.out (k + 1) (by omega)
      have hBL := HBL.out
      obtain ⟨r, hre⟩ : ∃ r, rs[k] = r := ⟨_, rfl⟩
      rw [hre] at hcell hrow hS HTK
      have HSS := Lib.hid hS
      have hln := hS.1
      rw [HTK.out, List.length_append, hln] at hpk
      rw [hln] at hcell
      obtain ⟨br, orr, rfl, hbrl, _⟩ := hrow.open (by simp; omega)
      have HROW := Lib.hid (And.intro hrow hln)
      obtain ⟨Y, hY⟩ : ∃ Y, behindL (rs.take k) = Y := ⟨_, rfl⟩
      rw [hY] at hbu HTK hpk ⊢
      have HBU := Lib.hid hbu
      have hkI : (k : Int) < rs.length := by omega
      have hTN := fun o (ho : o ≤ n) => rowTo_len_le r o n ho
      have HTN := Lib.hid hTN
      obtain ⟨W0, hW0⟩ : ∃ W0, W0 = wr := ⟨_, rfl⟩
      subst hW0
      clear hre hS hln hrow hbr hbu hY hTN hcR hcell0
      go_wp2
      go_loopw [3, 17] (fun v i wr => ∃ (o : Nat) (H : Option Addr) (cH : Nat) (hs : List Value), o ≤ n ∧ i = .int .i64 o ∧ v = .slice H (Y ++ rowTo r o).length cH ∧ Built wr w.heap.size H cH hs (Y ++ rowTo r o) ∧ Below w.heap.size w wr) (fun _ i _ => n - (intOf i).toNat)
      case atStart => exact ⟨0, _, _, hs, by omega, rfl, by rw [show rowTo r 0 = [] from rfl, List.append_nil], by rw [show rowTo r 0 = [] from rfl, List.append_nil]; exact HBU.out, HBR.out⟩
      case round =>
        obtain ⟨o', H2, cH2, hs2, ho, rfl, rfl, hbu, hbr⟩ := hrel
        clear HBU HBR
        have HBR := Lib.hid hbr
        have HTS := Lib.hid (show Y ++ rowTo r (o' + 1) = (Y ++ rowTo r o') ++ inTo r o' o' by rw [rowTo_succ, List.append_assoc])
        have hto := HTN.out
        by_cases hlo : o' < n
        · have hlen1 := HTN.out (o' + 1) (by omega)
          have hlen : (Y ++ rowTo r (o' + 1)).length ≤ 100000 := by rw [List.length_append]; omega
          rw [HTS.out, List.length_append, inTo_len] at hlen
          obtain ⟨Z, hZ⟩ : ∃ Z, Y ++ rowTo r o' = Z := ⟨_, rfl⟩
          rw [hZ] at hbu HTS hlen ⊢
          have HBU := Lib.hid hbu
          have hoI : (o' : Int) < (n : Int) := by omega
          obtain ⟨W1, hW1⟩ : ∃ W1, W1 = wr := ⟨_, rfl⟩
          subst hW1
          clear hbr hbu hZ hto hlen1
          go_wp2
          go_loopw [3, 21] (fun v i wr => ∃ (q : Nat) (H : Option Addr) (cH : Nat) (hs : List Value), q ≤ o' ∧ i = .int .i64 q ∧ v = .slice H (Z ++ inTo r o' q).length cH ∧ Built wr w.heap.size H cH hs (Z ++ inTo r o' q) ∧ Below w.heap.size w wr) (fun _ i _ => o' - (intOf i).toNat)
          case atStart => exact ⟨0, _, _, hs2, by omega, rfl, by rw [show inTo r o' 0 = [] from rfl, List.append_nil], by rw [show inTo r o' 0 = [] from rfl, List.append_nil]; exact HBU.out, HBR.out⟩
          case round =>
            obtain ⟨q, H3, cH3, hs3, hq, rfl, rfl, hbu, hbr⟩ := hrel
            clear HBU HBR
            have HBR := Lib.hid hbr
            have hbz3 := hbr.size
            have HIS := Lib.hid (show Z ++ inTo r o' (q + 1) = (Z ++ inTo r o' q) ++ [told r q o'] by rw [inTo_succ, List.append_assoc])
            have hlq : (Z ++ inTo r o' q).length ≤ 100000 := by rw [List.length_append, inTo_len]; omega
            obtain ⟨X, hX⟩ : ∃ X, Z ++ inTo r o' q = X := ⟨_, rfl⟩
            rw [hX] at hbu HIS hlq ⊢
            have HXE := Lib.hid hX
            by_cases hlq' : q < o'
            · have HCL := Lib.hid (cloneC_any br orr cR n r wr ((HROW.out.1.below HBR.out).more hbz3) HROW.out.2.symm h1 (by have := HROW.out.2; omega))
              have HBU := Lib.hid hbu
              have hqI : (q : Int) < (o' : Int) := by omega
              clear hbu hbr hX
              go_wp2_with fail
              refine HCL.out.mono ?_
              rintro e w4 ⟨g, c4, rfl, ho4, hb4⟩
              have hg4 := (ho4.lt g rfl).1
              have HTE := Lib.hid (tell_any g n wr.heap.size c4 q o' r w4 ho4 HSS.out h7 (by omega) (by omega))
              have HB4 := Lib.hid hb4
              have hz4 := hb4.size
              clear ho4 hb4
              go_wp2_with fail
              refine HTE.out.mono ?_
              rintro e w5 ⟨rfl, ho5, m, hg5⟩
              have hb5 : Below wr.heap.size wr w5 := (HB4.out.trans ((drewBelow w4 m).mono hz4)).grown hg5 (Nat.le_trans hz4 (drewBelow w4 m).size) (fun i hi => by injection hi with hi; omega)
              have hown5 := (HBU.out.keep hb5).1
              have hri : OwnInts w5 wr.heap.size w5.heap.size (some ⟨g, 0, none⟩) (told r q o') := own_of_rowS (by decide) ho5
              have hlt2 : (told r q o').length = n := by rw [told_len]; exact HROW.out.2
              have hc4n := own_cap ho5
              have H5 := Lib.hid (And.intro hb5 hri)
              have HLT2 := Lib.hid hlt2
              have hz5 := hb5.size
              clear ho5 hg5 hb5 hri hlt2
              go_wp2_with (at_builtin; refine wpList_push_at rfl (.tmp 30) (.tmp 32) 23 rfl i0 (.slice none 0 0) 24 Try.underlying23 hi0 hz0 hz1 hz2 rfl (by decide) _ _ rfl hown5 [.slice (some ⟨g, 0, none⟩) n c4] rfl rfl (by simp [Value.oneCell']) (by omega) (by omega) (by omega) ?_)
              intro H6 c6 w6 hown6 hg6 hat6
              rw [← HLT2.out] at hown6
              have hb6 := HBU.out.push hbz3 H5.out.1 (r := told r q o') H5.out.2 (by rw [HLT2.out]; exact hc4n) hown6 hg6 (hat6.imp id (fun ⟨a, h1, h2⟩ => by rw [h1]; simp [h2]))
              have HF := Lib.hid (And.intro hb6 ((HBR.out.trans (H5.out.1.mono hbz3)).grown hg6 (by omega) (fun i hi => (hown5.lt _ hi).1)))
              clear hown5 hown6 hg6 hat6 hb6
              go_wp2
              go_roundw
              case rel => exact ⟨q + 1, H6, c6, _, by omega, by go_num, by rw [HIS.out, List.length_append]; rfl, by rw [HIS.out]; exact HF.out.1, HF.out.2⟩
              case measure => simp [intOf]; omega
            · have hqe : q = o' := by omega
              have HE := Lib.hid (show X = Y ++ rowTo r (o' + 1) by rw [HTS.out, ← HXE.out, hqe])
              have HBU := Lib.hid hbu
              clear hbu hbr hX hqe
              go_wp2
              go_roundw
              case rel => exact ⟨o' + 1, H3, cH3, hs3, by omega, by go_num, by rw [← HE.out], by rw [← HE.out]; exact HBU.out, HBR.out⟩
              case measure => simp [intOf]; omega
        · have hoe : o' = n := by omega
          have HE := Lib.hid (show Y ++ rowTo r o' = behindL (rs.take (k + 1)) by rw [HTK.out, HROW.out.2, hoe])
          rw [HE.out] at hbu ⊢
          have HBU := Lib.hid hbu
          clear hbu hbr hoe hto
          go_wp2
          go_roundw
          case rel => exact ⟨k + 1, H2, cH2, hs2, by omega, by go_num, rfl, HBU.out, HBR.out⟩
          case measure => simp [intOf]; omega
    · have hke : k = rs.length := by omega
      have HE := Lib.hid (show behindL (rs.take k) = behindL rs by rw [hke, List.take_length])
      rw [HE.out] at hbu ⊢
      have HBU := Lib.hid hbu
      clear hbu hbr hke
      go_wp2
      go_ret
      exact ⟨H, cH, hs, rfl, HBU.out, HBR.out⟩
end Go.Proofs.Ytonnffilcmlodaa
