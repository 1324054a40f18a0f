/- impl.rowsBehind. No condition. -/
import Derived.Test.YtaklhpjbgjccgaaPt1
import Derived.WalkMore
import Derived.Deep.LoopGhost
namespace Go.Proofs.Ytaklhpjbgjccgaa
open Go.RowKit

theorem own_keep2 {w w' : World} {base n : Nat} {e : TypeId} {v : Value} {size : Nat} {xs : List Value} (h : w.ownsRow base e size v n xs) (hb : Below w.heap.size w w') : w'.ownsRow base e size v n xs := by
  refine ⟨h.1, ?_⟩
  rcases h.2 with hn | ⟨k, cap, cur, rfl, hb2, hgg, rest⟩
  · exact .inl hn
  · exact .inr ⟨k, cap, cur, rfl, hb2, by rw [hb.block k (Array.getElem?_eq_some_iff.1 hgg).1]; exact hgg, rest⟩

/-- No row, and not the heads, lie in block g. -/
def NotIn (H : Option Addr) (hs : List Value) (rs : List (List Int)) (g : Nat) : Prop :=
  H.map (·.block) ≠ some g ∧ ∀ (i : Nat) (hi : i < rs.length) (A : Option Addr) (cA : Nat), rs[i] ≠ [] → hs[i]? = some (.slice A rs[i].length cA) → A.map (·.block) ≠ some g
theorem NotIn.fresh {w : World} {base c g : Nat} {H : Option Addr} {hs : List Value} {rs : List (List Int)} (h : Built w base H c hs rs) (hg : w.heap.size ≤ g) : NotIn H hs rs g := by
  obtain ⟨h1, h2, h3⟩ := h
  refine ⟨fun e => ?_, fun i hi A cA hne hA e => ?_⟩
  · have := (h1.lt g (by rw [slice_block]; exact e)).2; omega
  · obtain ⟨A', c2, g1, _, g3⟩ := h2.2 i hi
    rw [g1] at hA
    simp only [Option.some.injEq, Value.slice.injEq] at hA
    obtain ⟨rfl, _, _⟩ := hA
    obtain ⟨b, o, rfl, hlt, _⟩ := g3.open (by simp; exact List.length_pos_iff.2 hne)
    simp at e
    omega
theorem NotIn.push {H H' R : Option Addr} {hs : List Value} {rs : List (List Int)} {g cR k : Nat} {r : List Int} (h : NotIn H hs rs g) (hl : hs.length = rs.length) (hH : H'.map (·.block) = H.map (·.block) ∨ H'.map (·.block) = some k) (hk : g < k) (hR : r ≠ [] → R.map (·.block) ≠ some g) : NotIn H' (hs ++ [.slice R r.length cR]) (rs ++ [r]) g := by
  refine ⟨fun e => ?_, fun i hi A cA hne hA => ?_⟩
  · rcases hH with e2 | e2
    · exact h.1 (e2.symm.trans e)
    · rw [e2] at e; injection e with e; omega
  · simp only [List.length_append, List.length_singleton] at hi
    by_cases hir : i < rs.length
    · have he : (rs ++ [r])[i]'(by simp; omega) = rs[i] := List.getElem_append_left hir
      rw [he] at hne hA
      rw [List.getElem?_append_left (by omega)] at hA
      exact h.2 i hir A cA hne hA
    · have hie : i = rs.length := by omega
      subst hie
      have he : (rs ++ [r])[rs.length]'(by simp) = r := by simp
      rw [he] at hne hA
      rw [List.getElem?_append_right (by omega), hl] at hA
      simp at hA
      rw [← hA.1]
      exact hR hne
theorem Built.wrote {w w' : World} {base c g : Nat} {H : Option Addr} {hs : List Value} {rs : List (List Int)} (h : Built w base H c hs rs) (hn : NotIn H hs rs g) (hg : w.grownBy w' (some g)) : Built w' base H c hs rs := by
  obtain ⟨h1, h2, h3⟩ := h
  refine ⟨h1.kept hg (.inr (by rw [slice_block]; exact hn.1)), ⟨h2.1, fun i hi => ?_⟩, h3⟩
  obtain ⟨A, c2, g1, g2, g3⟩ := h2.2 i hi
  refine ⟨A, c2, g1, g2, ?_⟩
  by_cases hne : rs[i] = []
  · exact .inl (by rw [hne]; rfl)
  · have hA := hn.2 i hi A c2 hne g1
    exact (g3.grown (Nat.le_refl _) hg (fun b o e e2 => hA (by rw [e, e2]; rfl))).more hg.size

def Sound (rs R : List (List Int)) (k : Nat) : Prop := ∀ r' ∈ R, ∃ r ∈ rs, ∃ bs, Boxes r bs k ∧ r' = passL r bs k
def CompleteTo (rs R : List (List Int)) (k i : Nat) : Prop := ∀ r ∈ rs.take i, ∀ bs, Boxes r bs k → passL r bs k ∈ R
def BehindPost (w : World) (rs : List (List Int)) (k : Nat) (e : Ending) (w' : World) : Prop :=
  ∃ (H : Option Addr) (c : Nat) (R : List (List Int)), e = .returned (.slice H R.length c) ∧ R.length ≤ rs.length * 256 ∧ Grid w' 0 w'.heap.size H R ∧ Sound rs R k ∧ CompleteTo rs R k rs.length ∧ Below w.heap.size w w'

set_option maxRecDepth 100000 in
set_option maxHeartbeats 16000000 in
theorem rowsBehind_any (A : Option Addr) (c0 k n : Nat) (rs : List (List Int)) (w : World) (hr : Grid w 0 w.heap.size A rs) (hn : 1 ≤ n) (hn4 : n ≤ 4) (hall : ∀ r ∈ rs, r.length = n) (hk : 2 ≤ k) (hk4 : k ≤ 4) (hl : rs.length ≤ 256) :
    Calls Try.prog 78 #[.slice A rs.length c0, .int .i64 k] w (BehindPost w rs k) := by
  obtain ⟨i0, hi0, hz0, hz1, hz2⟩ := info_parts Try.info3
  obtain ⟨iR, hiR, hR0, hR1, hR2⟩ := info_parts Try.infoR
  have HALL := Lib.hid hall
  have hkn := pow_256 ⟨k, by omega⟩ ⟨n, by omega⟩
  simp only at hkn
  have hkp : 0 < k ^ n := Nat.pow_pos (by omega)
  obtain ⟨K, hK⟩ : ∃ K, k ^ n = K := ⟨_, rfl⟩
  rw [hK] at hkn hkp
  have HK := Lib.hid hK
  clear hall hK
  have HST := Lib.hid (show Built w w.heap.size none 0 [] [] from ⟨World.ownsRow_nil _ _ _ _, ⟨rfl, fun i hi => by simp at hi⟩, ⟨fun i j hi => by simp at hi, fun i hi => by simp at hi⟩⟩)
  go_enter Try.func78, Try.ntmps78
  go_wp2
  go_loopw [5, 13] (fun v i wr => ∃ (i' m c : Nat) (H : Option Addr) (hs : List Value) (R : List (List Int)), i' ≤ rs.length ∧ i = .int .i64 i' ∧ v = .slice H m c ∧ m = R.length ∧ Built wr w.heap.size H c hs R ∧ Hid (Sound rs R k ∧ CompleteTo rs R k i' ∧ ∀ r ∈ R, r.length = n) ∧ m ≤ i' * 256 ∧ Below w.heap.size w wr) (fun _ i _ => rs.length - (intOf i).toNat)
  case atStart => exact ⟨0, 0, 0, none, [], [], by omega, rfl, rfl, rfl, HST.out, Lib.hid ⟨fun r' h => by simp at h, fun r h => by simp at h, by simp⟩, by omega, Below.refl _ _⟩
  case round =>
    clear HST
    obtain ⟨i, m, c, H, hs, R, hi, rfl, rfl, hm, hbu, HSC, hmi, hbr⟩ := hrel
    have HBU := Lib.hid hbu
    have HBR := Lib.hid hbr
    have HM := Lib.hid hm
    have hbz := hbr.size
    by_cases hlt : i < rs.length
    · obtain ⟨b, o, Rr, cR, rfl, hb, hcell0, hcR, hrow⟩ := hr.open hlt
      have hcell := (hbr.cell (p := ⟨b, o + i, none⟩) hb).trans hcell0
      clear hcell0
      have hrn := HALL.out _ (List.getElem_mem hlt)
      have HT := Lib.hid (List.take_succ_eq_append_getElem hlt)
      have HMEM := Lib.hid (List.getElem_mem hlt)
      obtain ⟨r, hre⟩ : ∃ r, rs[i] = r := ⟨_, rfl⟩
      rw [hre] at hcell hrow hrn HT HMEM
      rw [hrn] at hcell
      have HROW := Lib.hid hrow
      have HRN := Lib.hid hrn
      have hiI : (i : Int) < rs.length := by omega
      have hi0I : (0 : Int) ≤ (i : Int) := by omega
      obtain ⟨W, hW⟩ : ∃ W : World, W = wr := ⟨_, rfl⟩
      subst hW
      clear hre hcR hrow hrn hbu hbr hm
      go_wp2_with (at_make; refine wpList_make_full _ rfl (.tmp 18) (.tmp 18) _ rfl W.heap.size 3 i0 (.int .i64 0) 1 Try.underlying23 hi0 hz0 hz1 _ _ _ _ _ rfl rfl rfl rfl (by rw [hz2]; omega) (by unfold maxLen; omega) (Nat.le_refl _) ?_)
      intro w1 hown1 hg1
      rw [toList_madeCells_one] at hown1
      obtain ⟨g, hgg⟩ : ∃ g, W.heap.size = g := ⟨_, rfl⟩
      have hb1 : Below W.heap.size W w1 := (Below.refl _ _).grown hg1 (Nat.le_refl _) (by simp)
      have HNI := Lib.hid (NotIn.fresh HBU.out (g := g) (by omega))
      rw [hgg] at hown1 ⊢
      have hownB : w1.ownsRow w.heap.size 3 1 (.slice (some ⟨g, 0, none⟩) n n) n ((digL k n 0).map (Value.int .i64)) := by
        have e : digL k n 0 = List.replicate n 0 := by rw [tab_zero]; exact tab_congr fun j _ => by simp
        rw [e, List.map_replicate]
        exact own_base hown1 (by omega)
      have HIN := Lib.hid (And.intro hownB (And.intro (HBU.out.keep hb1) (HBR.out.trans (hb1.mono hbz))))
      have HG := Lib.hid hgg
      clear hown1 hg1 hb1 hownB hgg
      go_wp2_with fail
      go_loopg [5, 9] K (fun gk v mo wr => ∃ (wn m c : Nat) (H : Option Addr) (hs : List Value) (R : List (List Int)), wn ≤ K ∧ gk = K - wn ∧ mo = .bool (decide (wn < K)) ∧ v = .slice H m c ∧ Hid (m = R.length ∧ NotIn H hs R g) ∧ wr.ownsRow w.heap.size 3 1 (.slice (some ⟨g, 0, none⟩) n n) n ((digL k n wn).map (Value.int .i64)) ∧ Built wr w.heap.size H c hs R ∧
        Hid (Sound rs R k ∧ CompleteTo rs R k i ∧ (∀ r ∈ R, r.length = n) ∧ ∀ w', w' < wn → passL r (digL k n w') k ∈ R) ∧ m ≤ i * 256 + wn ∧ Below w.heap.size w wr)
      case atStart => exact ⟨0, m, c, H, hs, R, by omega, by omega, by rw [decide_eq_true hkp], rfl, Lib.hid ⟨HM.out, HNI.out⟩, HIN.out.1, HIN.out.2.1, Lib.hid ⟨HSC.out.1, HSC.out.2.1, HSC.out.2.2, fun w' h => by omega⟩, by omega, HIN.out.2.2⟩
      case round =>
        clear HIN HNI HSC hmi HBU HM
        obtain ⟨wn, m, c, H, hs, R, hwn, hgk, rfl, rfl, HMN, hown, hbu, HSC, hmi, hbr⟩ := hrel
        have HBU := Lib.hid hbu
        have HBR := Lib.hid hbr
        have HOW := Lib.hid hown
        have hbr0 := hbr.size
        have hgl : g < wr.heap.size := (hown.lt g rfl).2
        by_cases hlw : wn < K
        · rw [decide_eq_true hlw]
          have hbx := digL_boxes (r := r) (k := k) (w := wn) (by omega)
          rw [HRN.out] at hbx
          have hpa := passOf_any Rr (some ⟨g, 0, none⟩) cR n r (digL k n wn) k wr ((HROW.out.below hbr).more hbr0) (own_of_rowS (by decide) hown).row (by have := HRN.out; omega) hbx.1 hk4 hbx.2
          have hyl : (passL r (digL k n wn) k).length = n := by rw [(pass_perm hbx.1 hbx.2).length_eq, HRN.out]
          have HBX := Lib.hid hbx
          rw [HRN.out, digL_len] at hpa
          obtain ⟨y, hy⟩ : ∃ y, passL r (digL k n wn) k = y := ⟨_, rfl⟩
          rw [hy] at hpa hyl
          rw [hyl] at hpa
          have HPA := Lib.hid hpa
          have HY := Lib.hid (And.intro hy hyl)
          have hnx := fun (X : World) (hX : X.ownsRow w.heap.size 3 1 (.slice (some ⟨g, 0, none⟩) n n) n ((digL k n wn).map (Value.int .i64))) => nextBoxes_any g n w.heap.size (k : Int) (digL k n wn) X (digL_len _ _ _).symm hX (by omega) (fun j hj => by
            have : (digL k n wn).getD j 0 = ((wn / k ^ j % k : Nat) : Int) := by unfold digL; rw [getD_get (by rw [tab_length]; exact hj), tab_get hj]
            rw [this]
            have := Nat.mod_lt (wn / k ^ j) (show 0 < k by omega)
            omega)
          rw [nextI_dig hk hk4 hn4 (by rw [HK.out]; exact hlw), HK.out] at hnx
          simp only at hnx
          have HNX := Lib.hid hnx
          have hw1 : wn + 1 ≤ K := by omega
          clear hbx hpa hyl hy hnx hown hbu hbr hlw
          go_wp2_with fail
          refine HPA.out.mono ?_
          rintro e w2 ⟨A', c', rfl, hc', ho', hb2⟩
          obtain ⟨V, hVV⟩ : ∃ V, (w2.alloc (.cells #[.slice none 0 0] 23)).setCell ⟨w2.heap.size, 0, none⟩ (.slice A' n c') = V := ⟨_, rfl⟩
          have hbV : Below w2.heap.size w2 V := by rw [← hVV]; exact ((Below.refl _ _).alloc (Nat.le_refl _) _).setCell (by exact Nat.le_refl _) _
          have hszV : V.heap.size = w2.heap.size + 1 := by rw [← hVV]; simp
          have hcV : V.cell? ⟨w2.heap.size, 0, none⟩ = some (.slice A' n c') := by
            rw [← hVV]
            have h0 : (w2.alloc (.cells #[.slice none 0 0] 23)).cell? ⟨w2.heap.size, 0, none⟩ = some (.slice none 0 0) := by rw [World.cell?_alloc_at _ _ _ _ rfl]; rfl
            exact World.cell?_setCell_same _ _ _ h0
          have hbrV := hb2.trans (hbV.mono hb2.size)
          have hnewV : OwnInts V wr.heap.size V.heap.size A' y := (ho'.below hbV).more (by omega)
          have hbuV := HBU.out.keep hbrV
          have hrl := HSC.out.2.2.1
          have hct := containsSame_any H c w2.heap.size A' c' R y V hbuV.mgrid.row hnewV.row (by rw [HY.out.2]; exact hcV) (by have := HMN.out.1; omega) (fun r' h => by have := hrl r' h; omega) (by have := HY.out.2; omega) (by have := HY.out.2; omega)
          rw [← HMN.out.1] at hct
          have HCT := Lib.hid hct
          have HV := Lib.hid (And.intro hcV (And.intro hnewV (And.intro hbuV (And.intro hbrV (show n ≤ c' from hc')))))
          clear hct hcV hnewV hbuV hbrV hbV ho' hb2 hrl hc'
          by_cases hyR : y ∈ R
          · have HYR := Lib.hid hyR
            have hcn := HCT.out
            rw [decide_eq_true hyR] at hcn
            have HCN := Lib.hid hcn
            clear hcn hyR HCT
            go_wp2_with fail
            refine HCN.out.mono ?_
            rintro e w3 ⟨rfl, z, rfl⟩
            have hbz3 : Below wr.heap.size wr (V.drewN z) := below_drewN HV.out.2.2.2.1 z
            have HX3 := Lib.hid (And.intro (own_keep2 HOW.out hbz3) (And.intro (HBU.out.keep hbz3) hbz3))
            generalize V.drewN z = U at HX3 ⊢
            clear hbz3 hVV
            go_wp2_with fail
            refine (HNX.out U HX3.out.1).mono ?_
            rintro e w4 ⟨rfl, hown4, hg4⟩
            have hbu4 := HX3.out.2.1.wrote HMN.out.2 hg4
            have hb4 : Below w.heap.size w w4 := (HBR.out.trans (HX3.out.2.2.mono hbr0)).grown hg4 (by have := HX3.out.2.2.size; omega) (fun j hj => by injection hj with hj; have := HG.out; omega)
            have HW := Lib.hid (And.intro hown4 (And.intro hbu4 hb4))
            clear hown4 hbu4 hb4 hg4
            go_wp2_with fail
            go_roundg (K - (wn + 1))
            case measure => omega
            case rel => exact ⟨wn + 1, m, c, H, hs, R, hw1, rfl, rfl, rfl, HMN, HW.out.1, HW.out.2.1, Lib.hid ⟨HSC.out.1, HSC.out.2.1, HSC.out.2.2.1, fun w' h => by
              by_cases e : w' = wn
              · rw [e, HY.out.1]; exact HYR.out
              · exact HSC.out.2.2.2 w' (by omega)⟩, by omega, HW.out.2.2⟩
          · have hcn := HCT.out
            rw [decide_eq_false hyR] at hcn
            have HCN := Lib.hid hcn
            clear hcn hyR HCT
            go_wp2_with fail
            refine HCN.out.mono ?_
            rintro e w3 ⟨rfl, z, rfl⟩
            have hcU : (V.drewN z).cell? ⟨w2.heap.size, 0, none⟩ = some (.slice A' n c') := HV.out.1
            have hnU : OwnInts (V.drewN z) wr.heap.size (V.drewN z).heap.size A' y := HV.out.2.1
            have hbz3 : Below wr.heap.size wr (V.drewN z) := below_drewN HV.out.2.2.2.1 z
            have HX3 := Lib.hid (And.intro (own_keep2 HOW.out hbz3) (And.intro (HBU.out.keep hbz3) (And.intro hbz3 hnU)))
            have hszU : wr.heap.size ≤ (V.drewN z).heap.size := hbz3.size
            generalize V.drewN z = U at HX3 hcU hszU ⊢
            have hownC : U.ownsRow w.heap.size 23 1 (.slice H m c) m hs := by have := HX3.out.2.1.1; rwa [← HMN.out.1] at this
            clear hbz3 hVV hnU
            go_wp2_with (at_builtin; refine wpList_push_at rfl (.tmp 32) (.tmp 34) 39 rfl iR (.slice none 0 0) 24 Try.underlying39 hiR hR0 hR1 hR2 rfl (by decide) _ _ rfl hownC [.slice A' n c'] rfl rfl (by simp [Value.oneCell']) (by omega) (by omega) (by omega) ?_)
            intro H' c2 w5 hown5 hg5 hat5
            have hat6 : H'.map (·.block) = H.map (·.block) ∨ H'.map (·.block) = some (U.heap.size + 1) := by rcases hat5 with h | ⟨a, rfl, h⟩; exact .inl h; exact .inr (by simp [h])
            have hpush := Built.push (R := A') (cR := c') (r := y) HBU.out hbr0 HX3.out.2.2.1 HX3.out.2.2.2 (by rw [HY.out.2]; exact HV.out.2.2.2.2) (by rw [← HMN.out.1, HY.out.2]; exact hown5) (by rw [← HMN.out.1]; exact hg5) hat6
            have hni5 := HMN.out.2.push (R := A') (cR := c') (r := y) HBU.out.2.1.1 hat6 (by omega) (fun _ e => by
              obtain ⟨b', o', hA, h0, _⟩ := HX3.out.2.2.2.open' (by omega) (by simp; have := HY.out.2; omega)
              rw [hA] at e; simp at e; omega)
            have hHne : ∀ j, (Value.slice H m c).ownBlock = some j → j ≠ g := fun j hj e => HMN.out.2.1 (by rw [← slice_block H m c, hj, e])
            have hown5B := HX3.out.1.kept hg5 (.inr (fun e => hHne g e.symm rfl))
            have hb5 : Below w.heap.size w w5 := (HBR.out.trans (HX3.out.2.2.1.mono hbr0)).grown hg5 (by omega) (fun j hj => (hownC.lt j hj).1)
            have HW5 := Lib.hid (And.intro hpush (And.intro hni5 (And.intro hown5B hb5)))
            have hsz5 := hb5.size
            clear hpush hni5 hown5B hb5 hown5 hg5 hat5 hat6 hHne hownC hcU
            go_wp2_with fail
            refine (HNX.out w5 HW5.out.2.2.1).mono ?_
            rintro e w6 ⟨rfl, hown6, hg6⟩
            have HW := Lib.hid (And.intro hown6 (And.intro (HW5.out.1.wrote HW5.out.2.1 hg6) (HW5.out.2.2.2.grown hg6 hsz5 (fun j hj => by injection hj with hj; have := HG.out; omega))))
            clear hown6 hg6
            go_wp2_with fail
            go_roundg (K - (wn + 1))
            case measure => omega
            case rel => exact ⟨wn + 1, m + 1, c2, H', _, R ++ [y], hw1, rfl, rfl, rfl, Lib.hid ⟨by have := HMN.out.1; simp; omega, HW5.out.2.1⟩, HW.out.1, HW.out.2.1, Lib.hid ⟨fun r' h => by
              rcases List.mem_append.1 h with h | h
              · exact HSC.out.1 r' h
              · simp only [List.mem_singleton] at h
                subst h
                exact ⟨r, HMEM.out, digL k n wn, HBX.out, HY.out.1.symm⟩, fun r0 h bs hbs => List.mem_append_left _ (HSC.out.2.1 r0 h bs hbs), fun r' h => by
              rcases List.mem_append.1 h with h | h
              · exact HSC.out.2.2.1 r' h
              · simp only [List.mem_singleton] at h
                subst h
                exact HY.out.2, fun w' h => by
              by_cases e : w' = wn
              · rw [e, HY.out.1]; simp
              · exact List.mem_append_left _ (HSC.out.2.2.2 w' (by omega))⟩, by omega, HW.out.2.2⟩
        · have hwK : wn = K := by omega
          rw [decide_eq_false hlw]
          have HCO := Lib.hid (show CompleteTo rs R k (i + 1) from fun r0 h bs hbs => by
            rw [HT.out] at h
            rcases List.mem_append.1 h with h | h
            · exact HSC.out.2.1 r0 h bs hbs
            · simp only [List.mem_singleton] at h
              subst h
              obtain ⟨w', h1, h2⟩ := dig_all (show 0 < k by omega) bs hbs.2
              have hbl : bs.length = n := by rw [hbs.1, HRN.out]
              rw [hbl] at h1 h2
              rw [← h2]
              exact HSC.out.2.2.2 w' (by rw [hwK, ← HK.out]; exact h1))
          have hm2 : m ≤ (i + 1) * 256 := by omega
          clear hown hbu hbr hlw hwK
          go_wp2_with fail
          go_roundw
          case rel => exact ⟨i + 1, m, c, H, hs, R, by omega, by go_num, rfl, HMN.out.1, HBU.out, Lib.hid ⟨HSC.out.1, HCO.out, HSC.out.2.2.1⟩, hm2, HBR.out⟩
          case measure => simp [intOf]; omega
    · have hin : i = rs.length := by omega
      have HF := Lib.hid (show BehindPost w rs k (.returned (.slice H m c)) wr from ⟨H, c, R, by rw [← hm], by rw [← hm, ← hin]; exact hmi, hbu.mgrid.row, HSC.out.1, by rw [← hin]; exact HSC.out.2.1, hbr⟩)
      clear hbu hbr hm hin
      go_wp2
      go_ret
      exact HF.out
end Go.Proofs.Ytaklhpjbgjccgaa
