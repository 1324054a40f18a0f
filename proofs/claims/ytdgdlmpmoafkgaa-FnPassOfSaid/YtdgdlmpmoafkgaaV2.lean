/- The walk of the law FnPassOf. No condition. -/
import Derived.Test.YtdgdlmpmoafkgaaS10
import Derived.Test.YtdgdlmpmoafkgaaP3
import Derived.Test.YtdgdlmpmoafkgaaPo
import Derived.Test.YtdgdlmpmoafkgaaMark2
import Derived.Test.YtdgdlmpmoafkgaaEq
namespace Go.Proofs.Ytdgdlmpmoafkgaa
open Go.RowKit

def runsNat' (zs : List Int) : Nat := if zs.length = 0 then 0 else runNo zs (zs.length - 1) + 1
theorem runsNat_le' {zs : List Int} (h : rowB 9 zs = true) : runsN zs = (runsNat' zs : Int) ∧ runsNat' zs ≤ 9 := by
  have h1 := rowB_len h
  have h2 := runNo_le zs (zs.length - 1)
  constructor
  · simp only [runsN, runsNat', h, if_true]; split <;> simp
  · unfold runsNat'; split <;> omega

set_option maxRecDepth 100000 in
set_option maxHeartbeats 4000000 in
theorem drawPassOf_any (A : Option Addr) (c : Nat) (zs : List Int) (w : World) (hr : Own w 0 w.heap.size A (zs.map (Value.int .u8))) (hx : zs.length ≤ c ∧ c ≤ maxLen ∧ ∀ z ∈ zs, (Lit.int .u8 z).wf = true) :
    Calls Try.prog 16 #[.slice A zs.length c] w fun e w' => ∃ (A B : Option Addr) (c d : Nat) (ds bs : List Int) (k : Int), e = .returned (.tuple #[.slice A ds.length c, .slice B bs.length d, .int .i64 k]) ∧ ds.length ≤ 10 ∧ ds.length ≤ c ∧ bs.length ≤ 10 ∧ 0 ≤ k ∧ k ≤ 5 ∧ Own w' 0 w'.heap.size A (ds.map (Value.int .i64)) ∧ Own w' 0 w'.heap.size B (bs.map (Value.int .i64)) ∧ Below w.heap.size w w' := by
  have H := Lib.hid hx
  clear hx
  go_enter Try.func16, Try.ntmps16
  go_wp2_with fail
  refine (newReader_any _ _ _ _ hr H.out).mono ?_
  rintro e w1 ⟨rfl, hrd, hb1⟩
  go_wp2_with fail
  refine (someRow_any _ 0 _ hrd (by omega)).mono ?_
  rintro e w2 ⟨A2, c2, ds, rfl, h10, hc2, ho2, ⟨q2, hq2, hrd2⟩, hg2⟩
  go_wp2_with fail
  refine (one_lit _ q2 w2 hrd2 (by omega) [2, 3, 4, 1, 0, 5] (by decide) (by decide) 6 rfl _ rfl).mono ?_
  rintro e w3 ⟨k, rfl, hk, hrd3, hg3⟩
  have hz1 := hb1.size
  have hz2 := hg2.size
  have hz3 := hg3.size
  have hne2 : ∀ b o, A2 = some ⟨b, o, none⟩ → ds ≠ [] → b ≠ w.heap.size := by
    rintro b o rfl hne
    obtain ⟨b', o', e, h1, _⟩ := ho2.open' (by omega) (by simp; exact List.length_pos_iff.2 hne)
    have := hrd.lt
    simp at e
    omega
  have ho3 : Own w3 0 w2.heap.size A2 (ds.map (Value.int .i64)) := by
    by_cases hd : ds = []
    · subst hd; exact .inl rfl
    · exact (ho2.row.grown (Nat.le_refl _) hg3 (fun b o e => hne2 b o e hd))
  have hk' : 0 ≤ k ∧ k ≤ 5 := by simp at hk; omega
  have hg13 := grown_trans hg2 hg3
  obtain ⟨hk0, hk5⟩ := hk'
  have hmax : 0 ≤ max k 1 - 1 ∧ max k 1 - 1 ≤ 4 := by omega
  obtain ⟨mx, hmx⟩ : ∃ mx, max k 1 = mx := ⟨_, rfl⟩
  rw [hmx] at hmax
  have hmx1 : 1 ≤ mx := by omega
  have hmx2 : mx ≤ 5 := by omega
  have HNE := Lib.hid hne2
  have HO3 := Lib.hid ho3
  clear hne2 ho3 ho2 hk
  go_wp2_with fail
  refine (listOf_any _ _ (ds.length : Int) 0 _ _ hrd3 (by omega) (by omega) (by omega) (by omega) (by omega)).mono ?_
  rintro e w4 ⟨B, d, bs, rfl, hbl, hball, hob, hrd4, hg4⟩
  have hbl' : bs.length = ds.length := by omega
  have hb10 : bs.length ≤ 10 := by omega
  have HBL := Lib.hid hbl'
  clear hbl hbl' hball hmx
  have hz4 := hg4.size
  have hg14 := grown_trans hg13 hg4
  have ho4 : Own w4 0 w2.heap.size A2 (ds.map (Value.int .i64)) := by
    by_cases hd : ds = []
    · subst hd; exact .inl rfl
    · exact HO3.out.grown hz3 hg4 (fun b o e => HNE.out b o e hd)
  have hgl := hrd4.lt
  by_cases h0 : bs.length = 0
  · have hd1 : decide (0 < bs.length) = false := decide_eq_false (by omega)
    have hl0 : ¬ (0 : Int) < bs.length := by omega
    clear h0
    go_wp2_with fail
    go_ret3
    exact ⟨A2, B, c2, d, ds, bs, k, rfl, h10, hc2, hb10, hk0, hk5, ho4.more (by omega), hob.less (by omega), hb1.grown hg14 hb1.size (fun k hk => by injection hk with hk; omega)⟩
  · have hpos : 0 < bs.length := by omega
    have hl0 : (0 : Int) < bs.length := by omega
    clear h0
    have hob' := hob
    obtain ⟨b, o, rfl, hbb, hblt, hc, hf⟩ := hob'.open' (by omega) (by simp; omega)
    clear hob' hc hf
    go_wp2_with fail
    refine (pick_any _ _ _ _ hrd4 (by omega) (by omega)).mono ?_
    rintro e w5 ⟨q, rfl, hq, hrd5, hg5⟩
    have hz5 := hg5.size
    have hbg : b ≠ w.heap.size := by have := hrd.lt; have := hg2.size; omega
    have ho5 : Own w5 0 w2.heap.size A2 (ds.map (Value.int .i64)) := by
      by_cases hd : ds = []
      · subst hd; exact .inl rfl
      · exact ho4.grown (by omega) hg5 (fun b o e => HNE.out b o e hd)
    have hob5 := hob.grown (Nat.le_refl _) hg5 (fun b' o' e => by simp at e; omega)
    have hg15 := grown_trans hg14 hg5
    clear hq
    by_cases hq0 : q = 0
    · subst hq0
      obtain ⟨b', o', e, _, hb5, hc, hf⟩ := hob5.open' (by omega) (by simp; omega)
      simp only [Option.some.injEq, Addr.mk.injEq, and_true] at e
      obtain ⟨rfl, rfl⟩ := e
      have hc0 := hc 0 (.int .i64 bs[0]) (by simp [List.getElem?_map, List.getElem?_eq_getElem hpos])
      have hf0 := hf o
      rw [Nat.add_zero] at hc0
      clear hc hf
      go_wp2_with fail
      go_ret3
      have hfin := hob5.set 0 (.int .i64 k)
      have ho6 : Own (w5.setCell ⟨b, o, none⟩ (.int .i64 k)) 0 w2.heap.size A2 (ds.map (Value.int .i64)) :=
        ho5.elder (row := some b) (by omega) (g_set (World.grownBy.refl w5 (some b)) o _) (fun i hi => by injection hi with hi; omega)
      refine ⟨A2, some ⟨b, o, none⟩, c2, d, ds, bs.set 0 k, k, by rw [List.length_set]; rfl, h10, hc2, by rw [List.length_set]; exact hb10, hk0, hk5, ho6.more (by simp [World.setCell]; omega), ?_, ?_⟩
      · rw [List.map_set]
        exact (hfin.more (by simp [World.setCell]; omega)).less (by omega)
      · exact (hb1.grown hg15 hb1.size (fun k hk => by injection hk with hk; omega)).setCell (p := ⟨b, o, none⟩) (by simp; omega) _
    · have hqq : (q == 0) = false := beq_eq_false_iff_ne.2 hq0
      clear hq0
      go_wp2_with fail
      go_ret3
      exact ⟨A2, some ⟨b, o, none⟩, c2, d, ds, bs, k, rfl, h10, hc2, hb10, hk0, hk5, ho5.more (by omega), (hob5.more hz5).less (by omega), hb1.grown hg15 hb1.size (fun k hk => by injection hk with hk; omega)⟩

theorem buck_one {zs bs : List Int} (hlen : bs.length = zs.length) (h : ∀ (i : Nat) (hi : i < bs.length), bs[i] = 0) {n : Nat} (hn : n ≤ zs.length) : buck zs bs 0 n = zs.take n := by
  induction n with
  | zero => simp [buck]
  | succ n ih => rw [buck_yes (by omega) (by omega) (h n (by omega)), ih (by omega), List.take_succ_eq_append_getElem (by omega)]
theorem pass_one {zs bs : List Int} (hlen : bs.length = zs.length) (h : ∀ (i : Nat) (hi : i < bs.length), bs[i] = 0) : passL zs bs 1 = zs := by
  simp only [passL, List.nil_append]
  rw [buck_one hlen h (Nat.le_refl _), List.take_length]

theorem passV_some {zs bs : List Int} {k : Int} (h : passV zs bs k ≠ []) : rowB 9 zs = true ∧ boxB zs bs k = true ∧ passV zs bs k = passL zs bs k.toNat := by
  unfold passV at h ⊢
  by_cases hc : (rowB 9 zs && boxB zs bs k) = true
  · simp only [Bool.and_eq_true] at hc
    rw [if_pos (by simp [hc])]
    exact ⟨hc.1, hc.2, rfl⟩
  · rw [if_neg hc] at h; exact absurd rfl h

/-- What the law asks of a pass. -/
theorem pass_facts {zs bs : List Int} {k : Int} {V : List Int} (hV : passV zs bs k = V) (hne : V ≠ []) :
    rowB 9 V = true ∧ V.length = zs.length ∧ (1 ≤ k ∧ k ≤ 4) ∧ (1 < k ∨ V = zs) ∧ (0 ≤ runsN V ∧ runsN V ≤ 9) ∧ runsN zs ≤ k * runsN V ∧ (0 ≤ runsN zs ∧ runsN zs ≤ 9) := by
  rw [← hV] at hne
  obtain ⟨h1, h2, h3⟩ := passV_some hne
  rw [h3] at hV
  obtain ⟨hk, hlen, hr⟩ := boxB_yes h2
  obtain ⟨m, rfl⟩ := Int.eq_ofNat_of_zero_le (show 0 ≤ k by omega)
  simp only [Int.toNat_natCast] at hV
  have hp := pass_perm hlen hr
  rw [hV] at hp
  have hrow := rowB_perm hp h1
  have hl := hp.length_eq
  have hzp : 0 < zs.length := by
    rcases Nat.eq_zero_or_pos zs.length with h | h
    · rw [h3, show zs = [] from List.eq_nil_of_length_eq_zero h] at hne
      rw [h] at hl
      have : passL zs bs m = [] := by rw [hV]; exact List.eq_nil_of_length_eq_zero hl
      simp only [Int.toNat_natCast] at hne
      rw [show zs = [] from List.eq_nil_of_length_eq_zero h] at this
      exact absurd this hne
    · exact h
  have n1 := runsNat_le' hrow
  have n2 := runsNat_le' h1
  refine ⟨hrow, hl, hk, ?_, by rw [n1.1]; omega, ?_, by rw [n2.1]; omega⟩
  · by_cases hm : m = 1
    · subst hm
      right
      rw [← hV]
      exact pass_one hlen (fun i hi => by have := hr i hi; omega)
    · left; omega
  · rw [n1.1, n2.1]
    have hrp := runs_pass h1 hlen hr (show zs.length - 1 < zs.length by omega)
    have hbx := (boxOf_eq h1 hlen hr (show zs.length - 1 < zs.length by omega)).2
    rw [hV] at hrp
    unfold runsNat'
    rw [if_neg (by omega), if_neg (by omega), hl]
    have : runNo zs (zs.length - 1) + 1 ≤ m * (runNo V (zs.length - 1) + 1) := by
      rw [Nat.mul_add, Nat.mul_one]; omega
    have h5 : ((m * (runNo V (zs.length - 1) + 1) : Nat) : Int) = (m : Int) * ((runNo V (zs.length - 1) + 1 : Nat) : Int) := by push_cast; rfl
    rw [← h5]
    omega

set_option maxRecDepth 100000 in
set_option maxHeartbeats 4000000 in
theorem passOf_law (A : Option Addr) (c : Nat) (zs : List Int) (w : World) (hr : Own w 0 w.heap.size A (zs.map (Value.int .u8))) (hx : zs.length ≤ c ∧ c ≤ maxLen ∧ ∀ z ∈ zs, (Lit.int .u8 z).wf = true) :
    Calls Try.prog 4 #[.slice A zs.length c] w fun e w' => e = .returned (.bool true) ∧ Below w.heap.size w w' := by
  have hl : zs.length ≤ 9223372036854775807 := by have := hx.1; have := hx.2.1; unfold maxLen at this; omega
  have HX := Lib.hid hx
  clear hx
  by_cases h20 : zs.length ≤ 1048576
  · go_enter Try.func4, Try.ntmps4
    go_wp2_with fail
    refine (drawPassOf_any _ _ _ _ hr HX.out).mono ?_
    rintro e w1 ⟨A1, B1, c1, d1, ds, bs, k, rfl, h10, hdc, hb10, hk0, hk5, ho, hob, hb1⟩
    have hkw : (Lit.int .i64 k).wf = true := by
      simp only [Lit.wf]
      rw [show IntKind.i64.min = -9223372036854775808 from by decide, show IntKind.i64.max = 9223372036854775807 from by decide]
      simp; omega
    have HKW := Lib.hid hkw
    obtain ⟨V, hV⟩ : ∃ V, passV ds bs k = V := ⟨_, rfl⟩
    have HV := Lib.hid hV
    have HE := Lib.hid (eqI_refl' V)
    clear hkw hV
    have hz1 := hb1.size
    go_wp2_with fail
    refine (impPassOf_any _ _ _ _ _ _ _ _ ho hob hdc (by omega)).mono ?_
    rw [HV.out]
    rintro e w2 ⟨A2, c2, rfl, hc2, o2, b2⟩
    have hz2 := b2.size
    have hod := ho.past b2
    have hobd := hob.past b2
    have p2 := hb1.trans (b2.mono hz1)
    have hVl : V.length ≤ 36 := by
      by_cases hne : V = []
      · subst hne; simp
      · have := (pass_facts HV.out hne).2.1; omega
    go_wp2_with fail
    refine (specPassOf_any _ _ _ _ _ _ _ _ hod hobd (by omega) (by omega) HKW.out).mono ?_
    rw [HV.out]
    rintro e w3 ⟨A3, c3, rfl, hc3, o3, b3⟩
    have hz3 := b3.size
    have o23 := o2.past b3
    have hod3 := hod.past b3
    have hobd3 := hobd.past b3
    have p3 := p2.trans (b3.mono (by omega))
    go_wp2_with fail
    refine (equalInts_any _ _ _ _ _ _ _ o23.row o3.row (by omega)).mono ?_
    rw [HE.out]
    rintro e w4 ⟨rfl, n4, hw4⟩
    have b4 : Below w3.heap.size w3 w4 := by rw [hw4]; exact below_drewN (Below.refl _ _) n4
    clear hw4
    have hz4 := b4.size
    have o24 := o23.past b4
    have hod4 := hod3.past b4
    have hobd4 := hobd3.past b4
    have p4 := p3.trans (b4.mono (by omega))
    by_cases hne : V = []
    · have ht : ((V.length : Int) == 0) = true := by rw [hne]; rfl
      clear hne
      go_wp2_with fail
      refine (specPassOf_any _ _ _ _ _ _ _ _ hod4 hobd4 (by omega) (by omega) HKW.out).mono ?_
      rw [HV.out]
      rintro e w5 ⟨A5, c5, rfl, hc5, o5, b5⟩
      have p5 := p4.trans (b5.mono (by omega))
      go_wp2_with fail
      refine (equalInts_any _ _ _ _ _ _ _ (o24.row.past b5) o5.row (by omega)).mono ?_
      rw [HE.out]
      rintro e w6 ⟨rfl, n6, rfl⟩
      go_wp2_with fail
      go_ret
      exact ⟨rfl, below_drewN p5 n6⟩
    · obtain ⟨f1, f2, ⟨hk1, hk4⟩, f4, ⟨f5, f5'⟩, f6, f7, f7'⟩ := pass_facts HV.out hne
      have ht : ((V.length : Int) == 0) = false := by
        have := List.length_pos_iff.2 hne
        exact beq_eq_false_iff_ne.2 (by omega)
      have F1 := Lib.hid f1
      have hlen : ((V.length : Int) == (ds.length : Int)) = true := beq_iff_eq.2 (by omega)
      obtain ⟨rv, hrv⟩ : ∃ rv, runsN V = rv := ⟨_, rfl⟩
      obtain ⟨rd, hrd⟩ : ∃ rd, runsN ds = rd := ⟨_, rfl⟩
      rw [hrv] at f5 f5' f6
      rw [hrd] at f6 f7 f7'
      have HRV := Lib.hid hrv
      have HRD := Lib.hid hrd
      have F4 := Lib.hid f4
      have hm1 : 0 ≤ k * rv := Int.mul_nonneg hk0 f5
      have hm2 : k * rv ≤ 5 * 9 := Int.mul_le_mul hk5 f5' f5 (by omega)
      clear f1 f2 hne hrv hrd f4
      go_wp2_with fail
      refine (impValidRow_any _ _ _ _ o24.row hc2).mono ?_
      rw [F1.out]
      rintro e w' ⟨rfl, rfl⟩
      by_cases hk : 1 < k
      · go_wp2_with fail
        refine (impRunsOf_any _ _ _ _ o24.row hc2).mono ?_
        rw [HRV.out]
        rintro e w5 ⟨rfl, b5⟩
        go_wp2_with fail
        refine (impRunsOf_any _ _ _ _ (hod4.past b5) hdc).mono ?_
        rw [HRD.out]
        rintro e w6 ⟨rfl, b6⟩
        have hz5 := b5.size
        go_wp2_with fail
        go_ret
        exact ⟨by simp, (p4.trans (b5.mono (by omega))).trans (b6.mono (by omega))⟩
      · have hVd : V = ds := by
          rcases F4.out with h | h
          · omega
          · exact h
        have HVD := Lib.hid hVd
        clear hVd
        have hq := equalInts_any A2 A1 c2 c1 V ds w4 o24.row hod4 (by omega)
        rw [show eqI V ds = true by rw [HVD.out]; exact eqI_refl' ds] at hq
        have HQ := Lib.hid hq
        clear hq
        go_wp2_with fail
        refine HQ.out.mono ?_
        rintro e w5 ⟨rfl, n5, hw5⟩
        have b5 : Below w4.heap.size w4 w5 := by rw [hw5]; exact below_drewN (Below.refl _ _) n5
        clear hw5
        have hz5 := b5.size
        have p5 := p4.trans (b5.mono (by omega))
        go_wp2_with fail
        refine (impRunsOf_any _ _ _ _ (o24.row.past b5) hc2).mono ?_
        rw [HRV.out]
        rintro e w6 ⟨rfl, b6⟩
        have hz6 := b6.size
        go_wp2_with fail
        refine (impRunsOf_any _ _ _ _ ((hod4.past b5).past b6) hdc).mono ?_
        rw [HRD.out]
        rintro e w7 ⟨rfl, b7⟩
        go_wp2_with fail
        go_ret
        exact ⟨by simp, (p5.trans (b6.mono (by omega))).trans (b7.mono (by omega))⟩
  · go_enter Try.func4, Try.ntmps4
    go_wp2
    go_ret
    exact ⟨rfl, Below.refl _ _⟩
end Go.Proofs.Ytdgdlmpmoafkgaa
