/- Two lists of rules that are drawn. No condition. -/
import Derived.Test.YtphfolmhlcmbjaaDoorXi
import Derived.Test.YtphfolmhlcmbjaaDoorXo
namespace Go.Proofs.YtphfolmhlcmbjaaDoor
open Go.RowKit

set_option maxRecDepth 100000 in
theorem pickZ_any (g p : Nat) (n : Int) (w : World) (hrd : Rd w g p) (hp : p ≤ 1000000) (hn : n < 1) :
    Calls Tryd.prog 49 #[.pointer (some ⟨g, 0, none⟩), .int .i64 n] w fun e w' => e = .returned (.int .i64 0) ∧ Rd w' g (p + 1) ∧ w.grownBy w' (some g) := by
  obtain ⟨A, bs, c, hg, hrow, hv, hm⟩ := hrd
  have h0 : w.cell? ⟨g, 0, none⟩ = some (.slice A bs.length c) := by rw [cell_of_row w g 0 _ _ _ hg]; rfl
  have h1 : w.cell? ⟨g, 1, none⟩ = some (.int .i64 p) := by rw [cell_of_row w g 1 _ _ _ hg]; rfl
  have hf1 : w.frozen? ⟨g, 1, none⟩ = false := frozen_of_row w g 1 _ _ hg
  have fin : ∀ m, Rd ((w.setCell ⟨g, 1, none⟩ (.int .i64 ((p : Int) + 1))).drewN m) g (p + 1) ∧ w.grownBy ((w.setCell ⟨g, 1, none⟩ (.int .i64 ((p : Int) + 1))).drewN m) (some g) := by
    intro m
    have hcell : ∀ q : Addr, q.block < g → (w.setCell ⟨g, 1, none⟩ (.int .i64 ((p : Int) + 1))).cell? q = w.cell? q := fun q hq => World.cell?_setCell_other w _ q _ (fun e => by subst e; simp at hq)
    refine ⟨⟨A, bs, c, ?_, ?_, hv, hm⟩, rfl, rfl, rfl, by simp [World.drewN, World.setCell], fun k _ hk => Below.heap_setCell w _ _ k (fun e => hk (by rw [e]))⟩
    · show (w.setCell ⟨g, 1, none⟩ _).heap[g]? = _
      rw [heap_setCell_same w g 1 _ _ _ hg]
      rfl
    · rcases hrow with h | ⟨b, o, rfl, _, hb, hc, hf⟩
      · exact .inl h
      · exact .inr ⟨b, o, rfl, by omega, hb, fun j u hu => (hcell ⟨b, o + j, none⟩ hb).trans (hc j u hu), fun h => by omega⟩
  have FIN := Lib.hid fin
  clear fin hg hv
  go_enter Tryd.func49, Tryd.ntmps49
  go_wp2
  go_ret
  exact ⟨rfl, FIN.out 0⟩

theorem ownV_below {w w' : World} {base : Nat} {e : TypeId} {size n : Nat} {v : Value} {xs : List Value} (h : w.ownsRow base e size v n xs) (hb : Below w.heap.size w w') : w'.ownsRow base e size v n xs :=
  h.kept (row := Option.none) ⟨hb.os, hb.tape, hb.output, hb.size, fun i hi _ => hb.block i hi⟩ (by by_cases h : v.ownBlock = Option.none; exact .inl h; exact .inr h)
theorem setU_flat (rs : List (ByteArray × Int)) (k : Nat) (s : ByteArray) (n : Int) : ((flat rs).set (k * 2) (.string s)).set (k * 2 + 1) (.int .i64 n) = flat (rs.set k (s, n)) := by
  induction rs generalizing k with
  | nil => simp [flat]
  | cons r rs ih =>
    cases k with
    | zero => simp [flat]
    | succ k =>
      rw [flat_cons, List.set_cons_succ, flat_cons, ← ih k, show (k + 1) * 2 = k * 2 + 1 + 1 by omega]
      simp
theorem swap_flat (rs : List (ByteArray × Int)) {k : Nat} (h : k + 1 < rs.length) : ((((flat rs).set (k * 2) (.string rs[k + 1].1)).set (k * 2 + 1) (.int .i64 rs[k + 1].2)).set ((k + 1) * 2) (.string rs[k].1)).set ((k + 1) * 2 + 1) (.int .i64 rs[k].2) = flat ((rs.set k rs[k + 1]).set (k + 1) rs[k]) := by
  rw [setU_flat, setU_flat]
theorem ShortU.swap {rs : List (ByteArray × Int)} {k : Nat} (h : ShortU rs) (hk : k + 1 < rs.length) : ShortU ((rs.set k rs[k + 1]).set (k + 1) rs[k]) := fun r hr => by
  rcases List.mem_or_eq_of_mem_set hr with hr | rfl
  · rcases List.mem_or_eq_of_mem_set hr with hr | rfl
    · exact h r hr
    · exact h _ (List.getElem_mem _)
  · exact h _ (List.getElem_mem _)

def Drawn2 (w : World) (A : Option Addr) (_c : Nat) (rs : List (ByteArray × Int)) (B : Option Addr) (_d : Nat) (ss : List (ByteArray × Int)) (w' : World) : Prop :=
  rs.length ≤ 8 ∧ ss.length ≤ 8 ∧ ShortU rs ∧ ShortU ss ∧ Own w' 0 w'.heap.size A (flat rs) ∧ Own w' 0 w'.heap.size B (flat ss) ∧ Below w.heap.size w w'

set_option maxRecDepth 100000 in
set_option maxHeartbeats 8000000 in
theorem drawSameRules_any (A : Option Addr) (c : Nat) (zs : List Int) (w : World) (hr : Own w 0 w.heap.size A (zs.map (Value.int .u8))) (hx : zs.length ≤ c ∧ c ≤ maxLen ∧ ∀ z ∈ zs, (Lit.int .u8 z).wf = true) :
    Calls Tryd.prog 19 #[.slice A zs.length c] w fun e w' => ∃ (A : Option Addr) (c : Nat) (rs : List (ByteArray × Int)) (B : Option Addr) (d : Nat) (ss : List (ByteArray × Int)), e = .returned (.tuple #[.slice A rs.length c, .slice B ss.length d]) ∧ Drawn2 w A c rs B d ss w' := by
  obtain ⟨i0, hi0, hz0, hz1, hz2⟩ := info_parts Tryd.infoU
  have H := Lib.hid hx
  clear hx
  go_enter Tryd.func19, Tryd.ntmps19
  go_wp2_with fail
  refine (newReader_any _ _ _ _ hr H.out).mono ?_
  rintro e w1 ⟨rfl, hrd, hb1⟩
  have hgl := hrd.lt
  have HB1 := Lib.hid hb1
  have hz1' := hb1.size
  clear hb1
  go_wp2_with fail
  refine (someRules_any _ 0 _ hrd (by omega)).mono ?_
  rintro e w2 ⟨A2, c2, rs, rfl, h6, hc, htw, hm, ⟨q, hq, hrd2⟩, hg⟩
  have HTW := Lib.hid htw
  have hg12 := hg.size
  have hB2 : Below w.heap.size w w2 := HB1.out.grown hg hz1' (fun k hk => by injection hk with hk; omega)
  have hown0 := firstU w2 w2.heap.size (Nat.le_refl _)
  have hor := hm.below ((Below.refl _ _).alloc (Nat.le_refl _) (.cells #[] 31))
  have HON := Lib.hid (flatU_ones rs)
  have HM := Lib.hid hm
  have HB2 := Lib.hid hB2
  clear htw hm hg hrd hB2
  go_wp2_with (at_builtin; refine wpList_extend rfl (.tmp 13) (.tmp 14) 23 rfl i0 (.agg #[.string ⟨#[]⟩, .int .i64 0]) 24 Tryd.underlying23 hi0 hz0 hz1 hz2 rfl (by decide) _ _ rfl hown0 _ _ _ _ (flat rs) rfl (by rw [flat_length]; omega) (hor.less (Nat.zero_le _)) HON.out (by omega) (by omega) (by simp) ?_)
  intro A6 c6 w6 hown6 hg6
  have hg56 : w2.grownBy w6 none := g_new (World.grownBy_alloc w2 _ none) hg6 (fun i hi => (hown0.lt _ hi).1)
  have hb56 := below_g hg56 (Nat.le_refl _)
  have hown6' : w6.ownsRow w2.heap.size 31 2 (.slice A6 rs.length c6) rs.length (flat rs) := by simpa using hown6
  try simp only [Nat.zero_add]
  have hrd6 := hrd2.own hg56 (fun i hi => by cases hi)
  have oa6 := HM.out.below hb56
  have HB6 := Lib.hid (HB2.out.trans (hb56.mono HB2.out.size))
  have hs6 := hg56.size
  clear hown0 hor hown6 hg6 hg56 hb56 hrd2
  go_wp2_with fail
  refine (pick_any w.heap.size q 4 w6 hrd6 (by omega) (by omega)).mono ?_
  rintro e w7 ⟨y, rfl, hy, hrd7, hg7⟩
  have oa7 := oa6.apart hs6 hg7 (fun i hi => by injection hi with hi; omega)
  have ob7 := hown6'.kept hg7 (own_ne hown6' (by omega))
  have HB7 := Lib.hid (HB6.out.grown hg7 HB6.out.size (fun i hi => by injection hi with hi; omega))
  have hs7 := hg7.size
  clear hy hrd6 hg7 oa6 hown6'
  by_cases hy0 : y = 0
  · subst hy0
    go_wp2_with fail
    refine (someRules_any _ _ _ hrd7 (by omega)).mono ?_
    rintro e w8 ⟨A8, c8, ss, rfl, h68, _, htw8, hm8, _, hg8⟩
    have oa8 := oa7.apart (by omega) hg8 (fun i hi => by injection hi with hi; omega)
    have hB8 := HB7.out.grown hg8 HB7.out.size (fun i hi => by injection hi with hi; omega)
    have hs8 := hg8.size
    go_wp2
    go_ret2
    exact ⟨A2, c2, rs, A8, c8, ss, rfl, h6, h68, HTW.out, htw8, (oa8.more (by omega)).less (Nat.zero_le _), hm8.less (Nat.zero_le _), hB8⟩
  have e0 : (y == 0) = false := beq_eq_false_iff_ne.2 hy0
  have HSZ := Lib.hid HTW.out.le
  clear hy0
  by_cases hy1 : y = 1
  · subst hy1
    have oaw := (oa7.more (show w2.heap.size ≤ w7.heap.size by omega)).less (Nat.zero_le _)
    have hva := specvRules_any A2 c2 rs w7 oaw (by omega) HSZ.out
    have HTR := Lib.hid (fun Y hY => specTrimRules_any A2 c2 rs Y hY (by omega) HSZ.out)
    have HTL := Lib.hid (show (trimQ rs).length ≤ rs.length ∧ ShortU (trimQ rs) by
      unfold trimQ
      split
      · exact ⟨(trimV_sub rs).length_le, fun r hr => HTW.out r ((trimV_sub rs).subset hr)⟩
      · exact ⟨by simp, fun r hr => by simp at hr⟩)
    obtain ⟨V, hV⟩ : ∃ V, trimQ rs = V := ⟨_, rfl⟩
    obtain ⟨p, hp⟩ : ∃ p, rulesB rs = p := ⟨_, rfl⟩
    rw [hp] at hva
    rw [hV] at HTR HTL
    have HVA := Lib.hid hva
    clear hva hV hp oaw
    go_wp2_with fail
    refine HVA.out.mono ?_
    rintro e X ⟨rfl, nX, hX⟩
    have hbX : Below w7.heap.size w7 X := by rw [hX]; exact below_drewN (Below.refl _ _) nX
    have hrdX : Rd X w.heap.size (q + 1) := hrd7.own (row := none) ⟨hbX.os, hbX.tape, hbX.output, hbX.size, fun i hi _ => hbX.block i hi⟩ (fun i hi => by cases hi)
    have oaX := oa7.below (hbX.mono (by omega))
    have obX := ownV_below ob7 hbX
    have HBX := Lib.hid (HB7.out.trans (hbX.mono HB7.out.size))
    have hAX : w2.heap.size ≤ X.heap.size := by have := hbX.size; omega
    clear hbX hX oa7 ob7 hrd7
    cases p with
    | true =>
      go_wp2_with fail
      refine (HTR.out X ((oaX.more hAX).less (Nat.zero_le _))).mono ?_
      rintro e w8 ⟨A8, c8, rfl, _, o8, hb8⟩
      have oa8 := oaX.below (hb8.mono hAX)
      have hB8 := HBX.out.trans (hb8.mono HBX.out.size)
      have hs8 := hb8.size
      go_wp2
      go_ret2
      exact ⟨A2, c2, rs, A8, c8, V, rfl, h6, by have := HTL.out.1; omega, HTW.out, HTL.out.2, (oa8.more (by omega)).less (Nat.zero_le _), o8.less (Nat.zero_le _), hB8⟩
    | false =>
      by_cases hn0 : rs.length = 0
      · have hpz := pickZ_any w.heap.size (q + 1) ((rs.length : Nat) : Int) X hrdX (by omega) (by omega)
        have HPZ := Lib.hid hpz
        have hlt0 : ¬ ((0 : Int) + 1 < ((rs.length : Nat) : Int)) := by omega
        have hd0 : decide ((1 : Int) < ((rs.length : Nat) : Int)) = false := decide_eq_false (by omega)
        clear hpz hn0 hrdX
        go_wp2_with fail
        refine HPZ.out.mono ?_
        rintro e w9 ⟨rfl, hrd9, hg9⟩
        have oa9 := oaX.apart hAX hg9 (fun i hi => by injection hi with hi; omega)
        have ob9 := obX.kept hg9 (own_ne obX (by omega))
        have hB9 := HBX.out.grown hg9 HBX.out.size (fun i hi => by injection hi with hi; omega)
        have hs9 := hg9.size
        go_wp2
        go_ret2
        exact ⟨A2, c2, rs, A6, c6, rs, rfl, h6, h6, HTW.out, HTW.out, (oa9.more (by omega)).less (Nat.zero_le _), (own_rowU ob9).less (Nat.zero_le _), hB9⟩
      · go_wp2_with fail
        refine (pick_any w.heap.size (q + 1) _ X hrdX (by omega) (by omega)).mono ?_
        rintro e w9 ⟨k, rfl, hk, hrd9, hg9⟩
        have hk1 := hk.2 (by omega)
        obtain ⟨K, rfl⟩ := Int.eq_ofNat_of_zero_le hk.1
        have oa9 := oaX.apart hAX hg9 (fun i hi => by injection hi with hi; omega)
        have ob9 := obX.kept hg9 (own_ne obX (by omega))
        have HB9 := Lib.hid (HBX.out.grown hg9 HBX.out.size (fun i hi => by injection hi with hi; omega))
        have hs9 := hg9.size
        have hw1 : IntKind.i64.wrap ((K : Int) + 1) = (K : Int) + 1 := IntWalk.i64_in _ (by omega)
        clear hk hrd9 hg9 hrdX oaX obX hn0
        by_cases hsw : K + 1 < rs.length
        · have hsI : (K : Int) + 1 < (rs.length : Int) := by omega
          obtain ⟨gB, rfl, hgB1, hgB2⟩ := own_some ob9 (by omega)
          have ob := own_rowU ob9
          obtain ⟨b', o', e, _, _, hcc, hfr⟩ := ob.open' (by omega) (by rw [flat_length]; omega)
          simp only [Option.some.injEq, Addr.mk.injEq, and_true] at e
          obtain ⟨rfl, rfl⟩ := e
          obtain ⟨x1, x2⟩ := routes_at hcc (show K < rs.length by omega)
          obtain ⟨y1, y2⟩ := routes_at hcc hsw
          simp only [Nat.zero_add] at x1 x2 y1 y2
          have f1 := hfr (K * 2)
          have f2 := hfr (K * 2 + 1)
          have f3 := hfr ((K + 1) * 2)
          have f4 := hfr ((K + 1) * 2 + 1)
          have HSW := Lib.hid (swap_flat rs hsw)
          have HS1 := Lib.hid (show ShortU ((rs.set K rs[K + 1]).set (K + 1) rs[K]) from HTW.out.swap hsw)
          obtain ⟨s1, hs1⟩ : ∃ s, rs[K].1 = s := ⟨_, rfl⟩
          obtain ⟨n1, hn1⟩ : ∃ s, rs[K].2 = s := ⟨_, rfl⟩
          obtain ⟨s2, hs2⟩ : ∃ s, rs[K + 1].1 = s := ⟨_, rfl⟩
          obtain ⟨n2, hn2⟩ : ∃ s, rs[K + 1].2 = s := ⟨_, rfl⟩
          rw [hs1] at x1
          rw [hn1] at x2
          rw [hs2] at y1
          rw [hn2] at y2
          have HE4 := Lib.hid (And.intro (And.intro hs1 hn1) (And.intro hs2 hn2))
          have hKI : (K : Int) < (rs.length : Int) := by omega
          have hK0 : (0 : Int) ≤ (K : Int) := by omega
          have hK1 : (0 : Int) ≤ (K : Int) + 1 := by omega
          obtain ⟨V, hV⟩ : ∃ V, w9.alloc (.cells #[.string s1, .int .i64 n1] 31) = V := ⟨_, rfl⟩
          have hVs : V.heap.size = w9.heap.size + 1 := by rw [← hV, World.size_alloc]
          have b9 : Below w9.heap.size w9 V := by rw [← hV]; exact (Below.refl _ _).alloc (Nat.le_refl _) _
          have x1' := cell_stay b9 hgB2 x1
          have x2' := cell_stay b9 hgB2 x2
          have y1' := cell_stay b9 hgB2 y1
          have y2' := cell_stay b9 hgB2 y2
          have z1 : V.cell? ⟨w9.heap.size, 0, none⟩ = some (.string s1) := by rw [← hV, World.cell?_alloc_at _ _ _ _ rfl]; rfl
          have z2 : V.cell? ⟨w9.heap.size, 1, none⟩ = some (.int .i64 n1) := by rw [← hV, World.cell?_alloc_at _ _ _ _ rfl]; rfl
          have obV := ob.below b9
          obtain ⟨_, _, e, _, _, _, hfrV⟩ := obV.open' (by omega) (by rw [flat_length]; omega)
          simp only [Option.some.injEq, Addr.mk.injEq, and_true] at e
          obtain ⟨rfl, rfl⟩ := e
          have g1 := hfrV (K * 2)
          have g2 := hfrV (K * 2 + 1)
          have g3 := hfrV ((K + 1) * 2)
          have g4 := hfrV ((K + 1) * 2 + 1)
          have hset := (((obV.set (K * 2) (.string s2)).set (K * 2 + 1) (.int .i64 n2)).set ((K + 1) * 2) (.string s1)).set ((K + 1) * 2 + 1) (.int .i64 n1)
          rw [← hs1, ← hn1, ← hs2, ← hn2, HSW.out, hs1, hn1, hs2, hn2] at hset
          simp only [Nat.zero_add] at hset
          have bV : Below w2.heap.size w9 ((((V.setCell ⟨gB, K * 2, none⟩ (.string s2)).setCell ⟨gB, K * 2 + 1, none⟩ (.int .i64 n2)).setCell ⟨gB, (K + 1) * 2, none⟩ (.string s1)).setCell ⟨gB, (K + 1) * 2 + 1, none⟩ (.int .i64 n1)) :=
            ((((b9.mono (by omega)).setCell (p := ⟨gB, K * 2, none⟩) hgB1 _).setCell (p := ⟨gB, K * 2 + 1, none⟩) hgB1 _).setCell (p := ⟨gB, (K + 1) * 2, none⟩) hgB1 _).setCell (p := ⟨gB, (K + 1) * 2 + 1, none⟩) hgB1 _
          have oaV := oa9.below bV
          have HFIN := Lib.hid (And.intro hset (And.intro oaV (HB9.out.trans (bV.mono (by omega)))))
          have hne : ¬ w9.heap.size = gB := by omega
          clear hcc hfr ob ob9 oa9 b9 obV hfrV hset bV oaV hs1 hn1 hs2 hn2 y1 y2 f1 f2 f3 f4
          go_wp2
          go_ret2
          exact ⟨A2, c2, rs, some ⟨gB, 0, none⟩, c6, (rs.set K rs[K + 1]).set (K + 1) rs[K], by simp, h6, by simp; omega, HTW.out, HS1.out, (HFIN.out.2.1.more (by simp [World.setCell, hVs]; omega)).less (Nat.zero_le _), (HFIN.out.1.more (by simp [World.setCell, hVs])).less (Nat.zero_le _), HFIN.out.2.2⟩
        · have hsI : ¬ (K : Int) + 1 < (rs.length : Int) := by omega
          clear hsw
          go_wp2
          go_ret2
          exact ⟨A2, c2, rs, A6, c6, rs, rfl, h6, h6, HTW.out, HTW.out, (oa9.more (by omega)).less (Nat.zero_le _), (own_rowU ob9).less (Nat.zero_le _), HB9.out⟩
  have e1 : (y == 1) = false := beq_eq_false_iff_ne.2 hy1
  clear hy1
  obtain ⟨X, hX⟩ : ∃ X : World, X = w7 := ⟨_, rfl⟩
  subst hX
  have hrdX := hrd7
  have oaX := oa7
  have obX := ob7
  have HBX := HB7
  have hAX : w2.heap.size ≤ X.heap.size := by omega
  clear hrd7 oa7 ob7 HB7
  by_cases hy2 : y = 2
  · subst hy2
    by_cases hn : 0 < rs.length
    · have hnI : decide (0 < rs.length) = true := decide_eq_true hn
      go_wp2_with fail
      refine (pick_any w.heap.size _ _ X hrdX (by omega) (by omega)).mono ?_
      rintro e w9 ⟨k, rfl, hk, _, hg9⟩
      have hk1 := hk.2 (by omega)
      obtain ⟨K, rfl⟩ := Int.eq_ofNat_of_zero_le hk.1
      have oa9 := oaX.apart hAX hg9 (fun i hi => by injection hi with hi; omega)
      have ob9 := obX.kept hg9 (own_ne obX (by omega))
      have HB9 := Lib.hid (HBX.out.grown hg9 HBX.out.size (fun i hi => by injection hi with hi; omega))
      have hs9 := hg9.size
      have hwo := without_any A6 c6 rs K w9 ((own_rowU ob9).less (Nat.zero_le _)) (own_cap ob9) (by omega) (by omega)
      have HWO := Lib.hid hwo
      have HES := Lib.hid (show (rs.eraseIdx K).length ≤ 8 ∧ ShortU (rs.eraseIdx K) from ⟨Nat.le_trans (List.eraseIdx_sublist rs K).length_le h6, fun r hr => HTW.out r ((List.eraseIdx_sublist rs K).subset hr)⟩)
      clear hk hg9 hwo ob9 obX oaX hrdX
      go_wp2_with fail
      refine HWO.out.mono ?_
      rintro e w8 ⟨A8, c8, rfl, hkp, hb8⟩
      have oa8 := oa9.below (hb8.mono (by omega))
      have hB8 := HB9.out.trans (hb8.mono HB9.out.size)
      have hs8 := hb8.size
      go_wp2
      go_ret2
      exact ⟨A2, c2, rs, A8, c8, rs.eraseIdx K, rfl, h6, HES.out.1, HTW.out, HES.out.2, (oa8.more (by omega)).less (Nat.zero_le _), hkp.own.less (Nat.zero_le _), hB8⟩
    · have hnI : decide (0 < rs.length) = false := decide_eq_false hn
      have hn0 : rs.length = 0 := by omega
      have hpz := pickZ_any w.heap.size (q + 1) ((rs.length : Nat) : Int) X hrdX (by omega) (by omega)
      have HPZ := Lib.hid hpz
      have hlt0 : ¬ ((0 : Int) + 1 < ((rs.length : Nat) : Int)) := by omega
      have hd0 : decide ((1 : Int) < ((rs.length : Nat) : Int)) = false := decide_eq_false (by omega)
      clear hpz hn0 hrdX
      go_wp2_with fail
      refine HPZ.out.mono ?_
      rintro e w9 ⟨rfl, hrd9, hg9⟩
      have oa9 := oaX.apart hAX hg9 (fun i hi => by injection hi with hi; omega)
      have ob9 := obX.kept hg9 (own_ne obX (by omega))
      have hB9 := HBX.out.grown hg9 HBX.out.size (fun i hi => by injection hi with hi; omega)
      have hs9 := hg9.size
      go_wp2
      go_ret2
      exact ⟨A2, c2, rs, A6, c6, rs, rfl, h6, h6, HTW.out, HTW.out, (oa9.more (by omega)).less (Nat.zero_le _), (own_rowU ob9).less (Nat.zero_le _), hB9⟩
  have e2 : (y == 2) = false := beq_eq_false_iff_ne.2 hy2
  clear hy2
  by_cases hn0 : rs.length = 0
  · have hpz := pickZ_any w.heap.size (q + 1) ((rs.length : Nat) : Int) X hrdX (by omega) (by omega)
    have HPZ := Lib.hid hpz
    have hlt0 : ¬ ((0 : Int) + 1 < ((rs.length : Nat) : Int)) := by omega
    have hd0 : decide ((1 : Int) < ((rs.length : Nat) : Int)) = false := decide_eq_false (by omega)
    clear hpz hn0 hrdX
    go_wp2_with fail
    refine HPZ.out.mono ?_
    rintro e w9 ⟨rfl, hrd9, hg9⟩
    have oa9 := oaX.apart hAX hg9 (fun i hi => by injection hi with hi; omega)
    have ob9 := obX.kept hg9 (own_ne obX (by omega))
    have hB9 := HBX.out.grown hg9 HBX.out.size (fun i hi => by injection hi with hi; omega)
    have hs9 := hg9.size
    go_wp2
    go_ret2
    exact ⟨A2, c2, rs, A6, c6, rs, rfl, h6, h6, HTW.out, HTW.out, (oa9.more (by omega)).less (Nat.zero_le _), (own_rowU ob9).less (Nat.zero_le _), hB9⟩
  · go_wp2_with fail
    refine (pick_any w.heap.size (q + 1) _ X hrdX (by omega) (by omega)).mono ?_
    rintro e w9 ⟨k, rfl, hk, hrd9, hg9⟩
    have hk1 := hk.2 (by omega)
    obtain ⟨K, rfl⟩ := Int.eq_ofNat_of_zero_le hk.1
    have oa9 := oaX.apart hAX hg9 (fun i hi => by injection hi with hi; omega)
    have ob9 := obX.kept hg9 (own_ne obX (by omega))
    have HB9 := Lib.hid (HBX.out.grown hg9 HBX.out.size (fun i hi => by injection hi with hi; omega))
    have hs9 := hg9.size
    have hw1 : IntKind.i64.wrap ((K : Int) + 1) = (K : Int) + 1 := IntWalk.i64_in _ (by omega)
    clear hk hrd9 hg9 hrdX oaX obX hn0
    by_cases hsw : K + 1 < rs.length
    · have hsI : (K : Int) + 1 < (rs.length : Int) := by omega
      obtain ⟨gB, rfl, hgB1, hgB2⟩ := own_some ob9 (by omega)
      have ob := own_rowU ob9
      obtain ⟨b', o', e, _, _, hcc, hfr⟩ := ob.open' (by omega) (by rw [flat_length]; omega)
      simp only [Option.some.injEq, Addr.mk.injEq, and_true] at e
      obtain ⟨rfl, rfl⟩ := e
      obtain ⟨x1, x2⟩ := routes_at hcc (show K < rs.length by omega)
      obtain ⟨y1, y2⟩ := routes_at hcc hsw
      simp only [Nat.zero_add] at x1 x2 y1 y2
      have f1 := hfr (K * 2)
      have f2 := hfr (K * 2 + 1)
      have f3 := hfr ((K + 1) * 2)
      have f4 := hfr ((K + 1) * 2 + 1)
      have HSW := Lib.hid (swap_flat rs hsw)
      have HS1 := Lib.hid (show ShortU ((rs.set K rs[K + 1]).set (K + 1) rs[K]) from HTW.out.swap hsw)
      obtain ⟨s1, hs1⟩ : ∃ s, rs[K].1 = s := ⟨_, rfl⟩
      obtain ⟨n1, hn1⟩ : ∃ s, rs[K].2 = s := ⟨_, rfl⟩
      obtain ⟨s2, hs2⟩ : ∃ s, rs[K + 1].1 = s := ⟨_, rfl⟩
      obtain ⟨n2, hn2⟩ : ∃ s, rs[K + 1].2 = s := ⟨_, rfl⟩
      rw [hs1] at x1
      rw [hn1] at x2
      rw [hs2] at y1
      rw [hn2] at y2
      have HE4 := Lib.hid (And.intro (And.intro hs1 hn1) (And.intro hs2 hn2))
      have hKI : (K : Int) < (rs.length : Int) := by omega
      have hK0 : (0 : Int) ≤ (K : Int) := by omega
      have hK1 : (0 : Int) ≤ (K : Int) + 1 := by omega
      obtain ⟨V, hV⟩ : ∃ V, w9.alloc (.cells #[.string s1, .int .i64 n1] 31) = V := ⟨_, rfl⟩
      have hVs : V.heap.size = w9.heap.size + 1 := by rw [← hV, World.size_alloc]
      have b9 : Below w9.heap.size w9 V := by rw [← hV]; exact (Below.refl _ _).alloc (Nat.le_refl _) _
      have x1' := cell_stay b9 hgB2 x1
      have x2' := cell_stay b9 hgB2 x2
      have y1' := cell_stay b9 hgB2 y1
      have y2' := cell_stay b9 hgB2 y2
      have z1 : V.cell? ⟨w9.heap.size, 0, none⟩ = some (.string s1) := by rw [← hV, World.cell?_alloc_at _ _ _ _ rfl]; rfl
      have z2 : V.cell? ⟨w9.heap.size, 1, none⟩ = some (.int .i64 n1) := by rw [← hV, World.cell?_alloc_at _ _ _ _ rfl]; rfl
      have obV := ob.below b9
      obtain ⟨_, _, e, _, _, _, hfrV⟩ := obV.open' (by omega) (by rw [flat_length]; omega)
      simp only [Option.some.injEq, Addr.mk.injEq, and_true] at e
      obtain ⟨rfl, rfl⟩ := e
      have g1 := hfrV (K * 2)
      have g2 := hfrV (K * 2 + 1)
      have g3 := hfrV ((K + 1) * 2)
      have g4 := hfrV ((K + 1) * 2 + 1)
      have hset := (((obV.set (K * 2) (.string s2)).set (K * 2 + 1) (.int .i64 n2)).set ((K + 1) * 2) (.string s1)).set ((K + 1) * 2 + 1) (.int .i64 n1)
      rw [← hs1, ← hn1, ← hs2, ← hn2, HSW.out, hs1, hn1, hs2, hn2] at hset
      simp only [Nat.zero_add] at hset
      have bV : Below w2.heap.size w9 ((((V.setCell ⟨gB, K * 2, none⟩ (.string s2)).setCell ⟨gB, K * 2 + 1, none⟩ (.int .i64 n2)).setCell ⟨gB, (K + 1) * 2, none⟩ (.string s1)).setCell ⟨gB, (K + 1) * 2 + 1, none⟩ (.int .i64 n1)) :=
        ((((b9.mono (by omega)).setCell (p := ⟨gB, K * 2, none⟩) hgB1 _).setCell (p := ⟨gB, K * 2 + 1, none⟩) hgB1 _).setCell (p := ⟨gB, (K + 1) * 2, none⟩) hgB1 _).setCell (p := ⟨gB, (K + 1) * 2 + 1, none⟩) hgB1 _
      have oaV := oa9.below bV
      have HFIN := Lib.hid (And.intro hset (And.intro oaV (HB9.out.trans (bV.mono (by omega)))))
      have hne : ¬ w9.heap.size = gB := by omega
      clear hcc hfr ob ob9 oa9 b9 obV hfrV hset bV oaV hs1 hn1 hs2 hn2 y1 y2 f1 f2 f3 f4
      go_wp2
      go_ret2
      exact ⟨A2, c2, rs, some ⟨gB, 0, none⟩, c6, (rs.set K rs[K + 1]).set (K + 1) rs[K], by simp, h6, by simp; omega, HTW.out, HS1.out, (HFIN.out.2.1.more (by simp [World.setCell, hVs]; omega)).less (Nat.zero_le _), (HFIN.out.1.more (by simp [World.setCell, hVs])).less (Nat.zero_le _), HFIN.out.2.2⟩
    · have hsI : ¬ (K : Int) + 1 < (rs.length : Int) := by omega
      clear hsw
      go_wp2
      go_ret2
      exact ⟨A2, c2, rs, A6, c6, rs, rfl, h6, h6, HTW.out, HTW.out, (oa9.more (by omega)).less (Nat.zero_le _), (own_rowU ob9).less (Nat.zero_le _), HB9.out⟩
end Go.Proofs.YtphfolmhlcmbjaaDoor
