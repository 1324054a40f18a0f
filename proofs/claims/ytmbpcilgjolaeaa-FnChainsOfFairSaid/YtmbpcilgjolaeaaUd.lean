/- Rates that are drawn. No condition. -/
import Derived.Test.YtmbpcilgjolaeaaUc
import Derived.Test.YtmbpcilgjolaeaaRd2
namespace Go.Proofs.Ytmbpcilgjolaeaa
open Go.RowKit

def Lens (m : Nat) (rs : List (List Int)) : Prop := ∀ r ∈ rs, r.length ≤ m
theorem Lens.push {m : Nat} {rs : List (List Int)} {r : List Int} (h : Lens m rs) (hr : r.length ≤ m) : Lens m (rs ++ [r]) := fun x hx => by
  rcases List.mem_append.1 hx with hx | hx
  · exact h x hx
  · simp at hx; rw [hx]; exact hr
theorem Lens.set {m : Nat} {rs : List (List Int)} {r : List Int} {k : Nat} (h : Lens m rs) (hr : r.length ≤ m) : Lens m (rs.set k r) := fun x hx => by
  rcases List.mem_or_eq_of_mem_set hx with hx | rfl
  · exact h x hx
  · exact hr
theorem Built.push2 {w1 w2 w3 : World} {base : Nat} {H H' R : Option Addr} {c c' cR : Nat} {hs : List Value} {rs : List (List Int)} {r : List Int}
    (h : Built w1 base H c hs rs) (hbase : base ≤ w1.heap.size) (h' : Built w2 base H c hs rs) (hb : w1.heap.size ≤ w2.heap.size) (hR : OwnInts w2 w1.heap.size w2.heap.size R r) (hc : r.length ≤ cR)
    (hown : w3.ownsRow base 27 1 (.slice H' (rs.length + 1) c') (rs.length + 1) (hs ++ [.slice R r.length cR])) (hg : w2.grownBy w3 (Value.slice H rs.length c).ownBlock)
    (hl : H'.map (·.block) = H.map (·.block) ∨ H'.map (·.block) = some (w2.heap.size + 1)) : Built w3 base H' c' (hs ++ [.slice R r.length cR]) (rs ++ [r]) := by
  obtain ⟨h1, h2, h3⟩ := h
  have hHlt : ∀ i, H.map (·.block) = some i → i < w1.heap.size := fun i hi => (h1.lt i (by rw [slice_block]; exact hi)).2
  rw [slice_block] at hg
  have hold : ∀ (i : Nat) (hi : i < rs.length) (A : Option Addr) (cA : Nat), rs[i] ≠ [] → hs[i]? = some (.slice A rs[i].length cA) → ∃ b o, A = some ⟨b, o, none⟩ ∧ b < w1.heap.size := by
    intro i hi A cA hne hA
    obtain ⟨A', c2, g1, _, g3⟩ := h2.2 i hi
    rw [g1] at hA
    simp only [Option.some.injEq, Value.slice.injEq] at hA
    obtain ⟨rfl, _, _⟩ := hA
    obtain ⟨b, o, hA2, hlt, _⟩ := g3.open (by simp; exact List.length_pos_iff.2 hne)
    exact ⟨b, o, hA2, hlt⟩
  have hnew : r ≠ [] → ∃ b o, R = some ⟨b, o, none⟩ ∧ w1.heap.size ≤ b ∧ b < w2.heap.size := by
    intro hne
    obtain ⟨b, o, hA2, h0, hlt, _⟩ := hR.open' (by omega) (by simp; exact List.length_pos_iff.2 hne)
    exact ⟨b, o, hA2, by omega, hlt⟩
  have hget : ∀ (i : Nat) (hi : i < rs.length), (rs ++ [r])[i]'(by simp; omega) = rs[i] := fun i hi => List.getElem_append_left hi
  have hgetn : (rs ++ [r])[rs.length]'(by simp) = r := by simp
  have hsl : hs.length = rs.length := h2.1
  refine ⟨by simpa using hown, ⟨by simp [hsl], fun i hi => ?_⟩, ?_, ?_⟩
  · simp only [List.length_append, List.length_cons, List.length_nil] at hi
    by_cases hir : i < rs.length
    · obtain ⟨A, c2, g1, g2, g3⟩ := h2.2 i hir
      rw [hget i hir]
      refine ⟨A, c2, by rw [List.getElem?_append_left (by omega)]; exact g1, g2, ?_⟩
      obtain ⟨A', c2', g1', _, g4⟩ := h'.2.1.2 i hir
      rw [g1] at g1'
      simp only [Option.some.injEq, Value.slice.injEq] at g1'
      obtain ⟨rfl, _, rfl⟩ := g1'
      by_cases hne : rs[i] = []
      · exact .inl (by rw [hne]; rfl)
      · obtain ⟨b, o, rfl, hblt⟩ := hold i hir A c2 hne g1
        have hap := h3.2 i hir _ c2 hne g1
        have hb2 := hb
        rcases g4 with g4 | ⟨b', o', hA, k0, klt, kc, kf⟩
        · exact .inl g4
        · simp only [Option.some.injEq, Addr.mk.injEq, and_true] at hA
          obtain ⟨rfl, rfl⟩ := hA
          have hbl := hg.block b (by omega) (fun e => hap e.symm.symm)
          exact .inr ⟨b, o, rfl, k0, by have := hg.size; omega, fun j u hu => (World.cell?_of_block (a := ⟨b, o + j, none⟩) hbl).trans (kc j u hu), fun h j => (World.frozen?_of_block (a := ⟨b, j, none⟩) hbl).trans (kf h j)⟩
    · have hie : i = rs.length := by omega
      subst hie
      rw [hgetn]
      refine ⟨R, cR, by rw [List.getElem?_append_right (by omega), hsl]; simp, hc, ?_⟩
      exact ((hR.apart (Nat.le_refl _) hg (fun i hi => hHlt i hi)).more hg.size).less (by omega)
  · intro i j hi hj A B cA cB hij hne1 hne2 hA hB
    simp only [List.length_append, List.length_cons, List.length_nil] at hi hj
    by_cases hir : i < rs.length
    · rw [hget i hir] at hne1 hA
      rw [List.getElem?_append_left (by omega)] at hA
      by_cases hjr : j < rs.length
      · rw [hget j hjr] at hne2 hB
        rw [List.getElem?_append_left (by omega)] at hB
        exact h3.1 i j hir hjr A B cA cB hij hne1 hne2 hA hB
      · have hje : j = rs.length := by omega
        subst hje
        rw [hgetn] at hne2 hB
        rw [List.getElem?_append_right (by omega), hsl] at hB
        simp at hB
        obtain ⟨rfl, _⟩ := hB
        obtain ⟨b, o, rfl, hb1⟩ := hold i hir A cA hne1 hA
        obtain ⟨b', o', rfl, hb2, _⟩ := hnew hne2
        simp; omega
    · have hie : i = rs.length := by omega
      subst hie
      have hjr : j < rs.length := by omega
      rw [hgetn] at hne1 hA
      rw [List.getElem?_append_right (by omega), hsl] at hA
      simp at hA
      obtain ⟨rfl, _⟩ := hA
      rw [hget j hjr] at hne2 hB
      rw [List.getElem?_append_left (by omega)] at hB
      obtain ⟨b, o, rfl, hb1⟩ := hold j hjr B cB hne2 hB
      obtain ⟨b', o', rfl, hb2, _⟩ := hnew hne1
      simp; omega
  · intro i hi A cA hne hA
    simp only [List.length_append, List.length_cons, List.length_nil] at hi
    have hb2 := hb
    by_cases hir : i < rs.length
    · rw [hget i hir] at hne hA
      rw [List.getElem?_append_left (by omega)] at hA
      rcases hl with hl | hl
      · rw [hl]; exact h3.2 i hir A cA hne hA
      · obtain ⟨b, o, rfl, hb1⟩ := hold i hir A cA hne hA
        rw [hl]; simp; omega
    · have hie : i = rs.length := by omega
      subst hie
      rw [hgetn] at hne hA
      rw [List.getElem?_append_right (by omega), hsl] at hA
      simp at hA
      obtain ⟨rfl, _⟩ := hA
      obtain ⟨b, o, rfl, hb1, hb3⟩ := hnew hne
      rcases hl with hl | hl
      · intro e
        rw [hl] at e
        have := hHlt b (by rw [← e]; rfl)
        omega
      · rw [hl]; simp; omega

theorem Built.cellAt {w : World} {base c : Nat} {H : Option Addr} {hs : List Value} {rs : List (List Int)} (h : Built w base H c hs rs) {k j : Nat} (hk : k < rs.length) (hj : j < rs[k].length) :
    ∃ gH b o cR, H = some ⟨gH, 0, none⟩ ∧ w.cell? ⟨gH, k, none⟩ = some (.slice (some ⟨b, o, none⟩) rs[k].length cR) ∧ hs[k]? = some (.slice (some ⟨b, o, none⟩) rs[k].length cR) ∧ w.cell? ⟨b, o + j, none⟩ = some (.int .i64 rs[k][j]) ∧ w.frozen? ⟨b, o + j, none⟩ = false ∧ base ≤ b := by
  obtain ⟨h1, h2, h3⟩ := h
  obtain ⟨gH, rfl, _, _⟩ := own_some h1 (by omega)
  obtain ⟨R, cR, g1, g2, g3⟩ := h2.2 k hk
  obtain ⟨b, o, rfl, hb0, _, hc, hf⟩ := g3.open' (by omega) (by simp; omega)
  have ho := own_of_rowS (by decide) h1
  obtain ⟨b2, o2, e2, _, hc2⟩ := ho.open (by rw [h2.1]; omega)
  simp only [Option.some.injEq, Addr.mk.injEq, and_true] at e2
  obtain ⟨e3, e4⟩ := e2
  subst e3 e4
  exact ⟨gH, b, o, cR, rfl, by have := hc2 k _ g1; rwa [Nat.zero_add] at this, g1, ints_at hc hj, hf _, by omega⟩
theorem Built.setNum {w : World} {base c : Nat} {H : Option Addr} {hs : List Value} {rs : List (List Int)} (h : Built w base H c hs rs) {k j b o cR : Nat} {v : Int} (hk : k < rs.length) (hj : j < rs[k].length) (hh : hs[k]? = some (.slice (some ⟨b, o, none⟩) rs[k].length cR)) :
    Built (w.setCell ⟨b, o + j, none⟩ (.int .i64 v)) base H c hs (rs.set k (rs[k].set j v)) := by
  obtain ⟨hown, hgr, hap⟩ := h
  have hrk : rs[k] ≠ [] := by intro e; rw [e] at hj; simp at hj
  have hbg : some b ≠ H.map (·.block) := by
    have := hap.2 k hk _ cR hrk hh
    simpa using this
  have hsz : (w.setCell ⟨b, o + j, none⟩ (.int .i64 v)).heap.size = w.heap.size := by simp [World.setCell]
  have hlen : ∀ (i : Nat) (hi : i < rs.length), ((rs.set k (rs[k].set j v))[i]'(by simpa using hi)).length = rs[i].length := fun i hi => by
    by_cases hik : k = i
    · subst hik; rw [List.getElem_set_self, List.length_set]
    · rw [List.getElem_set_ne hik]
  have hll : (rs.set k (rs[k].set j v)).length = rs.length := List.length_set
  refine ⟨?_, ⟨by simp [hgr.1], fun i hi => ?_⟩, apart_marks hap (by simp) (fun i hi => hlen i hi)⟩
  · rw [hll]
    exact hown.kept (row := some b) (g_set (World.grownBy.refl w (some b)) (o + j) (.int .i64 v)) (.inr (by rw [slice_block]; exact fun e => hbg e.symm))
  simp only [List.length_set] at hi
  rw [hsz]
  obtain ⟨A, cA, g1, g2, g3⟩ := hgr.2 i hi
  by_cases hik : k = i
  · subst hik
    rw [g1] at hh
    simp only [Option.some.injEq, Value.slice.injEq, true_and] at hh
    obtain ⟨rfl, rfl⟩ := hh
    refine ⟨_, cA, by rw [hlen k hi]; exact g1, by rw [hlen k hi]; exact g2, ?_⟩
    rw [List.getElem_set_self, List.map_set]
    exact g3.set j _
  · refine ⟨A, cA, by rw [hlen i hi]; exact g1, by rw [hlen i hi]; exact g2, ?_⟩
    rw [List.getElem_set_ne hik]
    rcases g3 with g3 | ⟨b', o', rfl, h0, hlt, hcc, hf⟩
    · exact .inl g3
    · by_cases hx : rs[i] = []
      · exact .inl (by rw [hx]; rfl)
      · have hne := hap.1 k i hk hi _ _ cR cA hik hrk hx hh g1
        have hblk2 : (w.setCell ⟨b, o + j, none⟩ (.int .i64 v)).heap[b']? = w.heap[b']? := Below.heap_setCell _ _ _ _ (fun e => hne (by simp at e; simp [e]))
        exact .inr ⟨b', o', rfl, h0, hlt, fun j u hu => (World.cell?_of_block (a := ⟨b', o' + j, none⟩) hblk2).trans (hcc j u hu), fun h j => (World.frozen?_of_block (a := ⟨b', j, none⟩) hblk2).trans (hf h j)⟩

set_option maxRecDepth 100000 in
set_option maxHeartbeats 1000000 in
theorem listOf_cap (g p : Nat) (n low high : Int) (w : World) (hrd : Rd w g p) (hp : p ≤ 100000) (hn : n ≤ 10000) (h1 : -100000 ≤ low) (h2 : low ≤ high) (h3 : high ≤ 100000) :
    Calls Try.prog 60 #[.pointer (some ⟨g, 0, none⟩), .int .i64 n, .int .i64 low, .int .i64 high] w fun e w' => ∃ (A : Option Addr) (c : Nat) (zs : List Int),
      e = .returned (.slice A zs.length c) ∧ zs.length ≤ c ∧ zs.length = n.toNat ∧ (∀ z ∈ zs, low ≤ z ∧ z ≤ high) ∧ OwnInts w' w.heap.size w'.heap.size A zs ∧ Rd w' g (p + n.toNat) ∧ w.grownBy w' (some g) := by
  obtain ⟨i0, hi0, hz0, hz1, hz2⟩ := info_parts Try.info3
  have hgl := hrd.lt
  have hstart : (w.alloc (.cells #[] 3)).ownsRow w.heap.size 3 1 (.slice (some ⟨w.heap.size, 0, none⟩) 0 0) 0 [] := World.ownsRow_lit w #[] 0 (Nat.le_refl _) (by simp [maxLen]) rfl
  have hga : w.grownBy (w.alloc (.cells #[] 3)) (some g) := World.grownBy_alloc w _ _
  have hrda : Rd (w.alloc (.cells #[] 3)) g p := hrd.own (World.grownBy_alloc w _ none) (by simp)
  go_enter Try.func60, Try.ntmps60
  go_wp2
  go_loopw [9] (fun v wr => ∃ (A : Option Addr) (c : Nat) (zs : List Int), v = .slice A zs.length c ∧ zs.length ≤ n.toNat ∧ (∀ z ∈ zs, low ≤ z ∧ z ≤ high) ∧
      wr.ownsRow w.heap.size 3 1 (.slice A zs.length c) zs.length (zs.map (Value.int .i64)) ∧ Rd wr g (p + zs.length) ∧ w.grownBy wr (some g))
    (fun v _ => n.toNat - (match v with | .slice _ m _ => m | _ => 0))
  case atStart => exact ⟨_, _, [], rfl, by simp, by simp, hstart, hrda, hga⟩
  case round =>
    obtain ⟨A, c, zs, rfl, hk, hall, hown, hrdr, hgr⟩ := hrel
    clear hstart hga hrda
    have HA := Lib.hid hall; clear hall
    by_cases hlt : (zs.length : Int) < n
    · go_wp2_with fail
      refine (pick_any g _ _ _ hrdr (by omega) (by omega)).mono ?_
      rintro e w1 ⟨k, rfl, hkb, hrd1, hg1⟩
      have hk0 := hkb.1
      have hk1 := hkb.2 (by omega)
      have hown1 := hown.kept hg1 (own_ne hown hgl)
      have hgr1 := grown_trans hgr hg1
      clear hown hgr hg1 hrdr
      go_wp2_with (at_builtin; refine wpList_push rfl (.tmp 15) (.tmp 24) 27 rfl i0 (.int .i64 0) 8 Try.underlying27 hi0 hz0 hz1 hz2 rfl (by decide) _ _ rfl hown1 [.int .i64 (low + k)] rfl rfl (by simp [Value.oneCell']) (by omega) (by omega) hgr1.size ?_)
      intro A' c' w2 hown2 hg2
      have hrd2 := hrd1.own hg2 (fun i hi => by have := (hown1.lt _ hi).1; omega)
      have hgr2 := grown_own hgr1 hg2 (fun i hi => (hown1.lt _ hi).1)
      clear hown1 hgr1 hg2 hrd1
      go_wp2
      go_roundw
      case rel =>
        refine ⟨A', c', zs ++ [low + k], by simp, by simp; omega, fun z hz => ?_, by simpa using hown2, ?_, hgr2⟩
        · rcases List.mem_append.1 hz with hz | hz
          · exact HA.out z hz
          · simp at hz; omega
        · rw [List.length_append]; exact hrd2
      case measure => simp; omega
    · go_wp2
      go_ret
      have hn' : zs.length = n.toNat := by omega
      obtain ⟨A1, c1, hv, _, ho⟩ := own_of_row hown
      simp only [Value.slice.injEq] at hv
      obtain ⟨rfl, _, rfl⟩ := hv
      exact ⟨A, c, zs, rfl, own_cap hown, hn', HA.out, ho, by rw [← hn']; exact hrdr, hgr⟩

theorem Built.lessB {w : World} {base base2 c : Nat} {H : Option Addr} {hs : List Value} {rs : List (List Int)} (h : Built w base H c hs rs) (hb : base2 ≤ base) : Built w base2 H c hs rs := by
  obtain ⟨⟨h0, h1⟩, h2, h3⟩ := h
  refine ⟨⟨h0, ?_⟩, h2.less (by omega), h3⟩
  rcases h1 with h1 | ⟨g, cap, cur, hv, hg, hx⟩
  · exact .inl h1
  · exact .inr ⟨g, cap, cur, hv, by omega, hx⟩
/-- Rows of n small numbers. -/
def RowsN (n : Nat) (rs : List (List Int)) : Prop := ∀ r ∈ rs, r.length = n ∧ ∀ z ∈ r, 0 ≤ z ∧ z ≤ 20
theorem RowsN.push {n : Nat} {rs : List (List Int)} {r : List Int} (h : RowsN n rs) (hr : r.length = n) (hz : ∀ z ∈ r, 0 ≤ z ∧ z ≤ 20) : RowsN n (rs ++ [r]) := fun x hx => by
  rcases List.mem_append.1 hx with hx | hx
  · exact h x hx
  · simp at hx; rw [hx]; exact ⟨hr, hz⟩
theorem RowsN.mat {n : Nat} {rs : List (List Int)} (h : RowsN n rs) (hn : rs.length = n) : rs = mat n (cellOf rs) ∧ Bd n (cellOf rs) := by
  refine ⟨by have := rows_mat (rs := rs) (fun i hi => by rw [hn]; exact (h _ (List.getElem_mem hi)).1); rwa [hn] at this, fun i k hi hk => ?_⟩
  have hi2 : i < rs.length := by omega
  have h1 := h _ (List.getElem_mem hi2)
  have hk2 : k < rs[i].length := by omega
  have h2 := h1.2 _ (List.getElem_mem hk2)
  rw [cellOf, getD_row hi2, getD_get hk2]
  omega
def RtDrawn (w : World) (g p : Nat) (e : Ending) (w' : World) : Prop := ∃ (A : Option Addr) (c : Nat) (rs : List (List Int)),
      e = .returned (.slice A rs.length c) ∧ (1 ≤ rs.length ∧ rs.length ≤ 6) ∧ rs.length ≤ c ∧ Lens 5 rs ∧ MGrid w' w.heap.size w'.heap.size A rs ∧ (∃ q, q ≤ p + 40 ∧ Rd w' g q) ∧ w.grownBy w' (some g)
theorem RtDrawn.of {w w' : World} {g p q c : Nat} {H : Option Addr} {hs : List Value} {rs : List (List Int)} (h : Built w' w.heap.size H c hs rs) (h1 : 1 ≤ rs.length ∧ rs.length ≤ 6) (hl : Lens 5 rs) (hq : q ≤ p + 40) (hr : Rd w' g q) (hg : w.grownBy w' (some g)) : RtDrawn w g p (.returned (.slice H rs.length c)) w' :=
  ⟨H, c, rs, rfl, h1, h.cap, hl, h.mgrid, ⟨q, hq, hr⟩, hg⟩

set_option maxRecDepth 100000 in
set_option maxHeartbeats 8000000 in
theorem someRates_any (g p : Nat) (w : World) (hrd : Rd w g p) (hp : p ≤ 1000) :
    Calls Try.prog 54 #[.pointer (some ⟨g, 0, none⟩)] w (RtDrawn w g p) := by
  obtain ⟨i0, hi0, hz0, hz1, hz2⟩ := info_parts Try.infoR
  have hgl := hrd.lt
  go_enter Try.func54, Try.ntmps54
  go_wp2_with fail
  refine (one_lit g p w hrd (by omega) [3, 4, 2, 5, 1] (by decide) (by decide) 5 rfl _ rfl).mono ?_
  rintro e w1 ⟨n, rfl, hn, hrd1, hg1⟩
  have hnb : 1 ≤ n ∧ n ≤ 5 := by simp at hn; omega
  obtain ⟨N, rfl⟩ := Int.eq_ofNat_of_zero_le (show 0 ≤ n by omega)
  have hN1 : 1 ≤ N := by omega
  have hN5 : N ≤ 5 := by omega
  clear hn hnb hrd
  go_wp2_with fail
  refine (one_lit g _ w1 hrd1 (by omega) [9, 20, 4] (by decide) (by decide) 3 rfl _ rfl).mono ?_
  rintro e w2 ⟨most, rfl, hm, hrd2, hg2⟩
  have hmb : 4 ≤ most ∧ most ≤ 20 := by simp at hm; omega
  obtain ⟨hm4, hm20⟩ := hmb
  have hg12 := grown_trans hg1 hg2
  have hz12 := hg12.size
  have HST := Lib.hid (And.intro (Built.start w2 w.heap.size hz12) (And.intro (hrd2.own (World.grownBy_alloc w2 (.cells #[] 27) none) (by simp)) (grown_trans hg12 (World.grownBy_alloc w2 (.cells #[] 27) (some g)))))
  clear hm hg1 hg2 hrd1 hrd2 hg12
  go_wp2_with fail
  go_loopw [5] (fun v wr => ∃ (H : Option Addr) (c : Nat) (hs : List Value) (rs : List (List Int)) (q : Nat), v = .slice H rs.length c ∧ rs.length ≤ N ∧ q ≤ p + 2 + 5 * rs.length ∧ Hid (RowsN N rs) ∧ Hid (Built wr w.heap.size H c hs rs) ∧ Hid (Rd wr g q) ∧ Hid (w.grownBy wr (some g)))
    (fun v _ => N - (match v with | .slice _ m _ => m | _ => 0))
  case atStart => exact ⟨_, 0, [], [], p + 2, rfl, by simp, by simp, Lib.hid (fun r hr => by simp at hr), Lib.hid HST.out.1, Lib.hid HST.out.2.1, Lib.hid HST.out.2.2⟩
  case round =>
    obtain ⟨H, c, hs, rs, q, rfl, hl, hq, HROW, HBU, HRD, HGR⟩ := hrel
    clear HST
    have hgz := HGR.out.size
    obtain ⟨s, hs0⟩ : ∃ s, rs.length = s := ⟨_, rfl⟩
    have HS0 := Lib.hid hs0
    rw [hs0] at hl hq ⊢
    clear hs0
    by_cases hlt : s < N
    · have hdlt : decide ((s : Int) < (N : Int)) = true := decide_eq_true (by omega)
      go_wp2_with fail
      refine (listOf_cap g q (N : Int) 0 most wr HRD.out (by omega) (by omega) (by omega) (by omega) (by omega)).mono ?_
      rintro e w3 ⟨A3, c3, zs, rfl, hcap3, hzl, hzb, ho3, hrd3, hg3⟩
      rw [Int.toNat_natCast] at hzl hrd3
      have hb3 := HBU.out.apart hg3 (fun i hi => by injection hi with hi; omega)
      have hz3 := hg3.size
      have hown := hb3.1
      rw [HS0.out] at hown
      have HZ := Lib.hid (And.intro hcap3 (And.intro hzl hzb))
      have H3 := Lib.hid (And.intro hb3 (And.intro ho3 (And.intro hrd3 (grown_trans HGR.out hg3))))
      clear hb3 ho3 hrd3 hg3 hzb hcap3
      rw [hzl]
      go_wp2_with (at_builtin; refine wpList_push_at rfl (.tmp 17) (.tmp 22) 22 rfl i0 (.slice none 0 0) 24 Try.underlying22 hi0 hz0 hz1 hz2 rfl (by decide) _ _ rfl hown [.slice A3 N c3] rfl rfl (by simp [Value.oneCell']) (by omega) (by omega) (by omega) ?_)
      intro H' c' w4 hown4 hg4 hat4
      have hb4 := Built.push2 (R := A3) (cR := c3) (r := zs) (H' := H') (c' := c') HBU.out hgz H3.out.1 hz3 H3.out.2.1 HZ.out.1 (by rw [HS0.out, HZ.out.2.1]; exact hown4) (by rw [HS0.out]; exact hg4) (by rcases hat4 with h | h; exact .inl h; exact .inr (by simpa using h))
      have hrd4 := H3.out.2.2.1.own hg4 (fun i hi => by have := (hown.lt _ hi).1; omega)
      have hgr4 := grown_own H3.out.2.2.2 hg4 (fun i hi => (hown.lt _ hi).1)
      have hks : s < (rs ++ [zs]).length := by rw [List.length_append, HS0.out]; simp
      have hrk : (rs ++ [zs])[s] = zs := by simp only [← HS0.out]; simp
      have hjs : s < ((rs ++ [zs])[s]).length := by rw [hrk, hzl]; exact hlt
      obtain ⟨gH, b, o, cR, rfl, k1, k2, k3, k4, k5⟩ := hb4.cellAt hks hjs
      have hset := hb4.setNum (v := 0) hks hjs k2
      rw [hrk] at hset
      have hlz : ((rs ++ [zs])[s]).length = N := by rw [hrk, hzl]
      rw [hlz] at k1
      have hsz4 := hg4.size
      have HF := Lib.hid (And.intro hset (And.intro (hrd4.own (g_set (World.grownBy.refl w4 (some b)) (o + s) (.int .i64 0)) (fun i hi => by injection hi with hi; omega)) (grown_own hgr4 (g_set (World.grownBy.refl w4 (some b)) (o + s) (.int .i64 0)) (fun i hi => by injection hi with hi; omega))))
      obtain ⟨y, hy⟩ : ∃ y, ((rs ++ [zs])[s])[s] = y := ⟨_, rfl⟩
      rw [hy] at k3
      have hw : IntKind.i64.wrap ((s : Int) + 1 - 1) = (s : Int) := by rw [Int.add_sub_cancel]; exact IntWalk.i64_in _ (by omega)
      have hs0 : (0 : Int) ≤ s := by omega
      have hsN : (s : Int) < N := by omega
      clear hown hown4 hg4 hat4 hb4 hrd4 hgr4 hset hy hks hrk hjs hlz k2 k5 hdlt
      go_wp2_with fail
      go_roundw
      case rel => exact ⟨some ⟨gH, 0, none⟩, c', hs ++ [.slice A3 zs.length c3], (rs ++ [zs]).set s (zs.set s 0), q + N, by rw [List.length_set]; simp [HS0.out], by rw [List.length_set]; simp [HS0.out]; omega, by rw [List.length_set]; simp [HS0.out]; omega, Lib.hid (fun x hx => by
          rcases List.mem_or_eq_of_mem_set hx with hx | rfl
          · exact HROW.out.push HZ.out.2.1 (fun z hz => by have := HZ.out.2.2 z hz; omega) x hx
          · refine ⟨by rw [List.length_set]; exact HZ.out.2.1, fun z hz => ?_⟩
            rcases List.mem_or_eq_of_mem_set hz with hz | rfl
            · have := HZ.out.2.2 z hz; omega
            · omega), Lib.hid HF.out.1, Lib.hid HF.out.2.1, Lib.hid HF.out.2.2⟩
      case measure => simp; omega
    · have hsN : s = N := by omega
      subst hsN
      have hdlt : decide ((s : Int) < (s : Int)) = false := by simp
      have hmat := HROW.out.mat HS0.out
      have HMAT := Lib.hid hmat
      clear hmat
      go_wp2_with fail
      refine (pick_any g _ 3 _ HRD.out (by omega) (by omega)).mono ?_
      rintro e w3 ⟨y, rfl, hy, hrd3, hg3⟩
      have hb3 := HBU.out.apart hg3 (fun i hi => by injection hi with hi; omega)
      have hz3 := hg3.size
      have hgr3 := grown_trans HGR.out hg3
      have hLR : ∀ r ∈ rs, r.length = s := fun r hr => (HROW.out r hr).1
      have H3 := Lib.hid (And.intro hb3 (And.intro hgr3 hLR))
      clear hy hg3 hb3 hgr3 hLR HGR HRD hdlt
      rcases Decidable.em (y = 0) with hy0 | hy0
      case' inl =>
        have hye : (y == 0) = true := by simp [hy0]
        have hgrid : Grid w3 0 w3.heap.size H (mat s (cellOf rs)) := by rw [← HMAT.out.1]; exact H3.out.1.mgrid.row
        have HCH := Lib.hid (cheapest_built H c s (cellOf rs) w3 hgrid HMAT.out.2 hN1 hN5)
        clear hy0 hgrid
        go_wp2_with fail
        refine HCH.out.mono ?_
        rintro e w4 ⟨H2, c2, hs2, rfl, hb4, hbel⟩
        rw [mat_len]
        obtain ⟨V, hV⟩ : ∃ V, mat s (fw7 s (cellOf rs)) = V := ⟨_, rfl⟩
        rw [hV] at hb4
        have HV := Lib.hid (And.intro (show V.length = s by rw [← hV, mat_len]) (show ∀ r ∈ V, r.length = s by rw [← hV]; exact fun r hr => mat_rows hr))
        have hg4 := grown_of_below hbel
        have hrd4 := hrd3.own hg4 (by simp)
        have hz4 := hbel.size
        have HX := Lib.hid (And.intro (hb4.lessB (show w.heap.size ≤ w3.heap.size by omega)) (And.intro hrd4 (grown_own H3.out.2.1 hg4 (by simp))))
        clear hb4 hbel hV hg4 hrd4 hye hrd3
      case' inr =>
        have hye : (y == 0) = false := by simpa using hy0
        obtain ⟨V, hV⟩ : ∃ V, V = rs := ⟨_, rfl⟩
        obtain ⟨H2, hH2⟩ : ∃ H2, H2 = H := ⟨_, rfl⟩
        obtain ⟨c2, hc2⟩ : ∃ c2, c2 = c := ⟨_, rfl⟩
        obtain ⟨hs2, hhs2⟩ : ∃ hs2, hs2 = hs := ⟨_, rfl⟩
        obtain ⟨w4, hw4⟩ : ∃ w4 : World, w4 = w3 := ⟨_, rfl⟩
        subst hV hH2 hc2 hhs2 hw4
        have HV := Lib.hid (And.intro HS0.out H3.out.2.2)
        have HX := Lib.hid (And.intro H3.out.1 (And.intro hrd3 H3.out.2.1))
        have hz4 : w4.heap.size ≤ w4.heap.size := Nat.le_refl _
        clear hy0 hrd3
      all_goals
        go_wp2_with fail
        refine (pick_any g _ 30 _ HX.out.2.1 (by omega) (by omega)).mono ?_
        rintro e w5 ⟨x, rfl, hx, hrd5, hg5⟩
        have hb5 := HX.out.1.apart hg5 (fun i hi => by injection hi with hi; omega)
        have hgr5 := grown_trans HX.out.2.2 hg5
        have hz5 := hgr5.size
        have HVL := Lib.hid HV.out.1
        have HLE := Lib.hid (show Lens 5 V from fun r hr => by rw [HV.out.2 r hr]; omega)
        clear hx hg5
        by_cases hx0 : x = 0
        · have hxe : (x == 0) = true := by simp [hx0]
          have h0V : 0 < V.length := by rw [HVL.out]; omega
          have hr0 : V[0].length = s := HV.out.2 _ (List.getElem_mem h0V)
          have h00 : 0 < V[0].length := by omega
          obtain ⟨gH, b, o, cR, rfl, k1, k2, k3, k4, k5⟩ := hb5.cellAt h0V h00
          have hset := hb5.setNum (v := 1) h0V h00 k2
          rw [hr0] at k1
          obtain ⟨z, hz⟩ : ∃ z, V[0][0] = z := ⟨_, rfl⟩
          rw [hz] at k3
          rw [Nat.add_zero] at k3 k4 hset
          have hfin := RtDrawn.of (p := p) (q := q + 1 + 1) hset (by rw [List.length_set, HVL.out]; omega) (HLE.out.set (by rw [List.length_set, hr0]; exact hN5)) (by omega) (hrd5.own (g_set (World.grownBy.refl w5 (some b)) o (.int .i64 1)) (fun i hi => by injection hi with hi; omega)) (grown_own hgr5 (g_set (World.grownBy.refl w5 (some b)) o (.int .i64 1)) (fun i hi => by injection hi with hi; omega))
          rw [List.length_set, HVL.out] at hfin
          have HFIN := Lib.hid hfin
          have hs0 : (0 : Int) < s := by omega
          clear hfin hset k2 k5 hz h00 hr0 h0V hb5 hgr5 hrd5 hx0
          go_wp2_with fail
          go_ret
          exact HFIN.out
        · by_cases hx1 : x = 1
          · have hxe : (x == 0) = false := by simpa using hx0
            have hxf : (x == 1) = true := by simpa using hx1
            have hbel : Below w5.heap.size w5 (w5.alloc (.cells #[.int .i64 0] 3)) := (Below.refl _ _).alloc (Nat.le_refl _) _
            have hb6 := hb5.keep hbel
            have hR : OwnInts (w5.alloc (.cells #[.int .i64 0] 3)) w5.heap.size (w5.alloc (.cells #[.int .i64 0] 3)).heap.size (some ⟨w5.heap.size, 0, none⟩) [0] :=
              own_block (e := 3) (heap_alloc_new w5 _) (Nat.le_refl _)
            have hown6 := hb6.1
            rw [HVL.out] at hown6
            have H6 := Lib.hid (And.intro hb5 (And.intro hbel hR))
            have hrd6 := hrd5.own (World.grownBy_alloc w5 (.cells #[.int .i64 0] 3) none) (by simp)
            have hgr6 := grown_trans hgr5 (World.grownBy_alloc w5 (.cells #[.int .i64 0] 3) (some g))
            clear hb5 hb6 hbel hR hrd5 hgr5 hx0 hx1
            go_wp2_with (at_builtin; refine wpList_push_in rfl (.tmp 49) (.tmp 51) 22 rfl i0 (.slice none 0 0) 24 Try.underlying22 hi0 hz0 hz1 hz2 rfl (by decide) _ _ rfl hown6 [.slice (some ⟨w5.heap.size, 0, none⟩) 1 1] rfl _ (World.size_alloc _ _).symm rfl (by simp [Value.oneCell']) (by omega) (by omega) (by simp; omega) ?_)
            intro H7 c7 w7 hown7 hg7 hat7
            have hb7 := H6.out.1.push hz5 H6.out.2.1 (r := [0]) (cR := 1) H6.out.2.2 (by simp) (by rw [HVL.out]; exact hown7) (by rw [HVL.out]; exact hg7) (hat7.imp id (fun h => by simpa using h))
            have hfin := RtDrawn.of (p := p) (q := q + 1 + 1) hb7 (by rw [List.length_append, HVL.out, List.length_singleton]; omega) (HLE.out.push (by simp)) (by omega) (hrd6.own hg7 (fun i hi => by have := (hown6.lt _ hi).1; omega)) (grown_own hgr6 hg7 (fun i hi => (hown6.lt _ hi).1))
            rw [List.length_append, HVL.out] at hfin
            have HFIN := Lib.hid hfin
            clear hfin hb7 hown6 hown7 hg7 hat7 hrd6 hgr6
            go_wp2_with fail
            go_ret
            exact HFIN.out
          · have hxe : (x == 0) = false := by simpa using hx0
            have hxf : (x == 1) = false := by simpa using hx1
            have hfin := RtDrawn.of (p := p) (q := q + 1 + 1) hb5 (by rw [HVL.out]; omega) HLE.out (by omega) hrd5 hgr5
            rw [HVL.out] at hfin
            have HFIN := Lib.hid hfin
            clear hfin hb5 hgr5 hrd5 hx0 hx1
            go_wp2_with fail
            go_ret
            exact HFIN.out
end Go.Proofs.Ytmbpcilgjolaeaa
