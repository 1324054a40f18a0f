/- A row put behind rows, made by a call that also wrote the reader. No condition. -/
import Derived.Test.YtonnffilcmlodabG6
import Derived.Test.YtonnffilcmlodabRd2
namespace Go.Proofs.Ytonnffilcmlodab
open Go.RowKit

theorem Built.push2 {w1 w2 w3 : World} {base : Nat} {H H' R : Option Addr} {c c' cR : Nat} {hs : List Value} {rs : List (List Int)} {r : List Int}
    (h : Built w1 base H c hs rs) (hbase : base ≤ w1.heap.size) (h' : Built w2 base H c hs rs) (hb : w1.heap.size ≤ w2.heap.size) (hR : OwnInts w2 w1.heap.size w2.heap.size R r) (hc : r.length ≤ cR)
    (hown : w3.ownsRow base 23 1 (.slice H' (rs.length + 1) c') (rs.length + 1) (hs ++ [.slice R r.length cR])) (hg : w2.grownBy w3 (Value.slice H rs.length c).ownBlock)
    (hl : H'.map (·.block) = H.map (·.block) ∨ H'.map (·.block) = some (w2.heap.size + 1)) : Built w3 base H' c' (hs ++ [.slice R r.length cR]) (rs ++ [r]) := by
  obtain ⟨h1, h2, h3⟩ := h
  have hHlt : ∀ i, H.map (·.block) = some i → i < w1.heap.size := fun i hi => (h1.lt i (by rw [slice_block]; exact hi)).2
  rw [slice_block] at hg
  have hold : ∀ (i : Nat) (hi : i < rs.length) (A : Option Addr) (cA : Nat), rs[i] ≠ [] → hs[i]? = some (.slice A rs[i].length cA) → ∃ b o, A = some ⟨b, o, none⟩ ∧ b < w1.heap.size := by
    intro i hi A cA hne hA
    obtain ⟨A', c2, g1, _, g3⟩ := h2.2 i hi
    rw [g1] at hA
    simp only [Option.some.injEq, Value.slice.injEq] at hA
    obtain ⟨rfl, _, _⟩ := hA
    obtain ⟨b, o, hA2, hlt, _⟩ := g3.open (by simp; exact List.length_pos_iff.2 hne)
    exact ⟨b, o, hA2, hlt⟩
  have hnew : r ≠ [] → ∃ b o, R = some ⟨b, o, none⟩ ∧ w1.heap.size ≤ b ∧ b < w2.heap.size := by
    intro hne
    obtain ⟨b, o, hA2, h0, hlt, _⟩ := hR.open' (by omega) (by simp; exact List.length_pos_iff.2 hne)
    exact ⟨b, o, hA2, by omega, hlt⟩
  have hget : ∀ (i : Nat) (hi : i < rs.length), (rs ++ [r])[i]'(by simp; omega) = rs[i] := fun i hi => List.getElem_append_left hi
  have hgetn : (rs ++ [r])[rs.length]'(by simp) = r := by simp
  have hsl : hs.length = rs.length := h2.1
  refine ⟨by simpa using hown, ⟨by simp [hsl], fun i hi => ?_⟩, ?_, ?_⟩
  · simp only [List.length_append, List.length_cons, List.length_nil] at hi
    by_cases hir : i < rs.length
    · obtain ⟨A, c2, g1, g2, g3⟩ := h2.2 i hir
      rw [hget i hir]
      refine ⟨A, c2, by rw [List.getElem?_append_left (by omega)]; exact g1, g2, ?_⟩
      obtain ⟨A', c2', g1', _, g4⟩ := h'.2.1.2 i hir
      rw [g1] at g1'
      simp only [Option.some.injEq, Value.slice.injEq] at g1'
      obtain ⟨rfl, _, rfl⟩ := g1'
      by_cases hne : rs[i] = []
      · exact .inl (by rw [hne]; rfl)
      · obtain ⟨b, o, rfl, hblt⟩ := hold i hir A c2 hne g1
        have hap := h3.2 i hir _ c2 hne g1
        have hb2 := hb
        rcases g4 with g4 | ⟨b', o', hA, k0, klt, kc, kf⟩
        · exact .inl g4
        · simp only [Option.some.injEq, Addr.mk.injEq, and_true] at hA
          obtain ⟨rfl, rfl⟩ := hA
          have hbl := hg.block b (by omega) (fun e => hap e.symm.symm)
          exact .inr ⟨b, o, rfl, k0, by have := hg.size; omega, fun j u hu => (World.cell?_of_block (a := ⟨b, o + j, none⟩) hbl).trans (kc j u hu), fun h j => (World.frozen?_of_block (a := ⟨b, j, none⟩) hbl).trans (kf h j)⟩
    · have hie : i = rs.length := by omega
      subst hie
      rw [hgetn]
      refine ⟨R, cR, by rw [List.getElem?_append_right (by omega), hsl]; simp, hc, ?_⟩
      exact ((hR.apart (Nat.le_refl _) hg (fun i hi => hHlt i hi)).more hg.size).less (by omega)
  · intro i j hi hj A B cA cB hij hne1 hne2 hA hB
    simp only [List.length_append, List.length_cons, List.length_nil] at hi hj
    by_cases hir : i < rs.length
    · rw [hget i hir] at hne1 hA
      rw [List.getElem?_append_left (by omega)] at hA
      by_cases hjr : j < rs.length
      · rw [hget j hjr] at hne2 hB
        rw [List.getElem?_append_left (by omega)] at hB
        exact h3.1 i j hir hjr A B cA cB hij hne1 hne2 hA hB
      · have hje : j = rs.length := by omega
        subst hje
        rw [hgetn] at hne2 hB
        rw [List.getElem?_append_right (by omega), hsl] at hB
        simp at hB
        obtain ⟨rfl, _⟩ := hB
        obtain ⟨b, o, rfl, hb1⟩ := hold i hir A cA hne1 hA
        obtain ⟨b', o', rfl, hb2, _⟩ := hnew hne2
        simp; omega
    · have hie : i = rs.length := by omega
      subst hie
      have hjr : j < rs.length := by omega
      rw [hgetn] at hne1 hA
      rw [List.getElem?_append_right (by omega), hsl] at hA
      simp at hA
      obtain ⟨rfl, _⟩ := hA
      rw [hget j hjr] at hne2 hB
      rw [List.getElem?_append_left (by omega)] at hB
      obtain ⟨b, o, rfl, hb1⟩ := hold j hjr B cB hne2 hB
      obtain ⟨b', o', rfl, hb2, _⟩ := hnew hne1
      simp; omega
  · intro i hi A cA hne hA
    simp only [List.length_append, List.length_cons, List.length_nil] at hi
    have hb2 := hb
    by_cases hir : i < rs.length
    · rw [hget i hir] at hne hA
      rw [List.getElem?_append_left (by omega)] at hA
      rcases hl with hl | hl
      · rw [hl]; exact h3.2 i hir A cA hne hA
      · obtain ⟨b, o, rfl, hb1⟩ := hold i hir A cA hne hA
        rw [hl]; simp; omega
    · have hie : i = rs.length := by omega
      subst hie
      rw [hgetn] at hne hA
      rw [List.getElem?_append_right (by omega), hsl] at hA
      simp at hA
      obtain ⟨rfl, _⟩ := hA
      obtain ⟨b, o, rfl, hb1, hb3⟩ := hnew hne
      rcases hl with hl | hl
      · intro e
        rw [hl] at e
        have := hHlt b (by rw [← e]; rfl)
        omega
      · rw [hl]; simp; omega

set_option maxRecDepth 100000 in
set_option maxHeartbeats 1000000 in
theorem listOf_cap (g p : Nat) (n low high : Int) (w : World) (hrd : Rd w g p) (hp : p ≤ 100000) (hn : n ≤ 10000) (h1 : -100000 ≤ low) (h2 : low ≤ high) (h3 : high ≤ 100000) :
    Calls Try.prog 27 #[.pointer (some ⟨g, 0, none⟩), .int .i64 n, .int .i64 low, .int .i64 high] w fun e w' => ∃ (A : Option Addr) (c : Nat) (zs : List Int),
      e = .returned (.slice A zs.length c) ∧ zs.length ≤ c ∧ zs.length = n.toNat ∧ (∀ z ∈ zs, low ≤ z ∧ z ≤ high) ∧ OwnInts w' w.heap.size w'.heap.size A zs ∧ Rd w' g (p + n.toNat) ∧ w.grownBy w' (some g) := by
  obtain ⟨i0, hi0, hz0, hz1, hz2⟩ := info_parts Try.info3
  have hgl := hrd.lt
  have hstart : (w.alloc (.cells #[] 3)).ownsRow w.heap.size 3 1 (.slice (some ⟨w.heap.size, 0, none⟩) 0 0) 0 [] := World.ownsRow_lit w #[] 0 (Nat.le_refl _) (by simp [maxLen]) rfl
  have hga : w.grownBy (w.alloc (.cells #[] 3)) (some g) := World.grownBy_alloc w _ _
  have hrda : Rd (w.alloc (.cells #[] 3)) g p := hrd.own (World.grownBy_alloc w _ none) (by simp)
  go_enter Try.func27, Try.ntmps27
  go_wp2
  go_loopw [9] (fun v wr => ∃ (A : Option Addr) (c : Nat) (zs : List Int), v = .slice A zs.length c ∧ zs.length ≤ n.toNat ∧ (∀ z ∈ zs, low ≤ z ∧ z ≤ high) ∧
      wr.ownsRow w.heap.size 3 1 (.slice A zs.length c) zs.length (zs.map (Value.int .i64)) ∧ Rd wr g (p + zs.length) ∧ w.grownBy wr (some g))
    (fun v _ => n.toNat - (match v with | .slice _ m _ => m | _ => 0))
  case atStart => exact ⟨_, _, [], rfl, by simp, by simp, hstart, hrda, hga⟩
  case round =>
    obtain ⟨A, c, zs, rfl, hk, hall, hown, hrdr, hgr⟩ := hrel
    clear hstart hga hrda
    have HA := Lib.hid hall; clear hall
    by_cases hlt : (zs.length : Int) < n
    · go_wp2_with fail
      refine (pick_any g _ _ _ hrdr (by omega) (by omega)).mono ?_
      rintro e w1 ⟨k, rfl, hkb, hrd1, hg1⟩
      have hk0 := hkb.1
      have hk1 := hkb.2 (by omega)
      have hown1 := hown.kept hg1 (own_ne hown hgl)
      have hgr1 := grown_trans hgr hg1
      clear hown hgr hg1 hrdr
      go_wp2_with (at_builtin; refine wpList_push rfl (.tmp 15) (.tmp 24) 23 rfl i0 (.int .i64 0) 8 Try.underlying23 hi0 hz0 hz1 hz2 rfl (by decide) _ _ rfl hown1 [.int .i64 (low + k)] rfl rfl (by simp [Value.oneCell']) (by omega) (by omega) hgr1.size ?_)
      intro A' c' w2 hown2 hg2
      have hrd2 := hrd1.own hg2 (fun i hi => by have := (hown1.lt _ hi).1; omega)
      have hgr2 := grown_own hgr1 hg2 (fun i hi => (hown1.lt _ hi).1)
      clear hown1 hgr1 hg2 hrd1
      go_wp2
      go_roundw
      case rel =>
        refine ⟨A', c', zs ++ [low + k], by simp, by simp; omega, fun z hz => ?_, by simpa using hown2, ?_, hgr2⟩
        · rcases List.mem_append.1 hz with hz | hz
          · exact HA.out z hz
          · simp at hz; omega
        · rw [List.length_append]; exact hrd2
      case measure => simp; omega
    · go_wp2
      go_ret
      have hn' : zs.length = n.toNat := by omega
      obtain ⟨A1, c1, hv, _, ho⟩ := own_of_row hown
      simp only [Value.slice.injEq] at hv
      obtain ⟨rfl, _, rfl⟩ := hv
      exact ⟨A, c, zs, rfl, own_cap hown, hn', HA.out, ho, by rw [← hn']; exact hrdr, hgr⟩
end Go.Proofs.Ytonnffilcmlodab
