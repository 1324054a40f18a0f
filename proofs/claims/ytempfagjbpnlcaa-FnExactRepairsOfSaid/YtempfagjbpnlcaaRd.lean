/- The reader that draws numbers from bytes: contracts of its methods. No condition. -/
import Derived.Test.YtempfagjbpnlcaaRows
import Derived.Test.YtempfagjbpnlcaaAid
import Derived.Outline
namespace Go.Proofs.Ytempfagjbpnlcaa
open Go.RowKit

/-- The reader in block g stands at place p, over bytes that lie below its own block. -/
def Rd (w : World) (g p : Nat) : Prop :=
  ∃ (A : Option Addr) (bs : List Int) (c : Nat), w.heap[g]? = some (.cells #[.slice A bs.length c, .int .i64 p] 62 (0, 0)) ∧
    Own w 0 g A (bs.map (Value.int .u8)) ∧ (∀ b ∈ bs, 0 ≤ b ∧ b ≤ 255) ∧ bs.length ≤ 2000

def Between (k n : Int) : Prop := 0 ≤ k ∧ (1 ≤ n → k < n)

theorem Rd.lt {w : World} {g p : Nat} (h : Rd w g p) : g < w.heap.size := by
  obtain ⟨A, bs, c, h, _⟩ := h
  rcases Nat.lt_or_ge g w.heap.size with hlt | hge
  · exact hlt
  · rw [Array.getElem?_eq_none hge] at h; cases h

theorem byte_at {w : World} {b o : Nat} {zs : List Int} (hc : ∀ j u, (zs.map (Value.int .u8))[j]? = some u → w.cell? ⟨b, o + j, none⟩ = some u) (hv : ∀ b ∈ zs, 0 ≤ b ∧ b ≤ 255) (k : Nat) (hk : k < zs.length) :
    ∃ x : Int, w.cell? ⟨b, o + k, none⟩ = some (.int .u8 x) ∧ 0 ≤ x ∧ x ≤ 255 :=
  ⟨zs[k], hc k _ (by simp [List.getElem?_map, List.getElem?_eq_getElem hk]), hv _ (List.getElem_mem hk)⟩

theorem xor_nonneg (a b : Int) (ha : 0 ≤ a) (ha' : a < 9223372036854775808) (hb : 0 ≤ b) (hb' : b < 9223372036854775808) : 0 ≤ bits .xor .i64 a b := by
  obtain ⟨x, rfl⟩ := Int.eq_ofNat_of_zero_le ha
  obtain ⟨y, rfl⟩ := Int.eq_ofNat_of_zero_le hb
  have hxy : x ^^^ y < 2 ^ 63 := Nat.xor_lt_two_pow (by omega) (by omega)
  have e : ∀ n : Nat, n < 9223372036854775808 → (BitVec.ofInt 64 (n : Int)).toNat = n := fun n hn => by
    rw [BitVec.ofInt_natCast, BitVec.toNat_ofNat]; exact Nat.mod_eq_of_lt (by omega)
  show 0 ≤ IntKind.i64.wrap ((BitVec.ofInt 64 (x : Int) ^^^ BitVec.ofInt 64 (y : Int)).toNat : Int)
  rw [BitVec.toNat_xor, e x (by omega), e y (by omega), IntKind.wrap_i64]
  omega

set_option maxRecDepth 100000 in
set_option maxHeartbeats 2000000 in
theorem pick_any (g p : Nat) (n : Int) (w : World) (hrd : Rd w g p) (hp : p ≤ 1000000) (hn : n ≤ 1000000000) :
    Calls Try.prog 46 #[.pointer (some ⟨g, 0, none⟩), .int .i64 n] w fun e w' => ∃ k : Int, e = .returned (.int .i64 k) ∧ Between k n ∧ Rd w' g (p + 1) ∧ w.grownBy w' (some g) := by
  obtain ⟨A, bs, c, hg, hrow, hv, hm⟩ := hrd
  have h0 : w.cell? ⟨g, 0, none⟩ = some (.slice A bs.length c) := by rw [cell_of_row w g 0 _ _ _ hg]; rfl
  have h1 : w.cell? ⟨g, 1, none⟩ = some (.int .i64 p) := by rw [cell_of_row w g 1 _ _ _ hg]; rfl
  have hf1 : w.frozen? ⟨g, 1, none⟩ = false := frozen_of_row w g 1 _ _ hg
  have fin : ∀ m, Rd ((w.setCell ⟨g, 1, none⟩ (.int .i64 ((p : Int) + 1))).drewN m) g (p + 1) ∧ w.grownBy ((w.setCell ⟨g, 1, none⟩ (.int .i64 ((p : Int) + 1))).drewN m) (some g) := by
    intro m
    have hcell : ∀ q : Addr, q.block < g → (w.setCell ⟨g, 1, none⟩ (.int .i64 ((p : Int) + 1))).cell? q = w.cell? q := fun q hq => World.cell?_setCell_other w _ q _ (fun e => by subst e; simp at hq)
    refine ⟨⟨A, bs, c, ?_, ?_, hv, hm⟩, rfl, rfl, rfl, by simp [World.drewN, World.setCell], fun k _ hk => Below.heap_setCell w _ _ k (fun e => hk (by rw [e]))⟩
    · show (w.setCell ⟨g, 1, none⟩ _).heap[g]? = _
      rw [heap_setCell_same w g 1 _ _ _ hg]
      rfl
    · rcases hrow with h | ⟨b, o, rfl, _, hb, hc, hf⟩
      · exact .inl h
      · exact .inr ⟨b, o, rfl, by omega, hb, fun j u hu => (hcell ⟨b, o + j, none⟩ hb).trans (hc j u hu), fun h => by omega⟩
  have FIN := Lib.hid fin
  have HG := Lib.hid hg
  have HV := Lib.hid hv
  clear fin hg hv
  by_cases hn1 : n < 1
  · go_enter Try.func46, Try.ntmps46
    go_wp2
    go_ret
    exact ⟨0, rfl, ⟨by omega, fun _ => by omega⟩, FIN.out 0⟩
  · by_cases hz : bs.length = 0
    · have hb0 : ((bs.length : Int) == 0) = true := beq_iff_eq.2 (by omega)
      clear hz
      go_enter Try.func46, Try.ntmps46
      go_wp2
      go_ret
      exact ⟨0, rfl, ⟨by omega, fun _ => by omega⟩, FIN.out 0⟩
    · have hb0 : ((bs.length : Int) == 0) = false := beq_eq_false_iff_ne.2 (by omega)
      have hbp : 0 < bs.length := by omega
      clear hz
      obtain ⟨b, o, rfl, hb, hc⟩ := hrow.open (by simpa using hbp)
      have hbl : b ≠ g := by omega
      by_cases hlt : p < bs.length
      · obtain ⟨x, hx, hx0, hx1⟩ := byte_at hc HV.out p hlt
        clear hc hrow
        go_enter Try.func46, Try.ntmps46
        go_wp2
        go_ret
        refine ⟨x % n, rfl, ⟨Int.emod_nonneg _ (by omega), fun _ => Int.emod_lt_of_pos _ (by omega)⟩, FIN.out 0⟩
      · have hm1 : p % bs.length < bs.length := Nat.mod_lt _ hbp
        have hm2 : (p * 7 + 3) % bs.length < bs.length := Nat.mod_lt _ hbp
        obtain ⟨x, hx, hx0, hx1⟩ := byte_at hc HV.out _ hm1
        obtain ⟨y, hy, hy0, hy1⟩ := byte_at hc HV.out _ hm2
        obtain ⟨j, hj⟩ : ∃ j : Nat, j = p % bs.length := ⟨_, rfl⟩
        obtain ⟨j2, hj2⟩ : ∃ j2 : Nat, j2 = (p * 7 + 3) % bs.length := ⟨_, rfl⟩
        rw [← hj] at hx hm1
        rw [← hj2] at hy hm2
        have hj' : (p : Int).tmod (bs.length : Int) = (j : Int) := by subst hj; rfl
        have hj2' : ((p : Int) * 7 + 3).tmod (bs.length : Int) = (j2 : Int) := by subst hj2; rfl
        clear hj hj2
        have hq := Int.tdiv_le_self (a := (p : Int)) (bs.length : Int) (by omega)
        have hq0 : 0 ≤ (p : Int).tdiv (bs.length : Int) := Int.tdiv_nonneg (by omega) (by omega)
        obtain ⟨q, hqe⟩ : ∃ q : Int, (p : Int).tdiv (bs.length : Int) = q := ⟨_, rfl⟩
        rw [hqe] at hq hq0
        have hjl : (j : Int) < bs.length := by omega
        have hjl2 : (j2 : Int) < bs.length := by omega
        have e1 : IntKind.i64.wrap ((p : Int) * 7) = (p : Int) * 7 := IntWalk.i64_in _ (by omega)
        have e2 : IntKind.i64.wrap ((p : Int) * 7 + 3) = (p : Int) * 7 + 3 := IntWalk.i64_in _ (by omega)
        have e4 : IntKind.i64.wrap (x * 131) = x * 131 := IntWalk.i64_in _ (by omega)
        have e5 : IntKind.i64.wrap (y * 1117) = y * 1117 := IntWalk.i64_in _ (by omega)
        have e6 : IntKind.i64.wrap (x * 131 + y * 1117) = x * 131 + y * 1117 := IntWalk.i64_in _ (by omega)
        have e7 : IntKind.i64.wrap ((p : Int) * 29) = (p : Int) * 29 := IntWalk.i64_in _ (by omega)
        have e8 : IntKind.i64.wrap (x * 131 + y * 1117 + (p : Int) * 29) = x * 131 + y * 1117 + (p : Int) * 29 := IntWalk.i64_in _ (by omega)
        have e9 : IntKind.i64.wrap q = q := IntWalk.i64_in _ (by omega)
        have e10 : IntKind.i64.wrap (q * 53) = q * 53 := IntWalk.i64_in _ (by omega)
        have e11 : IntKind.i64.wrap (x * 131 + y * 1117 + (p : Int) * 29 + q * 53) = x * 131 + y * 1117 + (p : Int) * 29 + q * 53 := IntWalk.i64_in _ (by omega)
        have e12 : IntKind.i64.wrap x = x := IntWalk.i64_in _ (by omega)
        have e13 : IntKind.i64.wrap y = y := IntWalk.i64_in _ (by omega)
        clear hc hrow hb0
        have hb0 : ((bs.length : Int) == 0) = false := beq_eq_false_iff_ne.2 (by omega)
        go_enter Try.func46, Try.ntmps46
        go_wp2
        go_quiet (fail)
        clear e1 e2 e4 e5 e6 e7 e8 e9 e10 e11 e12 e13 hqe hj' hj2'
        go_simp
        go_wp2
        go_ret
        have hx64 : 0 ≤ (x * 131 + y * 1117 + (p : Int) * 29 + q * 53) / 64 := Int.ediv_nonneg (by omega) (by omega)
        have hxor := xor_nonneg (x * 131 + y * 1117 + (p : Int) * 29 + q * 53) ((x * 131 + y * 1117 + (p : Int) * 29 + q * 53) / 64) (by omega) (by omega) (by omega) (by omega)
        exact ⟨_, rfl, ⟨Int.tmod_nonneg _ hxor, fun _ => by rw [Int.tmod_eq_emod_of_nonneg hxor]; exact Int.emod_lt_of_pos _ (by omega)⟩, FIN.out nq⟩
end Go.Proofs.Ytempfagjbpnlcaa
