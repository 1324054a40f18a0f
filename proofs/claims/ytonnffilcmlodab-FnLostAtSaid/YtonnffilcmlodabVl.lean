/- Fractions: reduced, times, otherwise, turned. No condition. -/
import Derived.Test.YtonnffilcmlodabVk
import Derived.Test.YtonnffilcmlodabEx
import Derived.StillTailTactics
import Derived.Deep.MidRow
namespace Go.Proofs.Ytonnffilcmlodab
open Go.RowKit

def frV (q : Nat × Nat) : Value := .agg #[.int .i64 (q.1 : Int), .int .i64 (q.2 : Int)]
theorem below_drewF {B : Nat} {a w : World} (h : Below B a w) : Below B a w.drew := ⟨h.os, h.tape, h.output, h.size, h.block⟩
theorem Try.sizeF : (Try.prog.info? 26).map (·.size) = some 2 := by kernel_rfl
theorem loadF {w : World} {g : Nat} {x y : Value} (hc : w.heap[g]? = some (.cells #[x, y] 26 (0, 0))) : (loadVar 26 ⟨g, 0, none⟩).run Try.prog w = .ok (.agg #[x, y]) w :=
  run_loadVar_mid (P := Try.prog) w g 0 26 [x, y] _ (fun j v hv => by rw [Nat.zero_add, cell_of_row _ _ j _ _ _ hc]; simpa using hv) Try.underlying26 rfl Try.sizeF
theorem loadFc {w : World} {g : Nat} {x y : Value} (h0 : w.cell? ⟨g, 0, none⟩ = some x) (h1 : w.cell? ⟨g, 1, none⟩ = some y) : (loadVar 26 ⟨g, 0, none⟩).run Try.prog w = .ok (.agg #[x, y]) w :=
  run_loadVar_mid (P := Try.prog) w g 0 26 [x, y] _ (fun j v hv => by
    rw [Nat.zero_add]
    match j, hv with
    | 0, hv => simp at hv; rw [← hv]; exact h0
    | 1, hv => simp at hv; rw [← hv]; exact h1) Try.underlying26 rfl Try.sizeF
theorem cellsF_set {w : World} {g : Nat} {x y a b : Value} (h0 : w.cell? ⟨g, 0, none⟩ = some a) (h1 : w.cell? ⟨g, 1, none⟩ = some b) :
    ((w.setCell ⟨g, 0, none⟩ x).setCell ⟨g, 1, none⟩ y).cell? ⟨g, 0, none⟩ = some x ∧ ((w.setCell ⟨g, 0, none⟩ x).setCell ⟨g, 1, none⟩ y).cell? ⟨g, 1, none⟩ = some y := by
  have e1 : (w.setCell ⟨g, 0, none⟩ x).cell? ⟨g, 1, none⟩ = some b := by rw [World.cell?_setCell_other _ _ _ _ (by simp)]; exact h1
  refine ⟨?_, World.cell?_setCell_same _ _ _ e1⟩
  rw [World.cell?_setCell_other _ _ _ _ (by simp)]
  exact World.cell?_setCell_same _ _ _ h0
theorem results_cellF {fn : Func} {t : Tmp} {ty : TypeId} {P : Program} {tmps : Array Value} {w : World} {v : Value} {a : Addr} (h : fn.results = #[.cell t ty]) (ht : tmps[t]?.getD undef = .pointer (some a)) (hl : (loadVar ty a).run P w = .ok v w) :
    (results fn tmps).run P w = .ok v w := by
  simp [results, h, ht, asAddr, hl]

theorem heapF2 (w : World) (o o2 : Obj) : ((w.alloc o).alloc o2).heap[w.heap.size + 1]? = some o2 := by have := heap_alloc_new (w.alloc o) o2; simpa using this

theorem heapF1 (w : World) (o o2 : Obj) : ((w.alloc o).alloc o2).heap[w.heap.size]? = some o := (((Below.refl _ (w.alloc o)).alloc (Nat.le_refl _) o2).block w.heap.size (by simp)).trans (heap_alloc_new w o)

set_option maxRecDepth 100000 in
theorem otherwise_any (u d : Nat) (w : World) (hu : u ≤ d) (hd : d ≤ 1000000000000) :
    Calls Try.prog 36 #[frV (u, d)] w fun e w' => e = .returned (frV (d - u, d)) ∧ Below w.heap.size w w' := by
  have HD := Lib.hid (show ((d - u : Nat) : Int) = (d : Int) - (u : Int) by omega)
  unfold frV
  dsimp only
  rw [HD.out]
  go_enter Try.func36, Try.ntmps36
  go_wp2
  refine bodyPost_ret (results_cellF rfl rfl (loadF (heapF2 _ _ _))) rfl ?_
  exact ⟨rfl, ((Below.refl _ _).alloc (Nat.le_refl _) _).alloc (by simp) _⟩

set_option maxRecDepth 100000 in
theorem turned_any (u d : Nat) (w : World) :
    Calls Try.prog 37 #[frV (u, d)] w fun e w' => e = .returned (frV (d, u)) ∧ Below w.heap.size w w' := by
  unfold frV
  dsimp only
  go_enter Try.func37, Try.ntmps37
  go_wp2
  refine bodyPost_ret (results_cellF rfl rfl (loadF (heapF2 _ _ _))) rfl ?_
  exact ⟨rfl, ((Below.refl _ _).alloc (Nat.le_refl _) _).alloc (by simp) _⟩

theorem gcd_step (c r : Nat) : Nat.gcd r (c % r) = Nat.gcd c r := by rw [Nat.gcd_comm, ← Nat.gcd_rec, Nat.gcd_comm]

set_option maxRecDepth 100000 in
set_option maxHeartbeats 2000000 in
theorem reduced_any (u d : Nat) (w : World) (hd0 : 0 < d) (hu : u ≤ 1000000000000) (hd : d ≤ 1000000000000) :
    Calls Try.prog 41 #[frV (u, d)] w fun e w' => e = .returned (frV (red u d)) ∧ Below w.heap.size w w' := by
  have HR := Lib.hid (show red u d = (u / Nat.gcd u d, d / Nat.gcd u d) from rfl)
  have HG0 := Lib.hid (show 0 < Nat.gcd u d from Nat.gcd_pos_of_pos_right _ hd0)
  have HGG := Lib.hid (show Nat.gcd d u = Nat.gcd u d from Nat.gcd_comm _ _)
  obtain ⟨g, hg⟩ : ∃ g, Nat.gcd u d = g := ⟨_, rfl⟩
  rw [hg] at HR HG0 HGG
  obtain ⟨x, hx⟩ : ∃ x, u / g = x := ⟨_, rfl⟩
  obtain ⟨y, hy⟩ : ∃ y, d / g = y := ⟨_, rfl⟩
  have hxb : x ≤ 1000000000000 := by rw [← hx]; exact Nat.le_trans (Nat.div_le_self _ _) hu
  have hyb : y ≤ 1000000000000 := by rw [← hy]; exact Nat.le_trans (Nat.div_le_self _ _) hd
  rw [HR.out, hx, hy]
  have HXY := Lib.hid (And.intro hx hy)
  unfold frV
  dsimp only
  clear hg hx hy
  have HB2 := Lib.hid (show Below w.heap.size w ((w.alloc (Obj.cells #[Value.int IntKind.i64 (u : Int), Value.int IntKind.i64 (d : Int)] 26)).alloc (Obj.cells #[Value.int IntKind.i64 0, Value.int IntKind.i64 0] 26)) from ((Below.refl _ _).alloc (Nat.le_refl _) _).alloc (by simp) _)
  have h0 : ((w.alloc (Obj.cells #[Value.int IntKind.i64 (u : Int), Value.int IntKind.i64 (d : Int)] 26)).alloc (Obj.cells #[Value.int IntKind.i64 0, Value.int IntKind.i64 0] 26)).heap[w.heap.size]? = some (Obj.cells #[Value.int IntKind.i64 (u : Int), Value.int IntKind.i64 (d : Int)] 26) := by
    exact heapF1 _ _ _
  have h1 := heapF2 w (Obj.cells #[Value.int IntKind.i64 (u : Int), Value.int IntKind.i64 (d : Int)] 26) (Obj.cells #[Value.int IntKind.i64 0, Value.int IntKind.i64 0] 26)
  obtain ⟨W, hW⟩ : ∃ W, (w.alloc (Obj.cells #[Value.int IntKind.i64 (u : Int), Value.int IntKind.i64 (d : Int)] 26)).alloc (Obj.cells #[Value.int IntKind.i64 0, Value.int IntKind.i64 0] 26) = W := ⟨_, rfl⟩
  rw [hW] at HB2 h0 h1
  have H0 := Lib.hid h0
  have H1 := Lib.hid h1
  have c0 : W.cell? ⟨w.heap.size, 0, none⟩ = some (.int .i64 (u : Int)) := cell_of_row _ _ 0 _ _ _ h0
  have c1 : W.cell? ⟨w.heap.size, 1, none⟩ = some (.int .i64 (d : Int)) := cell_of_row _ _ 1 _ _ _ h0
  have C0 := Lib.hid c0
  have C1 := Lib.hid c1
  have hzW : W.heap.size = w.heap.size + 2 := by rw [← hW]; simp
  have HWE := Lib.hid hW
  clear h0 h1
  go_enter Try.func41, Try.ntmps41
  go_wp2
  go_quiet (fail)
  go_wp2
  clear c0 c1 hW
  go_loopw [3, 4] (fun cm rs wr => ∃ c r : Nat, cm = .int .i64 (c : Int) ∧ rs = .int .i64 (r : Int) ∧ 0 < c ∧ c ≤ 1000000000000 ∧ r ≤ 1000000000000 ∧ Hid (Nat.gcd c r = g) ∧ ∃ z, wr = W.drewN z) (fun _ rs _ => (intOf rs).toNat)
  case atStart => exact ⟨d, u, rfl, rfl, hd0, hd, hu, HGG, nq, rfl⟩
  case round =>
    obtain ⟨c, r, rfl, rfl, hc0, hc, hr, HC, z, hz⟩ := hrel
    by_cases h : r = 0
    · subst h
      have hcg : c = g := by have := HC.out; rwa [Nat.gcd_zero_right] at this
      subst hcg
      have t0 : (((0 : Nat) : Int) != 0) = false := by simp
      have c0 : wr.cell? ⟨w.heap.size, 0, none⟩ = some (.int .i64 (u : Int)) := by rw [hz]; exact C0.out
      have c1 : wr.cell? ⟨w.heap.size, 1, none⟩ = some (.int .i64 (d : Int)) := by rw [hz]; exact C1.out
      have hc00 : ((c : Int) == 0) = false := by simp; omega
      have e1 : (u : Int).tdiv (c : Int) = (x : Int) := by rw [← HXY.out.1]; rfl
      have e2 : (d : Int).tdiv (c : Int) = (y : Int) := by rw [← HXY.out.2]; rfl
      have g1 : wr.heap[w.heap.size + 1]? = some (Obj.cells #[Value.int IntKind.i64 0, Value.int IntKind.i64 0] 26) := by rw [hz]; exact H1.out
      have f0 := frozen_of_row wr _ 0 _ _ g1
      have f1 := frozen_of_row wr _ 1 _ _ g1
      have k0 : wr.cell? ⟨w.heap.size + 1, 0, none⟩ = some (.int .i64 0) := cell_of_row _ _ 0 _ _ _ g1
      have k1 : wr.cell? ⟨w.heap.size + 1, 1, none⟩ = some (.int .i64 0) := cell_of_row _ _ 1 _ _ _ g1
      have HZ := Lib.hid (show Below w.heap.size w wr from HB2.out.trans ((show Below W.heap.size W wr by rw [hz]; exact drewBelow _ _).mono (by omega)))
      clear hz
      go_wp2
      go_region
      all_goals go_wp2
      have hcs := cellsF_set (x := .int .i64 (x : Int)) (y := .int .i64 (y : Int)) k0 k1
      have hbb := (HZ.out.setCell (p := ⟨w.heap.size + 1, 0, none⟩) (by show w.heap.size ≤ w.heap.size + 1; omega) (.int .i64 (x : Int))).setCell (p := ⟨w.heap.size + 1, 1, none⟩) (by show w.heap.size ≤ w.heap.size + 1; omega) (.int .i64 (y : Int))
      refine bodyPost_ret (results_cellF rfl rfl (loadFc (by simpa using hcs.1) (by simpa using hcs.2))) rfl ?_
      exact ⟨rfl, below_drewF hbb⟩
    · have t0 : ((r : Int) != 0) = true := by simp; omega
      have hr00 : ((r : Int) == 0) = false := by simp; omega
      have HS := Lib.hid (show Nat.gcd r (c % r) = g by rw [gcd_step]; exact HC.out)
      have e1 : (c : Int).tmod (r : Int) = ((c % r : Nat) : Int) := rfl
      have e2 : (c : Int) % (r : Int) = ((c % r : Nat) : Int) := rfl
      have hm : c % r < r := Nat.mod_lt _ (by omega)
      obtain ⟨q, hx⟩ : ∃ q, c % r = q := ⟨_, rfl⟩
      rw [hx] at e1 e2 HS hm
      have HZ := Lib.hid hz
      clear hz hx
      go_wp2
      go_quiet (fail)
      go_wp2
      go_roundw
      case rel => exact ⟨r, q, rfl, rfl, by omega, hr, by omega, HS, by rw [HZ.out]; exact ⟨_, World.drewN_drewN ..⟩⟩
      case measure => simp [intOf]; omega
end Go.Proofs.Ytonnffilcmlodab
