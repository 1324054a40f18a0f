/- Channels in one goroutine, where nothing waits: regions that send and receive, for the walk. No condition. -/
import Derived.Test.YtdgdlmpmoafkgaaRows
import Derived.Test.YtdgdlmpmoafkgaaAid
import Derived.Conc.LoneCalls
import Derived.RegionTactic
namespace Go.Proofs.Ytdgdlmpmoafkgaa
open Go.RowKit
open Go.Conc

/-- From within a region, with these operations left, the region is left in a state of which Q holds. -/
def SemOps (P : Program) (ops : Array Oper) (Q : Exit → Act → World → Prop) (l : List Nat) (a : Act) (w : World) : Prop :=
  ∀ (b : Frame) (k : List Item) (cs : List Frame), ∃ e a' w', Q e a' w' ∧ Arrives P (lone (b.at a (.inRegion ops l :: k)) cs w) b k cs e a' w'

section
variable {P : Program} {ops : Array Oper} {Q : Exit → Act → World → Prop} {a : Act} {w w₁ : World} {i : Nat} {rest : List Nat} {o : Oper}

theorem sem_region {id : Nat} (h : SemOps P ops Q (List.range ops.size) a w) : (Code.region id ops false).wp P Q a w :=
  fun b k cs => let ⟨e, a', w', q, r⟩ := h b k cs; ⟨e, a', w', q, .of_steps (.one step_region) r⟩

theorem sem_nil (h : Q .normal a w) : SemOps P ops Q [] a w := fun _ _ _ => ⟨.normal, a, w, h, .one step_region_end⟩

theorem sem_next {a' : Act} {w' : World} (hs : ∀ (b : Frame) (k : List Item) (cs : List Frame), step P (lone (b.at a (.inRegion ops (i :: rest) :: k)) cs w) = .next (lone (b.at a' (.inRegion ops rest :: k)) cs w'))
    (h : SemOps P ops Q rest a' w') : SemOps P ops Q (i :: rest) a w := fun b k cs =>
  let ⟨e, a₂, w₂, q, r⟩ := h b k cs
  ⟨e, a₂, w₂, q, .of_steps (.one (hs b k cs)) r⟩

theorem sem_value (ho : ops[i]? = some o) (hw : Region.wanted o (yielded ops a.tmps) = true) {v : Value} {w' : World} (hr : (execOp a.eval o).run P w = .ok (.value v) w')
    (h : SemOps P ops Q rest (a.put o.dst v) w') : SemOps P ops Q (i :: rest) a w := by
  refine sem_next (fun b k cs => step_lone_go ?_) h
  have hg := stepG_op (P := P) (b := b) (k := k) (cs := cs) (w := w) (rest := rest) ho hw
  have hfin : (b.at a (.inRegion ops (i :: rest) :: k)).finish v = b.at (a.put o.dst v) (.inRegion ops rest :: k) := by
    rw [Frame.finish_at, ho]; rfl
  rw [hg, ← hfin]
  simp [stepG.apply, hr]

theorem sem_skip (ho : ops[i]? = some o) (hw : Region.wanted o (yielded ops a.tmps) = true) {w' : World} (hr : (execOp a.eval o).run P w = .ok .skip w')
    (h : SemOps P ops Q rest (a.put o.dst undef) w') : SemOps P ops Q (i :: rest) a w := by
  refine sem_next (fun b k cs => step_lone_go ?_) h
  have hg := stepG_op (P := P) (b := b) (k := k) (cs := cs) (w := w) (rest := rest) ho hw
  have hfin : (b.at a (.inRegion ops (i :: rest) :: k)).finish undef = b.at (a.put o.dst undef) (.inRegion ops rest :: k) := by
    rw [Frame.finish_at, ho]; rfl
  rw [hg, ← hfin]
  simp [stepG.apply, hr]

/-- An operation that yields a value or nothing, what follows standing behind a variable. -/
theorem sem_op (ho : ops[i]? = some o) (hw : Region.wanted o (yielded ops a.tmps) = true)
    (h : ∀ K : Act → World → Prop, (∀ a' w', SemOps P ops Q rest a' w' → K a' w') → uponK o a K ((execOp a.eval o).run P w)) : SemOps P ops Q (i :: rest) a w := by
  have h1 := h (fun a' w' => SemOps P ops Q rest a' w') (fun _ _ h => h)
  cases hr : (execOp a.eval o).run P w with
  | ok x w' =>
    rw [hr] at h1
    cases x with
    | value v => exact sem_value ho hw hr h1
    | skip => exact sem_skip ho hw hr h1
    | _ => exact h1.elim
  | halt x w' => rw [hr] at h1; exact h1.elim

/-- A communication: the machine's own step. -/
theorem sem_comm {cases_ : Array CommCase} {blocking : Bool} {shape : CommShape} {v : Value} {w' : World} (ho : ops[i]? = some o) (hw : Region.wanted o (yielded ops a.tmps) = true)
    (hr : (execOp a.eval o).run P w = .ok (.comm cases_ blocking shape) w₁)
    (hs : ∀ (fr : Frame) (cs : List Frame) (es : Array Event), stepG P true (G fr cs) w = .comm (G fr cs) cases_ blocking shape w₁ es → step P (solo (G fr cs) w) = .next (solo (G (fr.finish v) cs) w'))
    (h : SemOps P ops Q rest (a.put o.dst v) w') : SemOps P ops Q (i :: rest) a w := by
  refine sem_next (fun b k cs => ?_) h
  have hg := stepG_op (P := P) (b := b) (k := k) (cs := cs) (w := w) (rest := rest) ho hw
  have hfin : (b.at a (.inRegion ops (i :: rest) :: k)).finish v = b.at (a.put o.dst v) (.inRegion ops rest :: k) := by
    rw [Frame.finish_at, ho]; rfl
  have : ∃ es, stepG P true (G (b.at a (.inRegion ops (i :: rest) :: k)) cs) w = .comm (G (b.at a (.inRegion ops (i :: rest) :: k)) cs) cases_ blocking shape w₁ es := by
    have hg' := hg
    simp only [stepG.apply, Sem.runT_eq, hr, GStep.after] at hg'
    exact ⟨_, hg'⟩
  obtain ⟨es, he⟩ := this
  have h2 := hs _ cs es he
  rw [hfin] at h2
  exact h2

/-- A send into a buffer with room. -/
theorem sem_send {c cap s r : Nat} {buf : Array Value} {v z' : Value} {tm : Bool} (ho : ops[i]? = some o) (hw : Region.wanted o (yielded ops a.tmps) = true)
    (hr : (execOp a.eval o).run P w = .ok (.comm #[scase c v z'] true .send) w₁) (hc : w₁.heap[c]? = some (.chan cap buf false s r tm)) (hroom : buf.size < cap)
    (h : SemOps P ops Q rest (a.put o.dst undef) (w₁.setChan c cap (buf.push v) false (s + 1) r tm)) : SemOps P ops Q (i :: rest) a w :=
  sem_comm ho hw hr (fun _ _ _ he => step_lone_send_room he hc hroom) h

/-- A receive, with comma-ok or without, from a buffer that holds something. -/
theorem sem_recv {c cap s r : Nat} {buf : Array Value} {z : Value} {tm closed : Bool} (ok : Bool) (ho : ops[i]? = some o) (hw : Region.wanted o (yielded ops a.tmps) = true)
    (hr : (execOp a.eval o).run P w = .ok (.comm #[rcase c z] true (.recv ok)) w₁) (hc : w₁.heap[c]? = some (.chan cap buf closed s r tm)) (hsome : 0 < buf.size)
    (h : SemOps P ops Q rest (a.put o.dst (got ok (buf.getD 0 undef) true)) (w₁.setChan c cap (buf.extract 1 buf.size) closed s (r + 1) tm)) : SemOps P ops Q (i :: rest) a w :=
  sem_comm ho hw hr (fun _ _ _ he => step_lone_recv_buf ok he hc hsome) h

/-- A receive from a channel that is closed and empty. -/
theorem sem_recv_shut {c cap s r : Nat} {z : Value} {tm : Bool} (ok : Bool) (ho : ops[i]? = some o) (hw : Region.wanted o (yielded ops a.tmps) = true)
    (hr : (execOp a.eval o).run P w = .ok (.comm #[rcase c z] true (.recv ok)) w₁) (hc : w₁.heap[c]? = some (.chan cap #[] true s r tm))
    (h : SemOps P ops Q rest (a.put o.dst (got ok z false)) w₁) : SemOps P ops Q (i :: rest) a w :=
  sem_comm ho hw hr (fun _ _ _ he => step_lone_recv_shut ok he hc) h
end

theorem heap_setChan_ne (w : World) (c cap : Nat) (buf : Array Value) (cl : Bool) (s r : Nat) (tm : Bool) {k : Nat} (h : k ≠ c) : (w.setChan c cap buf cl s r tm).heap[k]? = w.heap[k]? := by
  simp only [World.setChan]; rw [Array.getElem?_setIfInBounds_ne (fun e => h e.symm)]
theorem grown_setChan {w0 w : World} {row : Option Nat} (h : w0.grownBy w row) {c : Nat} (hc : w0.heap.size ≤ c) (cap : Nat) (buf : Array Value) (cl : Bool) (s r : Nat) (tm : Bool) : w0.grownBy (w.setChan c cap buf cl s r tm) row :=
  ⟨h.os, h.tape, h.output, by rw [size_setChan]; exact h.size, fun i hi hne => by rw [heap_setChan_ne _ _ _ _ _ _ _ _ (by omega)]; exact h.block i hi hne⟩
end Go.Proofs.Ytdgdlmpmoafkgaa
