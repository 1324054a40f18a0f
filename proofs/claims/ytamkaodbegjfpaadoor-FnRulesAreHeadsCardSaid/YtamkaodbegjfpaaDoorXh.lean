/- impl.TrimRules. No condition. -/
import Derived.Test.YtamkaodbegjfpaaDoorXg
import Derived.Test.YtamkaodbegjfpaaDoorX7
namespace Go.Proofs.YtamkaodbegjfpaaDoor
open Go.RowKit
open Go.Shelf
attribute [local go_sem] Oper.semAt_some

theorem range_wideU {n : Nat} {P : Program} {g : Operand} {ps : Array Tmp} {assign body : Code} {Q : Exit → Act → World → Prop} {a : Act} {w : World} {gf : Nat} {lb : Array Value}
    (hg : a.eval g = .func (.func gf) #[] lb) (eg : ∀ args w, (callFunc gf args).run P w = .ok (.enter gf args) w)
    (h : ∀ (l : Nat) (r : Loop) (W1 : World), l = w.heap.size + 1 → r.state = .ready → r.pending = none → r.tmps = a.tmps → r.params = ps → r.assign = assign → r.body = body → W1 = (w.alloc (.deferred (some []))).alloc (.loop r) →
      CallsIn Fence.wide (n - 1) P gf (#[.func (.yield l) #[] #[]] ++ lb) W1 (rangePost Fence.wide n P l Q { a with defers := { target := .collected w.heap.size, args := #[] } :: a.defers })) :
    (Code.rangeFunc g ps assign body).wpIn Fence.wide n P Q a w := by
  have hro : Fence.wide.round = none := rfl
  refine wpIn_rangeFunc ?_
  intro fn _
  rw [hro]
  have hc := h (w.heap.size + 1) { state := .ready, pending := none, fn, tmps := a.tmps, params := ps, assign, body, defers := w.heap.size } _ rfl rfl rfl rfl rfl rfl rfl rfl
  have he := run_enterLoop_outer (P := P) (w := w) fn a.tmps ps assign body
  obtain ⟨W1, hW1⟩ : ∃ W1, (w.alloc (.deferred (some []))).alloc (.loop { state := .ready, pending := none, fn, tmps := a.tmps, params := ps, assign, body, defers := w.heap.size }) = W1 := ⟨_, rfl⟩
  rw [hW1] at hc he
  have hL : ({ a with defers := [({ target := .collected w.heap.size, args := #[] } : Deferred)] ++ a.defers } : Act) = { a with defers := { target := .collected w.heap.size, args := #[] } :: a.defers } := rfl
  rw [← hL] at hc
  clear hL
  refine ⟨w.heap.size + 1, [{ target := .collected w.heap.size, args := #[] }], W1, { target := .fn (.func gf) lb, args := #[.func (.yield (w.heap.size + 1)) #[] #[]] }, W1, gf, #[.func (.yield (w.heap.size + 1)) #[] #[]] ++ lb, W1, ?_, ?_, ?_, ?_, ?_, ?_⟩
  · exact he
  · simp only [resolve, hg]
    simp [go_sem]
  · intro f' _
    exact True.intro
  · simp [invoke, go_sem, eg]
  · intro hd
    exact absurd hd (by decide)
  · exact hc

/-- A round: the record is ready again, and but for one block nothing old turns. -/
theorem grown_roundU {W W4 : World} {l kb : Nat} {o o1 : Obj} (hl : W.heap[l]? = some o) (hg : (W.putObj l o1).grownBy W4 (some kb)) (hne : kb ≠ l) : W.grownBy (W4.putObj l o) (some kb) := by
  have hlt := (Array.getElem?_eq_some_iff.1 hl).1
  have hlt4 : l < W4.heap.size := Nat.lt_of_lt_of_le (by simp [World.putObj]; exact hlt) hg.size
  refine ⟨hg.os, hg.tape, hg.output, by have := hg.size; simp [World.putObj] at this ⊢; exact this, fun k hk hkn => ?_⟩
  by_cases hkl : k = l
  · subst hkl
    rw [World.putObj_heap_same hlt4]; exact hl.symm
  · rw [World.putObj_heap_other hkl, hg.block k (by simp [World.putObj]; exact hk) hkn, World.putObj_heap_other hkl]

def trimR (rs : List (ByteArray × Int)) : List (ByteArray × Int) := if rulesB rs = true then trimV rs else []
theorem trimS_yes {ks : List (ByteArray × Int)} {k : Nat} (h : sameV ks (ks.eraseIdx k) = true) : trimS (k + 1) ks = trimS k (ks.eraseIdx k) := by rw [trimS, if_pos h]
theorem trimS_no {ks : List (ByteArray × Int)} {k : Nat} (h : sameV ks (ks.eraseIdx k) = false) : trimS (k + 1) ks = trimS k ks := by rw [trimS, h]; rfl

/-- The row lies in neither of two blocks. -/
def KN (K : Option Addr) (ks : List (ByteArray × Int)) (kb l : Nat) : Prop := ks = [] ∨ ∃ b o, K = some ⟨b, o, none⟩ ∧ b ≠ kb ∧ b ≠ l
theorem own_grownU {W W' : World} {base x kb l : Nat} {K : Option Addr} {ks : List (ByteArray × Int)} (h : Own W base W.heap.size K (flat ks)) (hn : KN K ks kb l) (hg : W.grownBy W' (some x)) (hx : x = kb ∨ x = l) : Own W' base W'.heap.size K (flat ks) := by
  rcases hn with rfl | ⟨b, o, rfl, h1, h2⟩
  · exact .inl rfl
  · refine (h.grown (Nat.le_refl _) hg (fun b' o' e => ?_)).more hg.size
    simp only [Option.some.injEq, Addr.mk.injEq, and_true] at e
    obtain ⟨rfl, _⟩ := e
    rcases hx with rfl | rfl <;> assumption
/-- Ahead of the round for place k - 1: what is kept. -/
def TrI (n₀ l kb : Nat) (V1 : World) (V : List (ByteArray × Int)) (k : Nat) (W : World) : Prop :=
  V1.grownBy W (some kb) ∧ ∃ (K : Option Addr) (cK : Nat) (ks : List (ByteArray × Int)), Boxed W kb 23 (.slice K ks.length cK) ∧ ks.length ≤ cK ∧ Own W (n₀ + 1) W.heap.size K (flat ks) ∧
    KN K ks kb l ∧ Hid (trimS k ks = V) ∧ rulesB ks = true ∧ k ≤ ks.length

set_option maxHeartbeats 8000000 in
theorem trimRules_in (A : Option Addr) (c : Nat) (rs : List (ByteArray × Int)) (w : World) (hr : Own w 0 w.heap.size A (flat rs)) (hs : ∀ r ∈ rs, r.1.size ≤ 1048576) (hv : rulesB rs = true) :
    CallsIn Fence.wide 5 Tryd.prog 9 #[.slice A rs.length c] w (TrimPostU (trimV rs) w) := by
  have h7 := rulesB_len hv
  have hro : Fence.wide.round = none := rfl
  have hva := impValidRules_any A c rs w hr (fun r h => Nat.le_trans (hs r h) (by omega))
  rw [hv] at hva
  have HVA := Lib.hid hva
  have HV := Lib.hid hv
  have HR := Lib.hid hr
  clear hva hv hr hs
  refine callsIn_of_wp_marks Tryd.func9 rfl trivial ?_ hro
  simp only [Tryd.ntmps9, List.size_toArray, List.length_cons, List.length_nil, Nat.reduceAdd, Nat.reduceSub, Array.replicate_succ, Array.replicate_zero, List.push_toArray, List.append_toArray, List.nil_append, List.cons_append]
  gi_wp2_with (first
    | (refine ⟨trivial, ?_⟩; gi_at_call 8; refine (callsIn_wide.2 HVA.out).mono ?_; rintro e w1 ⟨rfl, hb1⟩)
    | (refine ⟨trivial, ?_⟩; gi_at_call 19; refine (callsIn_wide.2 (cloneU_any A c rs w1 ((HR.out.below hb1).more hb1.size) (by omega))).mono ?_; rintro e w2 ⟨K, cK, rfl, hkept, hb2⟩)
    | (refine ⟨trivial, ?_⟩; gi_at_call 20; refine (callsIn_wide.2 (backwardU_any _ _ _ _)).mono ?_; rintro e w4 ⟨rfl, rfl⟩))
  have hb12 : Below w.heap.size w w2 := hb1.trans (hb2.mono hb1.size)
  have h12 := hb12.size
  obtain ⟨V0, hV0⟩ : ∃ V0, (w2.alloc (.cells #[.slice K rs.length cK] 23)).alloc (.cells #[.slice A rs.length c] 23) = V0 := ⟨_, rfl⟩
  have hbv2 : Below w2.heap.size w2 V0 := by rw [← hV0]; exact ((Below.refl _ _).alloc (Nat.le_refl _) _).alloc (by simp) _
  have hbv : Below w.heap.size w V0 := hb12.trans (hbv2.mono h12)
  have hszv : V0.heap.size = w2.heap.size + 1 + 1 := by rw [← hV0]; simp
  have hkb : Boxed V0 w2.heap.size 23 (.slice K rs.length cK) := by rw [← hV0]; exact (Boxed.new _ _ _).alloc _
  have hBs : V0.cell? ⟨w2.heap.size + 1, 0, none⟩ = some (.slice A rs.length c) := by
    rw [← hV0]
    have := (Boxed.new (w2.alloc (.cells #[.slice K rs.length cK] 23)) 23 (.slice A rs.length c)).cell
    rwa [World.size_alloc] at this
  have hkown : Own V0 (w.heap.size + 1) V0.heap.size K (flat rs) := ((hkept.own.less (by have := hb1.size; omega)).below hbv2).more hbv2.size
  have hkn : ∀ l, w2.heap.size < l → KN K rs w2.heap.size l := fun l hl => by
    rcases hkept.2 with h | ⟨g, h1, _, h3, _⟩
    · exact .inl h
    · exact .inr ⟨g, 0, h1, by omega, by omega⟩
  have hkc := hkept.1.1
  rw [hV0]
  have HVW := Lib.hid (And.intro hkb (And.intro hBs (And.intro hkown (And.intro hkn hbv))))
  clear hV0 hkb hBs hkown hkn hbv hbv2 hkept hb1 hb2 hb12
  refine range_wideU (gf := 32) (lb := #[.pointer (some ⟨w2.heap.size + 1, 0, none⟩)]) rfl (enters_of Tryd.func32 (by kernel_rfl) rfl) ?_
  intro l r W1 hl0 hst hpe htm hps has hbo hW1
  obtain ⟨hkb, hBs, hkown, hkn, hbv⟩ := HVW.out
  have hsz1 : W1.heap.size = V0.heap.size + 1 + 1 := by rw [hW1]; simp
  have hL1 : W1.heap[l]? = some (.loop r) := by
    rw [hW1, hl0]; have := World.alloc_heap_new (V0.alloc (.deferred (some []))) (.loop r); rwa [World.size_alloc] at this
  have hK1 : W1.heap[V0.heap.size]? = some (.deferred (some [])) := by
    rw [hW1]; exact (Below.heap_alloc _ _ _ (by simp)).trans (World.alloc_heap_new V0 _)
  have hb01 : Below V0.heap.size V0 W1 := by rw [hW1]; exact ((Below.refl _ _).alloc (Nat.le_refl _) _).alloc (by simp) _
  have hbv1 : Below w.heap.size w W1 := hbv.trans (hb01.mono hbv.size)
  have hkb1 : Boxed W1 w2.heap.size 23 (.slice K rs.length cK) := by rw [hW1]; exact (hkb.alloc _).alloc _
  have hBs1 : W1.heap[w2.heap.size + 1]? = V0.heap[w2.heap.size + 1]? := hb01.block _ (by omega)
  have HR1 := Lib.hid (HR.out.below hbv1)
  have HI0 := Lib.hid (show TrI w.heap.size l w2.heap.size W1 (trimV rs) rs.length W1 from ⟨World.grownBy.refl _ _, K, cK, rs, hkb1, hkc, (hkown.below hb01).more hb01.size, hkn l (by omega), Lib.hid rfl, HV.out, Nat.le_refl _⟩)
  have HSZ1 := Lib.hid hsz1
  have hll : w2.heap.size + 1 < l := by omega
  have hl1 : l < W1.heap.size := by omega
  have hkv : w2.heap.size + 1 < V0.heap.size := by omega
  have hvl : V0.heap.size < l := by omega
  clear hW1 hb01 hkb1 hkb hkown hkn hl0 hsz1 hszv
  refine (callsIn_wide.2 (callsIn_wide.1 (backwardU_in 4 (by omega) l (w2.heap.size + 1) A c rs (by omega) (TrI w.heap.size l w2.heap.size W1 (trimV rs)) ?hK ?hY W1 HI0.out))).mono ?_
  case hK =>
    intro k W hJ
    have hg := hJ.1
    have hbel : Below w.heap.size W1 W := (Below.refl _ _).grown hg hbv1.size (fun i hi => by injection hi with hi; omega)
    refine ⟨?_, (HR1.out.below hbel).more (Nat.le_trans hbv1.size hg.size)⟩
    have h1 : W.heap[w2.heap.size + 1]? = V0.heap[w2.heap.size + 1]? := (hg.block _ (by omega) (fun e => by injection e with e; omega)).trans hBs1
    exact (World.cell?_of_block (a := ⟨w2.heap.size + 1, 0, none⟩) h1).trans hBs
  case hY =>
    intro k s f W hk hJ
    obtain ⟨hg, K', cK', ks, hbx, hcap, hown, hkn, HT, hrv, hkl⟩ := id hJ
    have hlW : W.heap[l]? = some (.loop r) := (hg.block l hl1 (fun e => by injection e with e; omega)).trans hL1
    refine ⟨r.fn, _, r.assign, r.body, run_yield hlW (by rw [hps]; rfl), roundIn_of_wpIn trivial ?_⟩
    rw [has, hbo, htm, hps]
    have hne : w2.heap.size ≠ l := by omega
    have hks7 := rulesB_len hrv
    have hbr := run_beginRound (P := Tryd.prog) hlW hst
    obtain ⟨Wb, hWb⟩ : ∃ Wb, W.putObj l (.loop { r with state := .busy }) = Wb := ⟨_, rfl⟩
    have HWB := Lib.hid hWb
    have hgb : W.grownBy Wb (some l) := by rw [← hWb]; exact grownBy_putObj' W l _
    have hbb : Boxed Wb w2.heap.size 23 (.slice K' ks.length cK') := hbx.kept hgb (fun e => hne (by injection e))
    have hownb := own_grownU hown hkn hgb (.inr rfl)
    have hlb : Wb.heap[l]? = some (.loop { r with state := .busy }) := by rw [← hWb]; exact World.putObj_heap_same (Array.getElem?_eq_some_iff.1 hlW).1
    rw [hWb] at hbr
    have hszb : Wb.heap.size = W.heap.size := by rw [← hWb]; simp [World.putObj]
    have hwsz : W1.heap.size ≤ W.heap.size := hg.size
    rcases hkn with h | ⟨b, o, rfl, hn1, hn2⟩
    · exfalso; rw [h] at hkl; simp at hkl
    have hs1 := slice_toU b o ks.length cK' k (by omega)
    obtain ⟨o', hs2, ho'⟩ := slice_fromU b o ks.length cK' (k + 1) hkl hcap
    have hxc : ((k + 1 : Nat) : Int) = (k : Int) + 1 := by omega
    rw [hxc] at hs2
    obtain ⟨m, hm⟩ : ∃ m, m = ks.length - (k + 1) := ⟨_, rfl⟩
    have hlen : k + m = (ks.eraseIdx k).length := by rw [List.length_eraseIdx_of_lt hkl]; omega
    rw [← hm] at hs2
    obtain ⟨d, hd⟩ : ∃ d, d = cK' - (k + 1) := ⟨_, rfl⟩
    rw [← hd] at hs2
    obtain ⟨X, hX⟩ : ∃ X, (Wb.alloc (.cells #[.slice (some ⟨b, o, none⟩) k cK', .slice (some ⟨b, o', none⟩) m d] 23)).drew = X := ⟨_, rfl⟩
    have hbX : Below Wb.heap.size Wb X := by rw [← hX]; exact ((Below.refl _ _).alloc (Nat.le_refl _) _).drew
    have hXs : X.heap.size = Wb.heap.size + 1 := by rw [← hX]; show (Wb.alloc _).heap.size = _; rw [World.size_alloc]
    have hx1 : X.cell? ⟨Wb.heap.size, 0, none⟩ = some (.slice (some ⟨b, o, none⟩) k cK') := by
      rw [← hX]
      show (Wb.alloc _).cell? ⟨Wb.heap.size, 0, none⟩ = _
      rw [World.cell?_alloc_at _ _ _ _ rfl]; rfl
    have hx2 : X.cell? ⟨Wb.heap.size, 1, none⟩ = some (.slice (some ⟨b, o', none⟩) m d) := by
      rw [← hX]
      show (Wb.alloc _).cell? ⟨Wb.heap.size, 1, none⟩ = _
      rw [World.cell?_alloc_at _ _ _ _ rfl]; rfl
    have hownX := hownb.below hbX
    have ho1 : Own X 0 Wb.heap.size (some ⟨b, o, none⟩) (flat (ks.take k)) := by
      rw [← flatU_take]; exact (hownX.take (2 * k)).less (Nat.zero_le _)
    have ho2 : Own X 0 Wb.heap.size (some ⟨b, o', none⟩) (flat (ks.drop (k + 1))) := by
      by_cases hlt : k + 1 < ks.length
      · rw [← flatU_drop, ho' hlt, Nat.mul_comm (k + 1) 2]; exact (hownX.drop (2 * (k + 1))).less (Nat.zero_le _)
      · exact .inl (by rw [List.drop_of_length_le (by omega)]; rfl)
    have hcc := concatU_any (some ⟨b, o, none⟩) (some ⟨b, o', none⟩) k cK' m d Wb.heap.size Wb.heap.size Wb.heap.size (flat (ks.take k)) (flat (ks.drop (k + 1))) X hx1 hx2 (by omega) (by omega) (by omega) ho1 ho2
      (by rw [flat_length, List.length_take]; omega) (by rw [flat_length, List.length_drop]; omega) (flatU_ones _) (flatU_ones _) (by omega) (by omega)
    rw [← flat_append, ← List.eraseIdx_eq_take_drop_succ, hlen] at hcc
    have hrv2 : rulesB (ks.eraseIdx k) = true := rulesB_sub hrv (List.eraseIdx_sublist ..)
    have hsv : sameRulesV ks (ks.eraseIdx k) = sameV ks (ks.eraseIdx k) := by rw [sameRulesV, hrv, hrv2]; rfl
    have hsr := fun (Y : World) (A5 : Option Addr) (c5 : Nat) (h1 : Own Y 0 Y.heap.size (some ⟨b, o, none⟩) (flat ks)) (h2 : Own Y 0 Y.heap.size A5 (flat (ks.eraseIdx k))) =>
      impSameRules_any (some ⟨b, o, none⟩) A5 cK' c5 ks (ks.eraseIdx k) Y h1 h2 (by omega) (by rw [List.length_eraseIdx_of_lt hkl]; omega) (fun r hr => by have := rules_short hrv r hr; omega) (fun r hr => by have := rules_short hrv2 r hr; omega)
    rw [hsv] at hsr
    have HSY := Lib.hid (fun h => trimS_yes (ks := ks) (k := k) h)
    have HSN := Lib.hid (fun h => trimS_no (ks := ks) (k := k) h)
    obtain ⟨q, hq⟩ : ∃ q, sameV ks (ks.eraseIdx k) = q := ⟨_, rfl⟩
    rw [hq] at hsr HSY HSN
    have HE7 := Lib.hid (show (ks.eraseIdx k).length + 1 = ks.length by rw [List.length_eraseIdx_of_lt hkl]; omega)
    obtain ⟨fs, hfs⟩ : ∃ fs, ks.eraseIdx k = fs := ⟨_, rfl⟩
    rw [hfs] at hcc hsr HSY HE7 hrv2
    have HCC := Lib.hid hcc
    have HSR := Lib.hid hsr
    have HBX := Lib.hid hbX
    have HOB := Lib.hid hownb
    have HLB := Lib.hid (And.intro hlb hlW)
    have HGB := Lib.hid (And.intro hg (And.intro hgb hbb))
    have HBR := Lib.hid hbr
    have HKS := Lib.hid (And.intro hcap (And.intro HT.out (And.intro hrv hrv2)))
    have hcb := hbb.cell
    have hfb := hbb.frozen
    have hk0 : (0 : Int) ≤ (k : Int) := by omega
    have hkI : (k : Int) < (ks.length : Int) := by omega
    have hkw : IntKind.i64.wrap ((k : Int) + 1) = (k : Int) + 1 := IntWalk.i64_in _ (by omega)
    have HXE := Lib.hid hX
    have HRR := Lib.hid (show ({ r with state := .ready, pending := none } : Loop) = r by cases r; simp_all)
    have HNE := Lib.hid (And.intro hne (And.intro hn1 hn2))
    have HSB := Lib.hid hszb
    clear hszb hlen hbX hXs hx1 hx2 hownX ho1 ho2 hcc hrv hrv2 hsv hsr hq hfs hX hownb hown hlb hlW hg hgb hbb hbx hbr hcap HT ho' hm hd hWb hne hn1 hn2 hxc hJ
    clear hps has hbo htm hpe hst hL1 hK1 hBs1 hBs hbv hbv1 HI0 HVW HR1 HR HV HVA
    gi_wp2
    refine ⟨Wb, HBR.out, ?_⟩
    have hmx : Tryd.prog.follows .mixedOrders = true := by kernel_rfl
    gi_wp2
    refine Code.wpIn_mono (Q := fun e a w5 => e = .normal ∧ ∃ (A5 : Option Addr) (c5 : Nat), a = { tmps := #[.slice A rs.length c, undef, .slice none 0 0, .pointer (some ⟨w2.heap.size, 0, none⟩), .int .i64 (k : Int), .slice A5 fs.length c5, .slice A rs.length c, .bool true, .bool false, .slice A rs.length c, .slice K rs.length cK, .slice A rs.length c, .func (.func 32) #[] #[.pointer (some ⟨w2.heap.size + 1, 0, none⟩)], .int .i64 (k : Int), .agg #[.string s, .int .i64 f], .slice (some ⟨b, o, none⟩) ks.length cK', .int .i64 (k : Int), .slice (some ⟨b, o, none⟩) k cK', .slice (some ⟨b, o, none⟩) ks.length cK', .int .i64 (k : Int), .int .i64 ((k : Int) + 1), .slice (some ⟨b, o', none⟩) m d, .slice (some ⟨Wb.heap.size, 0, none⟩) 2 2, .slice A5 fs.length c5, undef, undef, undef, undef, undef], defers := [] } ∧ w5.ownsRow X.heap.size 30 2 (.slice A5 fs.length c5) fs.length (flat fs) ∧ Below X.heap.size X w5) ?imp ?reg
    case reg =>
      rename_i K1 a1 Q1 K2 a2
      clear a2 K2 Q1 a1 K1 HSR HSY HSN HE7 HBX HOB HLB HGB HBR HKS HNE HSB HSZ1 hro
      gi_region_with_o ((refine ⟨trivial, ?_⟩; gi_at_call 21; rw [HXE.out]; refine (CallsIn.inRound l (callsIn_wide.2 HCC.out)).mono ?_; rintro e w5 ⟨A5, c5, rfl, hown5, hb5⟩))
      all_goals exact ⟨rfl, A5, c5, rfl, hown5, hb5⟩
    case imp =>
      rintro e a w5 ⟨rfl, A5, c5, rfl, hown5, hb5⟩
      have hbb5 : Below Wb.heap.size Wb w5 := HBX.out.trans (hb5.mono HBX.out.size)
      have hownk := (HOB.out.below hbb5).more hbb5.size
      have hown5' := own_rowU hown5
      have hcap5 := own_cap hown5
      have hXz := HBX.out.size
      have hw0 : w.heap.size ≤ Wb.heap.size := by have := HSB.out; omega
      have hbz5 := hbb5.size
      have hn5 : KN A5 fs w2.heap.size l := by
        by_cases h : fs = []
        · exact .inl h
        · obtain ⟨g, rfl, h1, _⟩ := own_some hown5 (List.length_pos_iff.2 h)
          have hll2 := (Array.getElem?_eq_some_iff.1 HLB.out.1).1
          exact .inr ⟨g, 0, rfl, by omega, by omega⟩
      have hsr5 := HSR.out w5 A5 c5 (hownk.less (Nat.zero_le _)) (hown5'.less (Nat.zero_le _))
      have HSR5 := Lib.hid hsr5
      have hbk5 : Boxed w5 w2.heap.size 23 (.slice (some ⟨b, o, none⟩) ks.length cK') := HGB.out.2.2.kept (row := Option.none) ⟨hbb5.os, hbb5.tape, hbb5.output, hbb5.size, fun i hi _ => hbb5.block i hi⟩ (by simp)
      have hc5 := hbk5.cell
      have HB5 := Lib.hid hbb5
      have HW5 := Lib.hid (And.intro hownk (And.intro (hown5'.less (show w.heap.size + 1 ≤ X.heap.size + 1 by omega)) (And.intro hcap5 (And.intro hn5 hbk5))))
      clear hbb5 hownk hown5' hcap5 hn5 hsr5 hbk5 hown5 hb5
      cases q with
      | true =>
        gi_wp2_with (refine ⟨trivial, ?_⟩; gi_at_call 22; refine (CallsIn.inRound l (callsIn_wide.2 HSR5.out)).mono ?_; rintro e w6 ⟨rfl, hb6⟩; have hbk6 : Boxed w6 w2.heap.size 23 (.slice (some ⟨b, o, none⟩) ks.length cK') := HW5.out.2.2.2.2.kept (row := Option.none) ⟨hb6.os, hb6.tape, hb6.output, hb6.size, fun i hi _ => hb6.block i hi⟩ (by simp); have hc6 := hbk6.cell; have hf6 := hbk6.frozen; have HB6 := Lib.hid (HB5.out.trans (hb6.mono HB5.out.size)); have ho6f := (HW5.out.2.1.below hb6).more hb6.size; have ho6 := (HW5.out.1.below hb6).more hb6.size; clear hb6)
        obtain ⟨W7, hW7⟩ : ∃ W7, w6.setCell ⟨w2.heap.size, 0, none⟩ (.slice A5 fs.length c5) = W7 := ⟨_, rfl⟩
        have HW7 := Lib.hid hW7
        have hg67 : w6.grownBy W7 (some w2.heap.size) := by rw [← hW7]; exact g_set (World.grownBy.refl _ _) 0 _
        have hbk7 : Boxed W7 w2.heap.size 23 (.slice A5 fs.length c5) := by rw [← hW7]; exact hbk6.set _
        have ho7 := own_grownU ho6f HW5.out.2.2.2.1 hg67 (.inl rfl)
        rw [hW7]
        clear hW7
        have hgr6 : Wb.grownBy W7 (some w2.heap.size) := by rw [← HW7.out]; exact g_set ⟨HB6.out.os, HB6.out.tape, HB6.out.output, HB6.out.size, fun i hi _ => HB6.out.block i hi⟩ 0 _
        have hl6 : W7.heap[l]? = some (.loop { r with state := .busy }) := (hgr6.block l (Array.getElem?_eq_some_iff.1 HLB.out.1).1 (fun e => HNE.out.1 (by injection e with e; exact e.symm))).trans HLB.out.1
        have her := run_endRound (P := Tryd.prog) none hl6
        have hrr : ({ ({ r with state := .busy } : Loop) with state := (if (none : Option Code).isNone = true then LoopState.ready else LoopState.done), pending := none } : Loop) = r := HRR.out
        rw [hrr] at her
        refine ⟨_, _, her, rfl, ?_⟩
        have hgw : W.grownBy (W7.putObj l (.loop r)) (some w2.heap.size) := grown_roundU HLB.out.2 (by rw [HWB.out]; exact hgr6) HNE.out.1
        have hgp := grownBy_putObj' W7 l (.loop r)
        exact ⟨grown_trans HGB.out.1 hgw, A5, c5, fs, hbk7.kept hgp (fun e => HNE.out.1 (by injection e)), HW5.out.2.2.1, own_grownU ho7 HW5.out.2.2.2.1 hgp (.inr rfl), HW5.out.2.2.2.1, Lib.hid (by rw [← HKS.out.2.1, HSY.out trivial]), HKS.out.2.2.2, by have := HE7.out; omega⟩
      | false =>
        gi_wp2_with (refine ⟨trivial, ?_⟩; gi_at_call 22; refine (CallsIn.inRound l (callsIn_wide.2 HSR5.out)).mono ?_; rintro e w6 ⟨rfl, hb6⟩; have hbk6 : Boxed w6 w2.heap.size 23 (.slice (some ⟨b, o, none⟩) ks.length cK') := HW5.out.2.2.2.2.kept (row := Option.none) ⟨hb6.os, hb6.tape, hb6.output, hb6.size, fun i hi _ => hb6.block i hi⟩ (by simp); have hc6 := hbk6.cell; have hf6 := hbk6.frozen; have HB6 := Lib.hid (HB5.out.trans (hb6.mono HB5.out.size)); have ho6f := (HW5.out.2.1.below hb6).more hb6.size; have ho6 := (HW5.out.1.below hb6).more hb6.size; clear hb6)
        have hkn6 : KN (some ⟨b, o, none⟩) ks w2.heap.size l := .inr ⟨b, o, rfl, HNE.out.2.1, HNE.out.2.2⟩
        have hgr6 : Wb.grownBy w6 (some w2.heap.size) := ⟨HB6.out.os, HB6.out.tape, HB6.out.output, HB6.out.size, fun i hi _ => HB6.out.block i hi⟩
        have hl6 : w6.heap[l]? = some (.loop { r with state := .busy }) := (hgr6.block l (Array.getElem?_eq_some_iff.1 HLB.out.1).1 (fun e => HNE.out.1 (by injection e with e; exact e.symm))).trans HLB.out.1
        have her := run_endRound (P := Tryd.prog) none hl6
        have hrr : ({ ({ r with state := .busy } : Loop) with state := (if (none : Option Code).isNone = true then LoopState.ready else LoopState.done), pending := none } : Loop) = r := HRR.out
        rw [hrr] at her
        refine ⟨_, _, her, rfl, ?_⟩
        have hgw : W.grownBy (w6.putObj l (.loop r)) (some w2.heap.size) := grown_roundU HLB.out.2 (by rw [HWB.out]; exact hgr6) HNE.out.1
        have hgp := grownBy_putObj' w6 l (.loop r)
        exact ⟨grown_trans HGB.out.1 hgw, _, cK', ks, hbk6.kept hgp (fun e => HNE.out.1 (by injection e)), HKS.out.1, own_grownU ho6 hkn6 hgp (.inr rfl), hkn6, Lib.hid (by rw [← HKS.out.2.1, HSN.out trivial]), HKS.out.2.2.1, by omega⟩
  · rintro e W2 ⟨⟨u, rfl⟩, hg3, K3, c3, ks3, hb3, hcap3, ho3, hkn3, HT3, hrv3, _⟩
    have HV3 := Lib.hid (show ks3 = trimV rs from HT3.out)
    have hl2 : W2.heap[l]? = some (.loop r) := (hg3.block l hl1 (fun e => by injection e with e; omega)).trans hL1
    have hk2 : W2.heap[V0.heap.size]? = some (.deferred (some [])) := (hg3.block _ (by omega) (fun e => by injection e with e; omega)).trans hK1
    have hle := run_endLoop (P := Tryd.prog) hl2 (by rw [hst]; simp)
    rw [hpe] at hle
    refine ⟨none, _, hle, ?_⟩
    have hg24 := grownBy_putObj' W2 l (.loop { r with state := .exhausted, pending := none })
    have hB4 : Below w.heap.size w (W2.putObj l (.loop { r with state := .exhausted, pending := none })) :=
      (hbv1.grown hg3 hbv1.size (fun k e => by injection e with e; omega)).grown hg24 (Nat.le_trans hbv1.size hg3.size) (fun k e => by injection e with e; omega)
    have hb4 : Boxed (W2.putObj l (.loop { r with state := .exhausted, pending := none })) w2.heap.size 23 (.slice K3 ks3.length c3) := hb3.kept hg24 (fun e => by injection e with e; omega)
    have hk4 : (W2.putObj l (.loop { r with state := .exhausted, pending := none })).heap[V0.heap.size]? = some (.deferred (some [])) := (World.putObj_heap_other (by omega)).trans hk2
    have ho4 := own_grownU ho3 hkn3 hg24 (.inr rfl)
    obtain ⟨W4, hW4⟩ : ∃ W4, W2.putObj l (.loop { r with state := .exhausted, pending := none }) = W4 := ⟨_, rfl⟩
    rw [hW4] at hb4 hk4 hB4 ho4 ⊢
    have hc4 := hb4.cell
    have HB4 := Lib.hid (And.intro hB4 (And.intro ho4 hk4))
    have hnD : ∀ b o, K3 = some ⟨b, o, none⟩ → ks3 ≠ [] → b ≠ V0.heap.size := fun b o e hne => by
      subst e
      obtain ⟨b', o', e2, hlt2, hcc2⟩ := ho4.open (by rw [flat_length]; have := List.length_pos_iff.2 hne; omega)
      simp only [Option.some.injEq, Addr.mk.injEq, and_true] at e2
      obtain ⟨rfl, rfl⟩ := e2
      intro hb
      subst hb
      have := hcc2 0 _ (List.getElem?_eq_getElem (by rw [flat_length]; have := List.length_pos_iff.2 hne; omega))
      simp [World.cell?, hk4] at this
    have HND := Lib.hid hnD
    clear hW4 hle hl2 hk2 hg3 hb3 hB4 hb4 hL1 hK1 hg24 ho3 ho4 hkn3 hk4 hnD HR1 HI0 hbv1 hBs1 hBs hbv HVW HR HV HVA
    gi_wp2
    obtain ⟨hB4, ho4, hk4⟩ := HB4.out
    refine ⟨by simp, .inl ⟨_, _, rfl, run_takeDeferred hk4, ?_⟩⟩
    have hgD := grownBy_putObj' W4 V0.heap.size (.deferred none)
    have hBD : Below w.heap.size w (W4.putObj V0.heap.size (.deferred none)) := hB4.trans (belowK_b (w := w) (Nat.le_refl _) W4 _ _ _ (by omega) hk4 rfl rfl)
    have hoD : Own (W4.putObj V0.heap.size (.deferred none)) (w.heap.size + 1) (W4.putObj V0.heap.size (.deferred none)).heap.size K3 (flat ks3) := by
      by_cases h : ks3 = []
      · rw [h]; exact .inl rfl
      · exact (ho4.grown (Nat.le_refl _) hgD (fun b' o' e => HND.out b' o' e h)).more hgD.size
    refine ⟨_, results_tmp rfl _ _ _, K3, c3, ?_, ?_, ?_, hBD⟩
    · rw [← HV3.out]; rfl
    · rw [← HV3.out]; exact hcap3
    · rw [← HV3.out]; exact hoD

theorem impTrimRules_any (A : Option Addr) (c : Nat) (rs : List (ByteArray × Int)) (w : World) (hr : Own w 0 w.heap.size A (flat rs)) (hs : ∀ r ∈ rs, r.1.size ≤ 1048576) :
    Calls Tryd.prog 9 #[.slice A rs.length c] w (TrimPostU (trimR rs) w) := by
  by_cases hv : rulesB rs = true
  · have := callsIn_wide.1 (trimRules_in A c rs w hr hs hv)
    rwa [show trimV rs = trimR rs by rw [trimR, if_pos hv]] at this
  · have hv' : rulesB rs = false := by simpa using hv
    have HR := Lib.hid (show trimR rs = [] by rw [trimR, if_neg hv])
    have hva := impValidRules_any A c rs w hr (fun r h => Nat.le_trans (hs r h) (by omega))
    rw [hv'] at hva
    have HVA := Lib.hid hva
    clear hva hv hv' hs
    refine (callsIn_wide (n := 5)).1 ?_
    have hro : Fence.wide.round = none := rfl
    refine callsIn_of_wp_marks Tryd.func9 rfl trivial ?_ hro
    simp only [Tryd.ntmps9, List.size_toArray, List.length_cons, List.length_nil, Nat.reduceAdd, Nat.reduceSub, Array.replicate_succ, Array.replicate_zero, List.push_toArray, List.append_toArray, List.nil_append, List.cons_append]
    gi_wp2_with (refine ⟨trivial, ?_⟩; gi_at_call 8; refine (callsIn_wide.2 HVA.out).mono ?_; rintro e w1 ⟨rfl, hb1⟩)
    refine ⟨_, results_tmp rfl _ _ _, ?_⟩
    show TrimPostU (trimR rs) w (.returned (.slice none 0 0)) w1
    exact TrimPostU.none HR.out hb1
end Go.Proofs.YtamkaodbegjfpaaDoor
