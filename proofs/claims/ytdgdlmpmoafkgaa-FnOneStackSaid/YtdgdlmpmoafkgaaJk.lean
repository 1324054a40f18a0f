/- The walk of the law FnOneStack. No condition. -/
import Derived.Test.YtdgdlmpmoafkgaaJ6
import Derived.Test.YtdgdlmpmoafkgaaJ2
namespace Go.Proofs.Ytdgdlmpmoafkgaa
open Go.RowKit

/-- What is known of 'bad' ahead of the triple i, j, k. -/
def BadSt (ds : List Int) (i j k : Nat) (β : Bool) : Prop := (β = true → ∃ a b c, a < b ∧ b < c ∧ c < ds.length ∧ BadAt ds a b c) ∧ (β = false → ∀ a b c, a < b → b < c → c < ds.length → (a < i ∨ (a = i ∧ (b < j ∨ (b = j ∧ c < k)))) → ¬ BadAt ds a b c)
theorem BadSt.mono {ds : List Int} {i j k i' j' k' : Nat} {β : Bool} (h : BadSt ds i j k β) (hm : ∀ a b c : Nat, a < b → b < c → c < ds.length → (a < i' ∨ (a = i' ∧ (b < j' ∨ (b = j' ∧ c < k')))) → (a < i ∨ (a = i ∧ (b < j ∨ (b = j ∧ c < k))))) : BadSt ds i' j' k' β :=
  ⟨h.1, fun hb a b c h1 h2 h3 h4 => h.2 hb a b c h1 h2 h3 (hm a b c h1 h2 h3 h4)⟩
theorem BadSt.hit {ds : List Int} {i j k i' j' k' : Nat} (h1 : i < j) (h2 : j < k) (h3 : k < ds.length) (h : BadAt ds i j k) : BadSt ds i' j' k' true := ⟨fun _ => ⟨i, j, k, h1, h2, h3, h⟩, fun e => by cases e⟩
theorem BadSt.miss {ds : List Int} {i j k : Nat} (hs : BadSt ds i j k false) (h : ¬ BadAt ds i j k) : BadSt ds i j (k + 1) false :=
  ⟨fun e => (by cases e), fun _ a b c h1 h2 h3 h4 => by
    by_cases e : a = i ∧ b = j ∧ c = k
    · obtain ⟨rfl, rfl, rfl⟩ := e; exact h
    · exact hs.2 rfl a b c h1 h2 h3 (by omega)⟩
theorem BadSt.keep {ds : List Int} {i j k i' j' k' : Nat} (hs : BadSt ds i j k true) : BadSt ds i' j' k' true := ⟨hs.1, fun e => by cases e⟩
theorem BadSt.done {ds : List Int} {β : Bool} (hv : rowB 9 ds = true) (h : BadSt ds ds.length 0 0 β) : (β != eqI (osR ds) (tab ds.length fun j => (j : Int))) = true := by
  cases β with
  | true =>
    obtain ⟨a, b, c, h1, h2, h3, h4⟩ := h.1 rfl
    have : ¬ osR ds = tab ds.length (fun j => (j : Int)) := fun e => (osR_order hv).1 e a b c h1 h2 h3 h4
    unfold eqI
    rw [decide_eq_false this]; rfl
  | false =>
    have : osR ds = tab ds.length (fun j => (j : Int)) := (osR_order hv).2 fun i j k h1 h2 h3 => h.2 rfl i j k h1 h2 h3 (by omega)
    unfold eqI
    rw [decide_eq_true this]; rfl

set_option maxRecDepth 100000 in
set_option maxHeartbeats 8000000 in
theorem oneStack_law (A : Option Addr) (c : Nat) (zs : List Int) (w : World) (hr : Own w 0 w.heap.size A (zs.map (Value.int .u8))) (hx : zs.length ≤ c ∧ c ≤ maxLen ∧ ∀ z ∈ zs, (Lit.int .u8 z).wf = true) :
    Calls Try.prog 7 #[.slice A zs.length c] w fun e w' => e = .returned (.bool true) ∧ Below w.heap.size w w' := by
  have hl : zs.length ≤ 9223372036854775807 := by have := hx.1; have := hx.2.1; unfold maxLen at this; omega
  have HX := Lib.hid hx
  clear hx
  by_cases h20 : zs.length ≤ 1048576
  · go_enter Try.func7, Try.ntmps7
    go_wp2_with fail
    refine (drawOneStack_any _ _ _ _ hr HX.out).mono ?_
    rintro e w1 ⟨B, d, ds, rfl, h10, hdc, ho, hb1⟩
    have hql := oneV_len ds
    obtain ⟨q, hq⟩ : ∃ q, oneV ds = q := ⟨_, rfl⟩
    rw [hq] at hql
    have HQ := Lib.hid hq
    clear hq
    go_wp2_with fail
    refine (impOneStack_any _ _ _ _ ho hdc).mono ?_
    rw [HQ.out]
    rintro e w2 ⟨A2, c2, rfl, hc2, o2, hb2⟩
    have ho2 := ho.past hb2
    have hb12 := hb1.trans (hb2.mono hb1.size)
    have oq2 := o2.row
    clear ho hb1 hb2 o2
    go_wp2_with fail
    refine (specOneStackOf_any _ _ _ _ ho2 (by omega)).mono ?_
    rw [HQ.out]
    rintro e w3 ⟨A3, c3, rfl, hc3, o3, hb3⟩
    have ho3 := ho2.past hb3
    have oq3 := oq2.past hb3
    have hb13 := hb12.trans (hb3.mono hb12.size)
    have os3 := o3.row
    clear ho2 oq2 hb12 hb3 o3
    go_wp2_with fail
    refine (equalInts_any _ _ _ _ _ _ _ oq3 os3 (by omega)).mono ?_
    rw [eqI_refl']
    rintro e w4 ⟨rfl, n4, hw4⟩
    have hb4 : Below w3.heap.size w3 w4 := by rw [hw4]; exact below_drewN (Below.refl _ _) n4
    have ho4 := ho3.past hb4
    have oq4 := oq3.past hb4
    have hb14 := hb13.trans (hb4.mono hb13.size)
    clear ho3 oq3 hb13 hb4 os3 hw4
    by_cases h0 : q.length = 0
    · have hz : ((q.length : Int) == 0) = true := beq_iff_eq.2 (by omega)
      clear h0
      go_wp2_with fail
      refine (specOneStackOf_any _ _ _ _ ho4 (by omega)).mono ?_
      rw [HQ.out]
      rintro e w5 ⟨A5, c5, rfl, hc5, o5, hb5⟩
      have oq5 := oq4.past hb5
      have hb15 := hb14.trans (hb5.mono hb14.size)
      have os5 := o5.row
      clear oq4 hb14 hb5 o5
      go_wp2_with fail
      refine (equalInts_any _ _ _ _ _ _ _ oq5 os5 (by omega)).mono ?_
      rw [eqI_refl']
      rintro e w6 ⟨rfl, n6, rfl⟩
      go_wp2_with fail
      go_ret
      exact ⟨rfl, below_drewN hb15 n6⟩
    · have hz : ((q.length : Int) == 0) = false := beq_eq_false_iff_ne.2 (by omega)
      have hv : rowB 9 ds = true := by
        refine Decidable.by_contra fun hc => ?_
        have := oneV_no (show rowB 9 ds = false by simpa using hc)
        rw [HQ.out] at this; rw [this] at h0; exact h0 rfl
      have hqs : q = osR ds := by rw [← HQ.out, oneV_yes hv]
      have hqlen : q.length = ds.length := by rw [hqs, osR_len]
      have hl9 := rowB_len hv
      have HV := Lib.hid hv
      have HQS := Lib.hid (And.intro hqs hqlen)
      have hpos : 0 < ds.length := by omega
      clear h0 hv hqs hqlen
      go_wp2_with fail
      clear hz
      go_loopw [5, 6] (fun b i wr => ∃ (i' : Nat) (β : Bool), i' ≤ ds.length ∧ i = .int .i64 i' ∧ b = .bool β ∧ Hid (BadSt ds i' 0 0 β) ∧ ∃ z, wr = w4.drewN z) (fun _ i _ => ds.length - (intOf i).toNat)
      case atStart => exact ⟨0, false, by omega, rfl, rfl, Lib.hid ⟨fun e => (by cases e), fun _ a b c h1 h2 h3 h4 => by omega⟩, 0, rfl⟩
      case round =>
        obtain ⟨i, β, hi, rfl, rfl, HB, z, hzz⟩ := hrel
        have HZ := Lib.hid hzz
        obtain ⟨V, hV⟩ : ∃ V : World, V = wr := ⟨_, rfl⟩
        subst hV
        clear hzz
        by_cases hlt : i < ds.length
        · go_wp2_with fail
          go_loopw [5, 7] (fun b j wr => ∃ (j' : Nat) (β : Bool), i < j' ∧ j' ≤ ds.length ∧ j = .int .i64 j' ∧ b = .bool β ∧ Hid (BadSt ds i j' 0 β) ∧ ∃ z, wr = w4.drewN z) (fun _ j _ => ds.length - (intOf j).toNat)
          case atStart => exact ⟨i + 1, β, by omega, by omega, by go_num, rfl, Lib.hid (HB.out.mono fun a b c h1 h2 h3 h4 => by omega), z, HZ.out⟩
          case round =>
            clear HB HZ
            obtain ⟨j, β, hij, hj, rfl, rfl, HB, z, hzz⟩ := hrel
            have HZ := Lib.hid hzz
            obtain ⟨U, hU⟩ : ∃ U : World, U = wr := ⟨_, rfl⟩
            subst hU
            clear hzz
            by_cases hlj : j < ds.length
            · go_wp2_with fail
              go_loopw [5, 8] (fun b k wr => ∃ (k' : Nat) (β : Bool), j < k' ∧ k' ≤ ds.length ∧ k = .int .i64 k' ∧ b = .bool β ∧ Hid (BadSt ds i j k' β) ∧ ∃ z, wr = w4.drewN z) (fun _ k _ => ds.length - (intOf k).toNat)
              case atStart => exact ⟨j + 1, β, by omega, by omega, by go_num, rfl, Lib.hid (HB.out.mono fun a b c h1 h2 h3 h4 => by omega), z, HZ.out⟩
              case round =>
                clear HB HZ
                obtain ⟨k, β, hjk, hk, rfl, rfl, HB, z, hzz⟩ := hrel
                have HZ := Lib.hid hzz
                by_cases hlk : k < ds.length
                · have hown : Own wr 0 w4.heap.size B (ds.map (Value.int .i64)) := by rw [hzz]; exact ho4
                  obtain ⟨bb, oo, rfl, hbb, hc⟩ := hown.open (by simp; omega)
                  have hcI := ints_atD hc hlt
                  have hcJ := ints_atD hc hlj
                  have hcK := ints_atD hc hlk
                  have HBA := Lib.hid (show BadAt ds i j k ↔ (ds.getD k 0 < ds.getD i 0 ∧ ds.getD i 0 < ds.getD j 0) from Iff.rfl)
                  obtain ⟨zi, hzi⟩ : ∃ y, ds.getD i 0 = y := ⟨_, rfl⟩
                  obtain ⟨zj, hzj⟩ : ∃ y, ds.getD j 0 = y := ⟨_, rfl⟩
                  obtain ⟨zk, hzk⟩ : ∃ y, ds.getD k 0 = y := ⟨_, rfl⟩
                  rw [hzi] at hcI
                  rw [hzj] at hcJ
                  rw [hzk] at hcK
                  rw [hzi, hzj, hzk] at HBA
                  have hiI : (i : Int) < ds.length := by omega
                  have hi0' : (0 : Int) ≤ (i : Int) := by omega
                  have hjI : (j : Int) < ds.length := by omega
                  have hj0 : (0 : Int) ≤ (j : Int) := by omega
                  have hkI : (k : Int) < ds.length := by omega
                  have hk0 : (0 : Int) ≤ (k : Int) := by omega
                  clear hzz hown hc hzi hzj hzk hbb
                  cases β with
                  | true =>
                    go_wp2_with fail
                    go_quiet (fail)
                    go_simp
                    go_wp2
                    go_roundw
                    case rel => exact ⟨k + 1, true, by omega, by omega, by go_num, rfl, Lib.hid HB.out.keep, by rw [HZ.out]; exact ⟨_, World.drewN_drewN ..⟩⟩
                    case measure => simp [intOf]; omega
                  | false =>
                    by_cases h1 : zk < zi
                    · have hd1 : decide (zk < zi) = true := decide_eq_true h1
                      by_cases h2 : zi < zj
                      · have hd2 : decide (zi < zj) = true := decide_eq_true h2
                        have HN := Lib.hid (show BadSt ds i j (k + 1) true from BadSt.hit hij hjk hlk (HBA.out.2 ⟨h1, h2⟩))
                        clear h1 h2
                        go_wp2_with fail
                        go_quiet (fail)
                        go_simp
                        go_wp2
                        go_roundw
                        case rel => exact ⟨k + 1, true, by omega, by omega, by go_num, rfl, HN, by rw [HZ.out]; exact ⟨_, World.drewN_drewN ..⟩⟩
                        case measure => simp [intOf]; omega
                      · have hd2 : decide (zi < zj) = false := decide_eq_false h2
                        have HN := Lib.hid (show BadSt ds i j (k + 1) false from HB.out.miss fun e => h2 (HBA.out.1 e).2)
                        clear h1 h2
                        go_wp2_with fail
                        go_quiet (fail)
                        go_simp
                        go_wp2
                        go_roundw
                        case rel => exact ⟨k + 1, false, by omega, by omega, by go_num, rfl, HN, by rw [HZ.out]; exact ⟨_, World.drewN_drewN ..⟩⟩
                        case measure => simp [intOf]; omega
                    · have hd1 : decide (zk < zi) = false := decide_eq_false h1
                      have HN := Lib.hid (show BadSt ds i j (k + 1) false from HB.out.miss fun e => h1 (HBA.out.1 e).1)
                      clear h1
                      go_wp2_with fail
                      go_quiet (fail)
                      go_simp
                      go_wp2
                      go_roundw
                      case rel => exact ⟨k + 1, false, by omega, by omega, by go_num, rfl, HN, by rw [HZ.out]; exact ⟨_, World.drewN_drewN ..⟩⟩
                      case measure => simp [intOf]; omega
                · clear hzz
                  go_wp2_with fail
                  go_roundw
                  case rel => exact ⟨j + 1, β, by omega, by omega, by go_num, rfl, Lib.hid (HB.out.mono fun a b c h1 h2 h3 h4 => by omega), z, HZ.out⟩
                  case measure => simp [intOf]; omega
            · go_wp2_with fail
              go_roundw
              case rel => exact ⟨i + 1, β, by omega, by go_num, rfl, Lib.hid (HB.out.mono fun a b c h1 h2 h3 h4 => by omega), z, HZ.out⟩
              case measure => simp [intOf]; omega
        · have hin : i = ds.length := by omega
          have hdn := BadSt.done HV.out (β := β) (by rw [← hin]; exact HB.out)
          rw [← HQS.out.1] at hdn
          obtain ⟨bl, hbl⟩ : ∃ bl, eqI q (tab ds.length fun j => (j : Int)) = bl := ⟨_, rfl⟩
          rw [hbl] at hdn
          have hcase : (β = true ∧ bl = false) ∨ (β = false ∧ bl = true) := by cases β <;> cases bl <;> simp_all
          have hend := osR_end HV.out hpos
          have hrow : rowB 9 q = true := by rw [HQS.out.1]; exact osR_row HV.out
          rw [← HQS.out.1] at hend
          have HF := Lib.hid (And.intro hbl (And.intro hend hrow))
          have hownq : Own V 0 V.heap.size A2 (q.map (Value.int .i64)) := by rw [HZ.out]; exact oq4
          have hb5 : Below w.heap.size w V := by rw [HZ.out]; exact below_drewN hb14 z
          have hd9 : ds.length ≤ 1000 := by omega
          have hql2 : q.length ≤ ds.length := by have := HQS.out.2; omega
          have hql3 : ds.length ≤ q.length := by have := HQS.out.2; omega
          clear hin hbl hend hrow HB hdn
          rcases hcase with ⟨rfl, rfl⟩ | ⟨rfl, rfl⟩
          all_goals
            go_wp2_with fail
            refine (inOrder_any ds.length _ hd9).mono ?_
            rintro e w6 ⟨A6, c6, rfl, hc6, ho6, hb6⟩
            have oq6 := hownq.past hb6
            have hb16 := hb5.trans (hb6.mono hb5.size)
            have hi6 := equalInts_any A2 A6 c2 c6 q (tab ds.length fun j => (j : Int)) w6 oq6 ho6.row (by omega)
            rw [tab_length, HF.out.1] at hi6
            have HI6 := Lib.hid hi6
            clear hi6 ho6 hownq hb5 hb6
            go_wp2_with fail
            refine HI6.out.mono ?_
            rintro e w7 ⟨rfl, n7, hw7⟩
            have hb7 : Below w6.heap.size w6 w7 := by rw [hw7]; exact below_drewN (Below.refl _ _) n7
            have oq7 := oq6.past hb7
            have hb17 := hb16.trans (hb7.mono hb16.size)
            have hva := impValidRow_any A2 c2 q w7 oq7 hc2
            rw [HF.out.2.2] at hva
            have HVA := Lib.hid hva
            obtain ⟨n, hn⟩ : ∃ n, ds.length = n + 1 := ⟨ds.length - 1, by omega⟩
            obtain ⟨bq, oq, rfl, hbq, hcq⟩ := oq7.open (by simp; omega)
            have hcN := ints_atD hcq (show n < q.length by omega)
            rw [show q.getD n 0 = (n : Int) by have := HF.out.2.1; rw [show ds.length - 1 = n by omega] at this; omega] at hcN
            have hwn : IntKind.i64.wrap ((ds.length : Int) - 1) = (n : Int) := by rw [show (ds.length : Int) - 1 = (n : Int) by omega]; exact IntWalk.i64_in _ (by omega)
            have hnI : (n : Int) < q.length := by omega
            have hn0 : (0 : Int) ≤ (n : Int) := by omega
            clear hw7 hb7 hb16 oq6 oq7 hcq hva hn
            go_wp2_with (go_at_call 18; refine HVA.out.mono ?_; rintro e w' ⟨rfl, rfl⟩)
            go_ret
            exact ⟨rfl, hb17⟩
  · go_enter Try.func7, Try.ntmps7
    go_wp2
    go_ret
    exact ⟨rfl, Below.refl _ _⟩
end Go.Proofs.Ytdgdlmpmoafkgaa
