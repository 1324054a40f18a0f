/- Texts shaped as codes, and texts that are near: spec.shaped, spec.near. No condition. -/
import Derived.Test.YtempfagjbpnlcaaC5
import Derived.Deep.QuietTactic
import Derived.BigQuiet
import Derived.Test.YtempfagjbpnlcaaDr
namespace Go.Proofs.Ytempfagjbpnlcaa
open Go.RowKit

def okC (l : List UInt8) (k : Nat) : Bool := k == 4 || isDig (l.getD k 0) || (k == 5 && l.getD k 0 == 120)
def shapedB (l : List UInt8) : Bool := decide (l.length = 6) && l.getD 4 0 == 45 && (List.range 6).all (okC l)
def difC (a b : List UInt8) (k : Nat) : Bool := a.getD k 0 != b.getD k 0
def cntD (a b : List UInt8) : Nat → Nat
  | 0 => 0
  | k + 1 => cntD a b k + if difC a b k then 1 else 0
def fstD (a b : List UInt8) : Nat → Int
  | 0 => -1
  | k + 1 => if difC a b k && decide (fstD a b k < 0) then (k : Int) else fstD a b k
def nearB (a b : List UInt8) : Bool := cntD a b 6 == 1 || (cntD a b 6 == 2 && decide (fstD a b 6 + 1 < 4) && a.getD (fstD a b 6).toNat 0 == b.getD ((fstD a b 6).toNat + 1) 0 && a.getD ((fstD a b 6).toNat + 1) 0 == b.getD (fstD a b 6).toNat 0)
theorem cntD_le (a b : List UInt8) (k : Nat) : cntD a b k ≤ k := by
  induction k with
  | zero => simp [cntD]
  | succ n ih => simp only [cntD]; split <;> omega
theorem fstD_bd (a b : List UInt8) (k : Nat) : -1 ≤ fstD a b k ∧ fstD a b k < (k : Int) := by
  induction k with
  | zero => simp [fstD]
  | succ n ih => simp only [fstD]; split <;> omega
theorem fstD_cnt (a b : List UInt8) (k : Nat) : 0 < cntD a b k → 0 ≤ fstD a b k := by
  induction k with
  | zero => simp [cntD]
  | succ n ih =>
    simp only [cntD, fstD]
    intro h
    by_cases hd : difC a b n = true
    · by_cases hf : fstD a b n < 0
      · simp [hd, hf]
      · simp [hd, hf]; omega
    · simp [hd] at h ⊢; exact ih h
theorem byte_getD (s : ByteArray) (k : Nat) (h : k < s.size) : s.data.toList.getD k 0 = s[k]'h := by
  rw [List.getD_eq_getElem?_getD, byte_get s k h]; rfl

set_option maxRecDepth 100000 in
set_option maxHeartbeats 2000000 in
theorem shaped_any (s : ByteArray) (w : World) :
    Calls Try.prog 41 #[.string s] w fun e w' => e = .returned (.bool (shapedB s.data.toList)) ∧ w = w' := by
  by_cases hs : s.size = 6
  · have hl6 : s.data.toList.length = 6 := by rw [Array.length_toList]; exact hs
    have HL6 := Lib.hid hl6
    clear hl6
    have h4s : 4 < s.size := by omega
    by_cases h4 : (s[4]'h4s).toNat = 45
    · have h44 : s.data.toList.getD 4 0 = 45 := by rw [byte_getD s 4 h4s]; exact UInt8.toNat_inj.1 h4
      have H44 := Lib.hid h44
      clear h44
      go_enter Try.func41, Try.ntmps41
      go_wp2
      go_loopw [3] (fun i wr => ∃ k : Nat, k ≤ 6 ∧ i = .int .i64 k ∧ wr = w ∧ (List.range k).all (okC s.data.toList) = true) (fun i _ => 6 - (intOf i).toNat)
      case atStart => exact ⟨0, by omega, rfl, rfl, rfl⟩
      case round =>
        obtain ⟨k, hk, rfl, hw, hall⟩ := hrel
        subst hw
        have HA := Lib.hid hall
        clear hall
        by_cases hlt : k < 6
        · have hks : k < s.size := by omega
          have hb := byte_getD s k hks
          have HB := Lib.hid hb
          clear hb
          have h1 : (48 ≤ (s[k]'hks).toNat ∧ (s[k]'hks).toNat ≤ 57) ∨ (s[k]'hks).toNat < 48 ∨ 57 < (s[k]'hks).toNat := by omega
          by_cases hok : okC s.data.toList k = true
          · have hnext : (List.range (k + 1)).all (okC s.data.toList) = true := by rw [List.range_succ, List.all_append, HA.out]; simp [hok]
            have HN := Lib.hid hnext
            simp only [okC, HB.out, isDig, Bool.or_eq_true, Bool.and_eq_true, beq_iff_eq, decide_eq_true_eq] at hok
            clear hnext
            by_cases hk4 : k = 4
            · subst hk4
              rcases h1 with h | h | h
              · obtain ⟨h, h'⟩ := h
                go_wp2
                go_roundw
                case rel => exact ⟨5, by omega, rfl, trivial, HN.out⟩
                case measure => simp [intOf]
              all_goals
                go_wp2
                go_roundw
                case rel => exact ⟨5, by omega, rfl, trivial, HN.out⟩
                case measure => simp [intOf]
            · have hn4 : ((k : Int) != 4) = true := bne_iff_ne.2 (by omega)
              rcases hok with (hd | hd) | ⟨hk5, hd⟩
              · exact absurd hd hk4
              · obtain ⟨hd1, hd2⟩ := hd
                clear h1 hk4
                go_wp2
                go_roundw
                case rel => exact ⟨k + 1, by omega, by go_num, trivial, HN.out⟩
                case measure => simp [intOf]; omega
              · subst hk5
                have h120 : ((s[5]'hks).toNat : Int) = 120 := by rw [hd]; rfl
                have h57 : 57 < ((s[5]'hks).toNat : Int) := by omega
                have h48 : 48 ≤ ((s[5]'hks).toNat : Int) := by omega
                have heq : (((s[5]'hks).toNat : Int) == 120) = true := beq_iff_eq.2 h120
                clear h1 hk4 hd h120
                go_wp2
                go_roundw
                case rel => exact ⟨6, by omega, rfl, trivial, HN.out⟩
                case measure => simp [intOf]
          · have hno : shapedB s.data.toList = false := by
              unfold shapedB
              rw [show (List.range 6).all (okC s.data.toList) = false from by
                rw [List.all_eq_false]; exact ⟨k, List.mem_range.2 hlt, hok⟩]
              simp
            have HNO := Lib.hid hno
            simp only [okC, HB.out, isDig, Bool.or_eq_true, Bool.and_eq_true, beq_iff_eq, decide_eq_true_eq] at hok
            clear hno
            have hn4 : ((k : Int) != 4) = true := bne_iff_ne.2 (by omega)
            have hbad : (s[k]'hks).toNat < 48 ∨ 57 < (s[k]'hks).toNat := by
              rcases h1 with h | h
              · exact absurd (.inl (.inr h)) hok
              · exact h
            by_cases hk5 : k = 5
            · subst hk5
              have h120 : (((s[5]'hks).toNat : Int) == 120) = false := beq_eq_false_iff_ne.2 fun e => hok (.inr ⟨rfl, UInt8.toNat_inj.1 (by have : (120 : UInt8).toNat = 120 := rfl; omega)⟩)
              clear h1 hok
              rcases hbad with h | h
              · have h48 : ((s[5]'hks).toNat : Int) < 48 := by omega
                clear h
                go_wp2
                go_ret
                exact ⟨ret_bool HNO.out.symm, rfl⟩
              · have h57 : decide (((s[5]'hks).toNat : Int) ≤ 57) = false := decide_eq_false (by omega)
                have h48 : (48 : Int) ≤ ((s[5]'hks).toNat : Int) := by omega
                clear h
                go_wp2
                go_ret
                exact ⟨ret_bool HNO.out.symm, rfl⟩
            · have h5 : ((k : Int) == 5) = false := beq_eq_false_iff_ne.2 (by omega)
              clear h1 hok hk5
              rcases hbad with h | h
              · have h48 : ((s[k]'hks).toNat : Int) < 48 := by omega
                clear h
                go_wp2
                go_ret
                exact ⟨ret_bool HNO.out.symm, rfl⟩
              · have h57 : decide (((s[k]'hks).toNat : Int) ≤ 57) = false := decide_eq_false (by omega)
                have h48 : (48 : Int) ≤ ((s[k]'hks).toNat : Int) := by omega
                clear h
                go_wp2
                go_ret
                exact ⟨ret_bool HNO.out.symm, rfl⟩
        · have hk6 : k = 6 := by omega
          subst hk6
          have hyes : shapedB s.data.toList = true := by
            unfold shapedB; rw [HA.out, H44.out]; simp [HL6.out]
          have HY := Lib.hid hyes
          clear hyes
          go_wp2
          go_ret
          exact ⟨ret_bool HY.out.symm, rfl⟩
    · have hno : shapedB s.data.toList = false := by
        unfold shapedB
        rw [byte_getD s 4 h4s, show ((s[4]'h4s) == (45 : UInt8)) = false from beq_eq_false_iff_ne.2 fun e => h4 (by rw [e]; rfl)]
        simp
      have HNO := Lib.hid hno
      have hne : (((s[4]'h4s).toNat : Int) != 45) = true := bne_iff_ne.2 (by omega)
      clear hno h4
      go_enter Try.func41, Try.ntmps41
      go_wp2
      go_ret
      exact ⟨ret_bool HNO.out.symm, rfl⟩
  · have hno : shapedB s.data.toList = false := by
      unfold shapedB
      rw [decide_eq_false (by rw [Array.length_toList]; exact hs)]; rfl
    have HNO := Lib.hid hno
    have hne : ((s.size : Int) != 6) = true := bne_iff_ne.2 (by omega)
    clear hno hs
    go_enter Try.func41, Try.ntmps41
    go_wp2
    go_ret
    exact ⟨ret_bool HNO.out.symm, rfl⟩



theorem idx_at (s : ByteArray) (g : Nat) (h : g < s.size) (w : World) : (Instr.index 9 (.string s) (.int .i64 (g : Int))).run Try.prog w = .ok (.int .u8 ((s[g]'h).toNat : Int)) w := by
  rw [run_index_string w 9 s .i64 _ (by kernel_rfl), dif_pos (by omega)]
  rfl
theorem idx_at1 (s : ByteArray) (g : Nat) (h : g + 1 < s.size) (w : World) : (Instr.index 9 (.string s) (.int .i64 ((g : Int) + 1))).run Try.prog w = .ok (.int .u8 ((s[g + 1]'h).toNat : Int)) w := by
  rw [run_index_string w 9 s .i64 _ (by kernel_rfl), dif_pos (by omega)]
  rfl

set_option maxRecDepth 100000 in
set_option maxHeartbeats 4000000 in
/-- Near texts. -/
theorem near_any (s t : ByteArray) (w : World) (hs : s.size = 6) (ht : t.size = 6) :
    Calls Try.prog 42 #[.string s, .string t] w fun e w' => e = .returned (.bool (nearB s.data.toList t.data.toList)) ∧ ∃ n, w' = w.drewN n := by
  obtain ⟨a, ha⟩ : ∃ a, s.data.toList = a := ⟨_, rfl⟩
  obtain ⟨b, hb⟩ : ∃ b, t.data.toList = b := ⟨_, rfl⟩
  have HAA := Lib.hid ha
  have HBB := Lib.hid hb
  rw [ha, hb]
  clear ha hb
  obtain ⟨V, hV⟩ : ∃ V, nearB a b = V := ⟨_, rfl⟩
  have HV := Lib.hid hV
  rw [hV]
  clear hV
  go_enter Try.func42, Try.ntmps42
  go_wp2
  go_loopw [5, 6, 7] (fun c f i wr => ∃ k n : Nat, k ≤ 6 ∧ i = .int .i64 k ∧ c = .int .i64 (cntD a b k : Nat) ∧ f = .int .i64 (fstD a b k) ∧ wr = w.drewN n) (fun _ _ i _ => 6 - (intOf i).toNat)
  case atStart => exact ⟨0, 0, by omega, rfl, rfl, rfl, rfl⟩
  case round =>
    obtain ⟨k, n, hk, rfl, rfl, rfl, hw⟩ := hrel
    obtain ⟨cn, hcn⟩ : ∃ cn, cntD a b k = cn := ⟨_, rfl⟩
    obtain ⟨fs, hfs⟩ : ∃ fs, fstD a b k = fs := ⟨_, rfl⟩
    have hcb := cntD_le a b k
    have hfb := fstD_bd a b k
    have hfc := fstD_cnt a b k
    rw [hcn] at hcb hfc
    rw [hfs] at hfb hfc
    rw [hcn, hfs]
    have HW := Lib.hid hw
    have HC := Lib.hid hcn
    have HF := Lib.hid hfs
    have HFC := Lib.hid hfc
    clear hcn hfs hw hfc
    by_cases hlt : k < 6
    · have hks : k < s.size := by omega
      have hkt : k < t.size := by omega
      have hA := byte_getD s k hks
      have hB := byte_getD t k hkt
      rw [HAA.out] at hA
      rw [HBB.out] at hB
      have HA := Lib.hid hA
      have HB := Lib.hid hB
      clear hA hB
      by_cases hd : difC a b k = true
      · have hne : (((s[k]'hks).toNat : Int) != ((t[k]'hkt).toNat : Int)) = true := by
          refine bne_iff_ne.2 fun e => ?_
          have : s[k]'hks = t[k]'hkt := UInt8.toNat_inj.1 (by omega)
          unfold difC at hd
          rw [HA.out, HB.out, this] at hd
          simp at hd
        have hc1 : cntD a b (k + 1) = cn + 1 := by simp only [cntD, HC.out, hd, if_true]
        have HC1 := Lib.hid hc1
        clear hc1
        by_cases hf : fs < 0
        · have hf1 : fstD a b (k + 1) = (k : Int) := by simp only [fstD, HF.out, hd, hf, decide_true, Bool.and_true, if_true]
          have HF1 := Lib.hid hf1
          clear hf1 hd
          go_wp2
          go_region
          go_wp2
          go_roundw
          case rel => exact ⟨k + 1, n + 1, by omega, by go_num, by rw [HC1.out]; go_num, by rw [HF1.out], by rw [HW.out]; rfl⟩
          case measure => simp [intOf]; omega
        · have hf1 : fstD a b (k + 1) = fs := by simp only [fstD, HF.out, hd, hf, decide_false, Bool.and_false, Bool.false_eq_true, if_false]
          have HF1 := Lib.hid hf1
          have hf0 : 0 ≤ fs := by omega
          clear hf1 hd hf
          go_wp2
          go_region
          go_wp2
          go_roundw
          case rel => exact ⟨k + 1, n + 1, by omega, by go_num, by rw [HC1.out]; go_num, by rw [HF1.out], by rw [HW.out]; rfl⟩
          case measure => simp [intOf]; omega
      · have hne : (((s[k]'hks).toNat : Int) != ((t[k]'hkt).toNat : Int)) = false := by
          refine bne_eq_false_iff_eq.2 ?_
          have : s[k]'hks = t[k]'hkt := by unfold difC at hd; rw [HA.out, HB.out] at hd; simpa using hd
          rw [this]
        have hc1 : cntD a b (k + 1) = cn := by simp [cntD, HC.out, hd]
        have hf1 : fstD a b (k + 1) = fs := by simp [fstD, HF.out, hd]
        have HC1 := Lib.hid hc1
        have HF1 := Lib.hid hf1
        clear hc1 hf1 hd
        go_wp2
        go_region
        go_wp2
        go_roundw
        case rel => exact ⟨k + 1, n + 1, by omega, by go_num, by rw [HC1.out], by rw [HF1.out], by rw [HW.out]; rfl⟩
        case measure => simp [intOf]; omega
    · have hk6 : k = 6 := by omega
      subst hk6
      have hV' := HV.out
      simp only [nearB, HC.out, HF.out] at hV'
      by_cases h1 : cn = 1
      · subst h1
        have hVt : V = true := by simpa using hV'.symm
        subst hVt
        clear hV'
        go_wp2
        go_ret
        exact ⟨rfl, n, HW.out⟩
      · have hn1 : ((cn : Int) == 1) = false := beq_eq_false_iff_ne.2 (by omega)
        have hn1' : (cn == 1) = false := beq_eq_false_iff_ne.2 h1
        rw [hn1', Bool.false_or] at hV'
        by_cases h2 : cn = 2
        · subst h2
          have hf0 := HFC.out (by omega)
          obtain ⟨g, rfl⟩ := Int.eq_ofNat_of_zero_le hf0
          by_cases h4 : g < 3
          · have hg0 : g < s.size := by omega
            have hg1 : g + 1 < s.size := by omega
            have hg2 : g < t.size := by omega
            have hg3 : g + 1 < t.size := by omega
            have e0 := byte_getD s g hg0
            have e1 := byte_getD s (g + 1) hg1
            have e2 := byte_getD t g hg2
            have e3 := byte_getD t (g + 1) hg3
            rw [HAA.out] at e0 e1
            rw [HBB.out] at e2 e3
            simp only [Int.toNat_natCast] at hV'
            rw [e0, e1, e2, e3] at hV'
            clear e0 e1 e2 e3
            have hq : (((g : Int) + 1 < 4)) := by omega
            rw [decide_eq_true hq] at hV'
            simp only [BEq.rfl, Bool.true_and] at hV'
            have key : ∀ x y : UInt8, (((x.toNat : Int) == (y.toNat : Int))) = (x == y) := fun x y => by
              rw [Bool.eq_iff_iff, beq_iff_eq, beq_iff_eq]
              exact ⟨fun e => UInt8.toNat_inj.1 (by omega), fun e => by rw [e]⟩
            have k1 := key (s[g]'hg0) (t[g + 1]'hg3)
            have k2 := key (s[g + 1]'hg1) (t[g]'hg2)
            have hw : IntKind.i64.wrap ((g : Int) + 1) = (g : Int) + 1 := IntWalk.i64_in _ (by omega)
            have x1 := fun W => idx_at s g hg0 W
            have x2 := fun W => idx_at1 s g hg1 W
            have x3 := fun W => idx_at t g hg2 W
            have x4 := fun W => idx_at1 t g hg3 W
            obtain ⟨p1, hp1⟩ : ∃ p : Int, ((s[g]'hg0).toNat : Int) = p := ⟨_, rfl⟩
            obtain ⟨p2, hp2⟩ : ∃ p : Int, ((s[g + 1]'hg1).toNat : Int) = p := ⟨_, rfl⟩
            obtain ⟨p3, hp3⟩ : ∃ p : Int, ((t[g]'hg2).toNat : Int) = p := ⟨_, rfl⟩
            obtain ⟨p4, hp4⟩ : ∃ p : Int, ((t[g + 1]'hg3).toNat : Int) = p := ⟨_, rfl⟩
            rw [hp1] at x1 k1
            rw [hp2] at x2 k2
            rw [hp3] at x3 k2
            rw [hp4] at x4 k1
            clear key hn1' hf0 h4 hp1 hp2 hp3 hp4
            cases h1' : (s[g]'hg0 == t[g + 1]'hg3) <;> cases h2' : (s[g + 1]'hg1 == t[g]'hg2) <;> rw [h1'] at k1 hV' <;> rw [h2'] at k2 hV' <;> (clear h1' h2'; simp at hV'; subst hV'; go_wp2; go_quiet (fail); go_wp2; go_ret; exact ⟨rfl, by rw [HW.out]; exact ⟨_, World.drewN_drewN ..⟩⟩)
          · have hq : ¬ (((g : Int) + 1 < 4)) := by omega
            rw [decide_eq_false hq] at hV'
            have hVf : V = false := by simpa using hV'.symm
            subst hVf
            have hq' : decide ((g : Int) + 1 < 4) = false := decide_eq_false hq
            have hw : IntKind.i64.wrap ((g : Int) + 1) = (g : Int) + 1 := IntWalk.i64_in _ (by have := hfb; omega)
            clear hV' hq hn1'
            go_wp2
            go_quiet (fail)
            go_wp2
            go_ret
            exact ⟨rfl, by rw [HW.out]; exact ⟨_, World.drewN_drewN ..⟩⟩
        · have hn2 : ((cn : Int) == 2) = false := beq_eq_false_iff_ne.2 (by omega)
          have hn2' : (cn == 2) = false := beq_eq_false_iff_ne.2 h2
          rw [hn2'] at hV'
          have hVf : V = false := by simpa using hV'.symm
          subst hVf
          clear hV' hn1' hn2' h1 h2
          go_wp2
          go_quiet (fail)
          go_wp2
          go_ret
          exact ⟨rfl, by rw [HW.out]; exact ⟨_, World.drewN_drewN ..⟩⟩


theorem Try.info9s : (Try.prog.info? 9).map (fun i => (i.zero, i.size, i.bytes)) = some (some (.string ⟨#[]⟩), 1, 16) := by kernel_rfl

/-- The digits of a number. -/
def D4 (n : Nat) : List Int := [((n / 1000 : Nat) : Int), ((n / 100 % 10 : Nat) : Int), ((n / 10 % 10 : Nat) : Int), ((n % 10 : Nat) : Int)]
def codeN (n : Nat) : List UInt8 := codeL (D4 n) (checkF (D4 n))
def repN (l : List UInt8) (k : Nat) : List Nat := (List.range k).filter fun n => nearB l (codeN n)
def repT (l : List UInt8) (k : Nat) : List (List UInt8) := (repN l k).map codeN
def repV (l : List UInt8) : List (List UInt8) := if shapedB l && !readOk l then repT l 10000 else []
theorem repV_no {l : List UInt8} (h : shapedB l = false ∨ readOk l = true) : repV l = [] := by rcases h with h | h <;> simp [repV, h]
theorem repV_yes {l : List UInt8} (h : shapedB l = true) (h2 : readOk l = false) : repV l = repT l 10000 := by simp [repV, h, h2]
theorem D4_valid {n : Nat} (h : n < 10000) : validD (D4 n) = true := by
  simp [validD, D4, inR]
  omega
theorem repT_len (l : List UInt8) (k : Nat) : (repT l k).length ≤ k := by
  unfold repT repN
  rw [List.length_map]
  exact Nat.le_trans (List.length_filter_le _ _) (by simp)
theorem repT_yes {l : List UInt8} {k : Nat} (h : nearB l (codeN k) = true) : repT l (k + 1) = repT l k ++ [codeN k] := by
  unfold repT repN
  rw [List.range_succ, List.filter_append, List.map_append]
  simp [h]
theorem repT_no {l : List UInt8} {k : Nat} (h : nearB l (codeN k) = false) : repT l (k + 1) = repT l k := by
  unfold repT repN
  rw [List.range_succ, List.filter_append, List.map_append]
  simp [h]
theorem codeN_len (n : Nat) : (codeN n).length = 6 := by simp [codeN, codeL, D4]
theorem shaped_len {l : List UInt8} (h : shapedB l = true) : l.length = 6 := by
  unfold shapedB at h
  simp only [Bool.and_eq_true, decide_eq_true_eq] at h
  exact h.1.1

theorem row_drewN {w : World} {base : Nat} {e : TypeId} {n s : Nat} {v : Value} {xs : List Value} (h : w.ownsRow base e s v n xs) (k : Nat) : (w.drewN k).ownsRow base e s v n xs := by
  induction k with
  | zero => exact h
  | succ k ih => exact ih.drew

set_option maxRecDepth 100000 in
set_option maxHeartbeats 4000000 in
theorem specRepairs_any (s : ByteArray) (w : World) :
    Calls Try.prog 19 #[.string s] w fun e w' => ∃ A c, e = .returned (.slice A (repV s.data.toList).length c) ∧ (repV s.data.toList).length ≤ c ∧ Own w' (w.heap.size + 1) w'.heap.size A ((repV s.data.toList).map str) ∧ Below w.heap.size w w' := by
  have hsh := shaped_any s w
  obtain ⟨l, hl⟩ : ∃ l, s.data.toList = l := ⟨_, rfl⟩
  rw [hl] at hsh
  by_cases h1 : shapedB l = true
  · have h6 : s.size = 6 := by have := shaped_len h1; rw [← hl, Array.length_toList] at this; exact this
    rw [h1] at hsh
    have hrd := specReadCode_six s w h6
    rw [hl] at hrd
    have HSH := Lib.hid hsh
    have HRD := Lib.hid hrd
    have HL := Lib.hid hl
    have H6 := Lib.hid h6
    rw [hl]
    clear hsh hrd hl h6
    by_cases h2 : readOk l = true
    · have HV := Lib.hid (repV_no (l := l) (.inr h2))
      have HR := Lib.hid h2
      clear h1 h2
      go_enter Try.func19, Try.ntmps19
      go_wp2_with fail
      refine HSH.out.mono ?_
      rintro e w1 ⟨rfl, rfl⟩
      go_wp2_with fail
      refine HRD.out.mono ?_
      rintro e w1 ⟨A1, c1, rfl, ho1, hb1⟩
      rw [HR.out]
      go_wp2
      go_ret
      rw [HV.out]
      exact ⟨none, 0, rfl, by simp, .inl (by simp), hb1⟩
    · have h2' : readOk l = false := by simpa using h2
      have HV := Lib.hid (repV_yes h1 h2')
      have HR := Lib.hid h2'
      clear h1 h2 h2'
      obtain ⟨i0, hi0, hz0, hz1, hz2⟩ := info_parts Try.info9s
      go_enter Try.func19, Try.ntmps19
      go_wp2_with fail
      refine HSH.out.mono ?_
      rintro e w1 ⟨rfl, rfl⟩
      go_wp2_with fail
      refine HRD.out.mono ?_
      rintro e w1 ⟨A1, c1, rfl, ho1, hb1⟩
      rw [HR.out]
      have hst : (w1.alloc (.cells #[] 9)).ownsRow w.heap.size 9 1 (.slice (some ⟨w1.heap.size, 0, none⟩) 0 0) 0 [] := World.ownsRow_lit w1 #[] 0 hb1.size (by simp [maxLen]) rfl
      have HST := Lib.hid (And.intro hst (hb1.alloc hb1.size (.cells #[] 9)))
      clear ho1 hst hb1
      go_wp2
      go_loopw [5, 6] (fun v i wr => ∃ (k : Nat) (A : Option Addr) (c : Nat), i = .int .i64 k ∧ v = .slice A (repT l k).length c ∧ k ≤ 10000 ∧ wr.ownsRow w.heap.size 9 1 (.slice A (repT l k).length c) (repT l k).length ((repT l k).map str) ∧ Below w.heap.size w wr) (fun _ i _ => 10000 - (intOf i).toNat)
      case atStart => exact ⟨0, _, 0, rfl, rfl, by omega, HST.out.1, HST.out.2⟩
      case round =>
        obtain ⟨k, A, c, rfl, rfl, hk, hown, hb⟩ := hrel
        clear HST
        have hlen := repT_len l k
        by_cases hlt : k < 10000
        · have hvd := D4_valid hlt
          have hd4 : D4 k = [((k / 1000 : Nat) : Int), ((k / 100 % 10 : Nat) : Int), ((k / 10 % 10 : Nat) : Int), ((k % 10 : Nat) : Int)] := rfl
          obtain ⟨a0, e0⟩ : ∃ a : Nat, k / 1000 = a := ⟨_, rfl⟩
          obtain ⟨a1, e1⟩ : ∃ a : Nat, k / 100 = a := ⟨_, rfl⟩
          obtain ⟨a2, e2⟩ : ∃ a : Nat, k / 10 = a := ⟨_, rfl⟩
          obtain ⟨b1, f1⟩ : ∃ a : Nat, a1 % 10 = a := ⟨_, rfl⟩
          obtain ⟨b2, f2⟩ : ∃ a : Nat, a2 % 10 = a := ⟨_, rfl⟩
          obtain ⟨b3, f3⟩ : ∃ a : Nat, k % 10 = a := ⟨_, rfl⟩
          have t0 : (k : Int).tdiv 1000 = (a0 : Int) := by rw [← e0]; rfl
          have t1 : (k : Int).tdiv 100 = (a1 : Int) := by rw [← e1]; rfl
          have t2 : (k : Int).tdiv 10 = (a2 : Int) := by rw [← e2]; rfl
          have u0 : (k : Int) / 1000 = (a0 : Int) := by rw [← e0]; push_cast; rfl
          have u1 : (k : Int) / 100 = (a1 : Int) := by rw [← e1]; push_cast; rfl
          have u2 : (k : Int) / 10 = (a2 : Int) := by rw [← e2]; push_cast; rfl
          have v1 : (a1 : Int).tmod 10 = (b1 : Int) := by rw [← f1]; rfl
          have v2 : (a2 : Int).tmod 10 = (b2 : Int) := by rw [← f2]; rfl
          have v3 : (k : Int).tmod 10 = (b3 : Int) := by rw [← f3]; rfl
          have x1 : (a1 : Int) % 10 = (b1 : Int) := by rw [← f1]; push_cast; rfl
          have x2 : (a2 : Int) % 10 = (b2 : Int) := by rw [← f2]; push_cast; rfl
          have x3 : (k : Int) % 10 = (b3 : Int) := by rw [← f3]; push_cast; rfl
          rw [e0, e1, e2, f1, f2, f3] at hd4
          have hbd : a0 ≤ 10 ∧ a1 ≤ 100 ∧ a2 ≤ 1000 ∧ b1 ≤ 10 ∧ b2 ≤ 10 ∧ b3 ≤ 10 := by omega
          obtain ⟨ba0, ba1, ba2, bb1, bb2, bb3⟩ := hbd
          have HE := Lib.hid hd4
          have HVD := Lib.hid hvd
          have HK := Lib.hid (And.intro hown hb)
          have hbz := hb.size
          clear e0 e1 e2 f1 f2 f3 hd4 hvd hown hb
          go_wp2_with fail
          have hz : Ints (wr.alloc (.cells #[.int .i64 (a0 : Int), .int .i64 (b1 : Int), .int .i64 (b2 : Int), .int .i64 (b3 : Int)] 3)) (wr.alloc (.cells #[.int .i64 (a0 : Int), .int .i64 (b1 : Int), .int .i64 (b2 : Int), .int .i64 (b3 : Int)] 3)).heap.size (some ⟨wr.heap.size, 0, none⟩) [(a0 : Int), (b1 : Int), (b2 : Int), (b3 : Int)] := (own_new wr #[.int .i64 (a0 : Int), .int .i64 (b1 : Int), .int .i64 (b2 : Int), .int .i64 (b3 : Int)] 3).more (by simp)
          have hct := specCodeText_any' _ 4 _ _ hz (by rw [← HE.out]; exact HVD.out)
          have hck : codeL [(a0 : Int), (b1 : Int), (b2 : Int), (b3 : Int)] (chk [(a0 : Int), (b1 : Int), (b2 : Int), (b3 : Int)] 0 % 11) = codeN k := by
            unfold codeN; rw [← HE.out]; simp [checkF, HVD.out]
          rw [hck] at hct
          obtain ⟨T, hT⟩ : ∃ T : ByteArray, (⟨(codeN k).toArray⟩ : ByteArray) = T := ⟨_, rfl⟩
          have hTs : T.size = 6 := by rw [← hT]; show (codeN k).toArray.size = 6; rw [List.size_toArray, codeN_len]
          have hTl : T.data.toList = codeN k := by rw [← hT]
          have hTv : str (codeN k) = .string T := by rw [← hT]; rfl
          rw [hTv] at hct
          have HT := Lib.hid hTv
          clear hT hTv hz hck
          refine hct.mono ?_
          rintro e w2 ⟨rfl, n2, hw2⟩
          have hb2 : Below wr.heap.size wr w2 := by rw [hw2]; exact below_drewN ((Below.refl _ _).alloc (Nat.le_refl _) _) n2
          have hown2 : w2.ownsRow w.heap.size 9 1 (.slice A (repT l k).length c) (repT l k).length ((repT l k).map str) := by rw [hw2]; exact row_drewN (HK.out.1.alloc _) n2
          have HK2 := Lib.hid (And.intro hown2 (HK.out.2.trans (hb2.mono hbz)))
          have hbz2 := hb2.size
          have hnr := near_any s T w2 H6.out hTs
          rw [HL.out, hTl] at hnr
          have HNR := Lib.hid hnr
          clear hct hw2 hb2 hown2 hnr hTs hTl HK
          go_wp2_with fail
          refine HNR.out.mono ?_
          rintro e w3 ⟨rfl, n3, hw3⟩
          have hown3 : w3.ownsRow w.heap.size 9 1 (.slice A (repT l k).length c) (repT l k).length ((repT l k).map str) := by rw [hw3]; exact row_drewN HK2.out.1 n3
          have hb3 : Below w.heap.size w w3 := by rw [hw3]; exact below_drewN HK2.out.2 n3
          clear hw3 HK2 HNR
          by_cases hn : nearB l (codeN k) = true
          · rw [hn]
            have hnx := repT_yes hn
            have hnl := congrArg List.length hnx
            rw [List.length_append, List.length_singleton] at hnl
            have HX := Lib.hid (And.intro hnx hnl)
            clear hn hnx hnl
            obtain ⟨L, hL⟩ : ∃ L, (repT l k).length = L := ⟨_, rfl⟩
            obtain ⟨M, hM⟩ : ∃ M, (repT l k).map str = M := ⟨_, rfl⟩
            have HLM := Lib.hid (And.intro hL hM)
            rw [hL] at hlen
            rw [hL, hM] at hown3
            rw [hL]
            clear hL hM
            go_wp2_with (at_builtin; refine wpList_push rfl (.tmp 39) (.tmp 41) 31 rfl i0 (.string ⟨#[]⟩) 16 Try.underlying31 hi0 hz0 hz1 hz2 rfl (by decide) _ _ rfl hown3 [.string T] rfl rfl (by simp [Value.oneCell']) (by omega) (by omega) hb3.size ?_)
            intro A' c' w5 hown5 hg5
            have HF5 := Lib.hid (And.intro hown5 (hb3.grown hg5 hb3.size (fun i hi => (hown3.lt _ hi).1)))
            clear hown3 hown5 hg5 hb3
            go_wp2
            go_roundw
            case rel =>
              refine ⟨k + 1, A', c', by go_num, by rw [HX.out.2, HLM.out.1], by omega, ?_, HF5.out.2⟩
              rw [HX.out.1, List.length_append, List.map_append, HLM.out.1, HLM.out.2, List.length_singleton, List.map_singleton, HT.out]
              exact HF5.out.1
            case measure => simp [intOf]; omega
          · have hn' : nearB l (codeN k) = false := by simpa using hn
            rw [hn']
            have hnx := repT_no hn'
            have HX := Lib.hid hnx
            have HF5 := Lib.hid (And.intro hown3 hb3)
            clear hn hn' hnx hown3 hb3
            go_wp2
            go_roundw
            case rel => exact ⟨k + 1, A, c, by go_num, by rw [HX.out], by omega, by rw [HX.out]; exact HF5.out.1, HF5.out.2⟩
            case measure => simp [intOf]; omega
        · have hk' : k = 10000 := by omega
          subst hk'
          go_wp2
          go_ret
          rw [HV.out]
          have hcap := own_cap hown
          obtain ⟨A1, c1, hv, _, ho⟩ := own_of_row hown
          simp only [Value.slice.injEq] at hv
          obtain ⟨rfl, _, rfl⟩ := hv
          exact ⟨A, c, rfl, hcap, ho, hb⟩
  · have h1' : shapedB l = false := by simpa using h1
    rw [h1'] at hsh
    have HSH := Lib.hid hsh
    have HV := Lib.hid (repV_no (l := l) (.inl h1'))
    have HL := Lib.hid hl
    rw [hl]
    clear hsh hl h1 h1'
    go_enter Try.func19, Try.ntmps19
    go_wp2_with fail
    refine HSH.out.mono ?_
    rintro e w1 ⟨rfl, rfl⟩
    go_wp2
    go_ret
    rw [HV.out]
    exact ⟨none, 0, rfl, by simp, .inl (by simp), Below.refl _ _⟩
end Go.Proofs.Ytempfagjbpnlcaa
