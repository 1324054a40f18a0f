/- Marks and rules by impl: isMark, ValidRules, firstBox, BoxOf. No condition. -/
import Derived.Test.YtphfolmhlcmbjaaDoorX4
import Derived.Test.YtphfolmhlcmbjaaDoorShelf
import Derived.Shelf.Strings.SlTrimAscii
import Derived.Lib.SlTrimSet
import Derived.Lib.Strings
namespace Go.Proofs.YtphfolmhlcmbjaaDoor
open Go.RowKit

theorem isAB_contains (b : UInt8) : ([97, 98] : List UInt8).contains b = isAB b := by
  rw [Bool.eq_iff_iff]
  simp [isAB, ← UInt8.toNat_inj]
theorem dw_nil {α : Type} (p : α → Bool) (l : List α) : l.dropWhile p = [] ↔ ∀ x ∈ l, p x = true := by
  induction l with
  | nil => simp
  | cons a l ih =>
    by_cases h : p a = true
    · rw [List.dropWhile_cons_of_pos h, ih]; simp [h]
    · rw [List.dropWhile_cons_of_neg h]; simp [h]
theorem trimAB (l : List UInt8) : Lib.trimS l [97, 98] = [] ↔ onlyAB l = true := by
  have hp : (fun b : UInt8 => ([97, 98] : List UInt8).contains b) = isAB := funext isAB_contains
  unfold Lib.trimS Lib.trimLeftS Lib.trimRightS onlyAB
  rw [hp, dw_nil]
  constructor
  · intro h
    have h2 : l.reverse.dropWhile isAB = [] := by
      cases hd : l.reverse.dropWhile isAB with
      | nil => rfl
      | cons x r =>
        have hx := List.head?_dropWhile_not isAB l.reverse
        rw [hd] at hx
        simp only [List.head?_cons] at hx
        have := h x (by rw [hd]; simp)
        rw [this] at hx
        simp at hx
    rw [dw_nil] at h2
    rw [List.all_eq_true]
    exact fun x hx => h2 x (List.mem_reverse.2 hx)
  · intro h x hx
    rw [List.all_eq_true] at h
    have : x ∈ l.reverse.dropWhile isAB := List.mem_reverse.1 hx
    exact h x (List.mem_reverse.1 ((List.dropWhile_sublist _).subset this))
theorem empty_iff (l : List UInt8) : (⟨l.toArray⟩ : ByteArray).toList.isEmpty = decide (l = []) := by
  rw [ByteArray.toList_eq]
  cases l <;> simp

set_option maxRecDepth 100000 in
theorem isMark_any (s : ByteArray) (w : World) (hs : s.size ≤ 9223372036854775807) :
    Calls Tryd.prog 42 #[.string s] w fun e w' => e = .returned (.bool (wordB s)) ∧ Below w.heap.size w w' := by
  by_cases h4 : s.size ≤ 4
  · have h4I : (s.size : Int) ≤ 4 := by omega
    have hw : wordB s = onlyAB s.data.toList := by simp [wordB, h4]
    have ht := Any.strings_Trim_laid Tryd.lays160 (by kernel_rfl) s ⟨#[97, 98]⟩ w hs (by decide) (ascii_of_all (by decide))
    have he : (⟨(Lib.trimS s.data.toList [97, 98]).toArray⟩ : ByteArray).toList.isEmpty = onlyAB s.data.toList := by
      rw [empty_iff, Bool.eq_iff_iff, decide_eq_true_eq]; exact trimAB _
    have hcs : (⟨#[97, 98]⟩ : ByteArray).data.toList = [97, 98] := rfl
    rw [hcs] at ht
    obtain ⟨t, hte⟩ : ∃ t, (⟨(Lib.trimS s.data.toList [97, 98]).toArray⟩ : ByteArray) = t := ⟨_, rfl⟩
    rw [hte] at ht he
    obtain ⟨q, hq⟩ : ∃ q, onlyAB s.data.toList = q := ⟨_, rfl⟩
    rw [hq] at he hw
    rw [hw]
    have HT := Lib.hid ht
    have HE := Lib.hid he
    clear ht hte hq hcs hw he
    go_enter Tryd.func42, Tryd.ntmps42
    go_wp2_with fail
    refine HT.out.mono ?_
    rintro e w1 ⟨rfl, hb⟩
    go_wp2
    go_ret
    exact ⟨ret_bool HE.out, hb⟩
  · have hF := Lib.hid (show wordB s = false by simp [wordB, h4])
    have h4I : (4 : Int) < (s.size : Int) := by omega
    go_enter Tryd.func42, Tryd.ntmps42
    go_wp2
    go_ret
    exact ⟨ret_bool hF.out.symm, Below.refl _ _⟩

set_option maxRecDepth 100000 in
set_option maxHeartbeats 4000000 in
theorem impValidRules_any (A : Option Addr) (c : Nat) (rs : List (ByteArray × Int)) (w : World) (hr : Own w 0 w.heap.size A (flat rs)) (hs : ∀ r ∈ rs, r.1.size ≤ 9000000000000000000) :
    Calls Tryd.prog 14 #[.slice A rs.length c] w fun e w' => e = .returned (.bool (rulesB rs)) ∧ Below w.heap.size w w' := by
  have HS := Lib.hid hs
  clear hs
  by_cases h8 : rs.length ≤ 7
  · have hd8 : decide ((7 : Int) < (rs.length : Int)) = false := decide_eq_false (by omega)
    go_enter Tryd.func14, Tryd.ntmps14
    go_wp2
    clear hd8
    go_loopw [10] (fun i wr => ∃ n : Nat, n ≤ rs.length ∧ i = .int .i64 n ∧ (rs.take n).all ruleOk = true ∧ Below w.heap.size w wr) (fun i _ => rs.length - (intOf i).toNat)
    case atStart => exact ⟨0, by omega, rfl, by simp, Below.refl _ _⟩
    case round =>
      obtain ⟨n, hn, rfl, hall, hbw⟩ := hrel
      have HA := Lib.hid hall
      have HBW := Lib.hid hbw
      have hrr := hr.below hbw
      have hWz := hbw.size
      obtain ⟨W, hW⟩ : ∃ W : World, W = wr := ⟨_, rfl⟩
      subst hW
      clear hall hbw
      by_cases hlt : n < rs.length
      · obtain ⟨b, o, rfl, hb, hc⟩ := hrr.open (by rw [flat_length]; omega)
        obtain ⟨hc1, hc2⟩ := routes_at hc hlt
        have hsz := HS.out _ (List.getElem_mem hlt)
        obtain ⟨s, hse⟩ : ∃ s, rs[n].1 = s := ⟨_, rfl⟩
        obtain ⟨f, hfe⟩ : ∃ f, rs[n].2 = f := ⟨_, rfl⟩
        rw [hse] at hc1 hsz
        rw [hfe] at hc2
        have HOK := Lib.hid (show ruleOk rs[n] = (wordB s && inR f 0 9) by rw [ruleOk, hse, hfe])
        have HNO := Lib.hid (fun h => rulesB_no hlt h)
        have HTK := Lib.hid (show (rs.take (n + 1)).all ruleOk = ((rs.take n).all ruleOk && ruleOk rs[n]) by rw [List.take_succ_eq_append_getElem hlt, List.all_append]; simp)
        have hnI : (n : Int) < rs.length := by omega
        have him := fun X => isMark_any s X (by omega)
        obtain ⟨q1, hq1⟩ : ∃ q, wordB s = q := ⟨_, rfl⟩
        rw [hq1] at him HOK
        have HIM := Lib.hid him
        clear hc hse hfe hrr him hq1
        go_wp2_with fail
        refine (HIM.out _).mono ?_
        rintro e w2 ⟨rfl, b2⟩
        have k2 : w2.cell? ⟨W.heap.size, 1, none⟩ = some (.int .i64 f) := cell_stay b2 (by simp) (by rw [World.cell?_alloc_at _ _ _ _ rfl]; rfl)
        have HBF := Lib.hid (HBW.out.trans ((show Below W.heap.size W w2 from ((Below.refl _ _).alloc (Nat.le_refl _) _).trans (b2.mono (by simp))).mono hWz))
        clear b2
        cases q1 with
        | false =>
          have HF := Lib.hid (HNO.out HOK.out)
          go_wp2
          go_ret
          exact ⟨ret_bool HF.out.symm, HBF.out⟩
        | true =>
          by_cases hneg : f < 0
          · have HF := Lib.hid (HNO.out (by rw [HOK.out]; simp [inR]; omega))
            go_wp2
            go_ret
            exact ⟨ret_bool HF.out.symm, HBF.out⟩
          · have hf0 : 0 ≤ f := by omega
            clear hneg
            by_cases h9 : 9 < f
            · have HF := Lib.hid (HNO.out (by rw [HOK.out]; simp [inR]; omega))
              go_wp2
              go_ret
              exact ⟨ret_bool HF.out.symm, HBF.out⟩
            · have HT := Lib.hid (show ruleOk rs[n] = true by rw [HOK.out]; simp [inR]; omega)
              have hf9 : f ≤ 9 := by omega
              clear h9
              go_wp2
              go_roundw
              case rel => exact ⟨n + 1, by omega, by go_num, by rw [HTK.out, HA.out, HT.out]; rfl, HBF.out⟩
              case measure => simp [intOf]; omega
      · have hn' : n = rs.length := by omega
        subst hn'
        have HT := Lib.hid (show rulesB rs = true by rw [rulesB_yes (by have := HA.out; rwa [List.take_length] at this)]; exact decide_eq_true h8)
        clear hrr
        go_wp2
        go_ret
        exact ⟨ret_bool HT.out.symm, HBW.out⟩
  · have HF := Lib.hid (show rulesB rs = false by simp [rulesB, h8])
    have hgt : (7 : Int) < (rs.length : Int) := by omega
    clear h8
    go_enter Tryd.func14, Tryd.ntmps14
    go_wp2
    go_ret
    exact ⟨ret_bool HF.out.symm, Below.refl _ _⟩

theorem bg_prefix (s h : ByteArray) : Lib.hasPrefix s.data.toList h.data.toList = bg s h := by
  rw [Bool.eq_iff_iff, bg_iff]
  simp only [Lib.hasPrefix, List.isPrefixOf_iff_prefix]

set_option maxRecDepth 100000 in
set_option maxHeartbeats 2000000 in
theorem firstBox_any (A : Option Addr) (c : Nat) (rs : List (ByteArray × Int)) (m : ByteArray) (w : World) (hr : Own w 0 w.heap.size A (flat rs)) (hl : rs.length ≤ 1048576) :
    Calls Tryd.prog 46 #[.slice A rs.length c, .string m] w fun e w' => e = .returned (.int .i64 (boxV rs m)) ∧ Below w.heap.size w w' := by
  go_enter Tryd.func46, Tryd.ntmps46
  go_wp2
  go_loopw [9] (fun i wr => ∃ n : Nat, n ≤ rs.length ∧ i = .int .i64 n ∧ hit (rs.take n) m = false ∧ Below w.heap.size w wr) (fun i _ => rs.length - (intOf i).toNat)
  case atStart => exact ⟨0, by omega, rfl, rfl, Below.refl _ _⟩
  case round =>
    obtain ⟨n, hn, rfl, hall, hbw⟩ := hrel
    have HA := Lib.hid hall
    have HBW := Lib.hid hbw
    have hrr := hr.below hbw
    have hWz := hbw.size
    obtain ⟨W, hW⟩ : ∃ W : World, W = wr := ⟨_, rfl⟩
    subst hW
    clear hall hbw
    by_cases hlt : n < rs.length
    · obtain ⟨b, o, rfl, hb, hc⟩ := hrr.open (by rw [flat_length]; omega)
      obtain ⟨hc1, hc2⟩ := routes_at hc hlt
      have HAT := Lib.hid (fun h => boxV_at hlt HA.out h)
      have HTK := Lib.hid (hit_take (m := m) hlt)
      obtain ⟨h, hse⟩ : ∃ s, rs[n].1 = s := ⟨_, rfl⟩
      obtain ⟨f, hfe⟩ : ∃ f, rs[n].2 = f := ⟨_, rfl⟩
      rw [hse] at hc1 HAT HTK
      rw [hfe] at hc2 HAT
      have hnI : (n : Int) < rs.length := by omega
      have hpf := fun X => Tryd.strings_HasPrefix m h X
      rw [bg_prefix] at hpf
      obtain ⟨q, hq⟩ : ∃ q, bg m h = q := ⟨_, rfl⟩
      rw [hq] at hpf HAT HTK
      have HPF := Lib.hid hpf
      clear hc hse hfe hrr hpf hq
      go_wp2_with fail
      refine (HPF.out _).mono ?_
      rintro e w2 ⟨rfl, b2⟩
      have HBF := Lib.hid (HBW.out.trans (((Below.refl _ _).alloc (Nat.le_refl _) (.cells #[.string h, .int .i64 f] 31)).mono hWz))
      first | subst b2 | skip
      cases q with
      | true =>
        have HE := Lib.hid (HAT.out rfl)
        go_wp2
        go_ret
        exact ⟨ret_int HE.out.symm, HBF.out⟩
      | false =>
        go_wp2
        go_roundw
        case rel => exact ⟨n + 1, by omega, by go_num, by rw [HTK.out, HA.out]; rfl, HBF.out⟩
        case measure => simp [intOf]; omega
    · have hn' : n = rs.length := by omega
      subst hn'
      have HE := Lib.hid (show boxV rs m = -1 from boxV_none (by have := HA.out; rwa [List.take_length] at this))
      clear hrr
      go_wp2
      go_ret
      exact ⟨ret_int HE.out.symm, HBW.out⟩

set_option maxRecDepth 100000 in
set_option maxHeartbeats 1000000 in
theorem impBoxOf_any (A : Option Addr) (c : Nat) (rs : List (ByteArray × Int)) (s : ByteArray) (w : World) (hr : Own w 0 w.heap.size A (flat rs)) (hl : rs.length ≤ 1048576) (hz : s.size ≤ 1048576) (hs : ∀ r ∈ rs, r.1.size ≤ 1048576) :
    Calls Tryd.prog 17 #[.slice A rs.length c, .string s] w fun e w' => e = .returned (.int .i64 (boxOfV rs s)) ∧ Below w.heap.size w w' := by
  have hv := impValidRules_any A c rs w hr (fun r h => Nat.le_trans (hs r h) (by omega))
  have hd := fun X => isMark_any s X (by omega)
  have ho := fun X hX => firstBox_any A c rs s X hX hl
  obtain ⟨q, hq⟩ : ∃ q, rulesB rs = q := ⟨_, rfl⟩
  obtain ⟨p, hp⟩ : ∃ p, wordB s = p := ⟨_, rfl⟩
  have he : boxOfV rs s = if (q && p) = true then boxV rs s else -1 := by rw [boxOfV, hq, hp]
  rw [hq] at hv
  rw [hp] at hd
  rw [he]
  have HV := Lib.hid hv
  have HD := Lib.hid hd
  have HO := Lib.hid ho
  clear hv hd ho hq hp he hs
  go_enter Tryd.func17, Tryd.ntmps17
  go_wp2_with fail
  refine HV.out.mono ?_
  rintro e w1 ⟨rfl, b1⟩
  have hr1 := hr.past b1
  have HB1 := Lib.hid b1
  clear b1
  cases q
  · go_wp2
    go_ret
    exact ⟨rfl, HB1.out⟩
  · go_wp2_with fail
    refine (HD.out _).mono ?_
    rintro e w2 ⟨rfl, b2⟩
    have hr2 := hr1.past b2
    have HB2 := Lib.hid (HB1.out.trans (b2.mono HB1.out.size))
    clear b2
    cases p
    · go_wp2
      go_ret
      exact ⟨rfl, HB2.out⟩
    · go_wp2_with fail
      refine (HO.out _ hr2).mono ?_
      rintro e w3 ⟨rfl, b3⟩
      have HB3 := Lib.hid (HB2.out.trans (b3.mono HB2.out.size))
      clear b3
      go_wp2
      go_ret
      exact ⟨rfl, HB3.out⟩
end Go.Proofs.YtphfolmhlcmbjaaDoor
