/- TrimRoutes, plain; slices.Clone of routes. No condition. -/
import Derived.Test.YtlmcclbikljbhaaQ17
import Derived.Test.YtlmcclbikljbhaaQ10
import Derived.Test.YtlmcclbikljbhaaQ13
import Derived.WalkSpells
namespace Go.Proofs.Ytlmcclbikljbhaa
open Go.RowKit

/-- The first idle place. -/
def firstN (l : List (ByteArray × Int)) : Option Nat := (List.range l.length).find? (idleI l)
theorem firstN_none {l : List (ByteArray × Int)} (h : ∀ i, i < l.length → idleI l i = false) : firstN l = none := by
  simp only [firstN, List.find?_eq_none, List.mem_range]
  exact fun i hi => by simp [h i hi]
theorem firstN_some {l : List (ByteArray × Int)} {n : Nat} (hn : n < l.length) (h1 : idleI l n = true) (h2 : ∀ i, i < n → idleI l i = false) : firstN l = some n := by
  unfold firstN
  rw [List.find?_eq_some_iff_getElem]
  refine ⟨h1, n, by simpa using hn, by simp, fun j hj => ?_⟩
  simp [h2 j hj]
def trimF : Nat → List (ByteArray × Int) → List (ByteArray × Int)
  | 0, l => l
  | n + 1, l => match firstN l with
    | none => l
    | some i => trimF n (l.eraseIdx i)
def tr (l : List (ByteArray × Int)) : List (ByteArray × Int) := trimF l.length l
theorem tr_none {l : List (ByteArray × Int)} (h : firstN l = none) : tr l = l := by
  unfold tr
  cases hl : l.length with
  | zero => rfl
  | succ n => simp only [trimF, h]
theorem firstN_lt {l : List (ByteArray × Int)} {i : Nat} (h : firstN l = some i) : i < l.length ∧ idleI l i = true := by
  unfold firstN at h
  have h1 := List.mem_of_find?_eq_some h
  have h2 := List.find?_some h
  exact ⟨by simpa using h1, h2⟩
theorem tr_some {l : List (ByteArray × Int)} {i : Nat} (h : firstN l = some i) : tr l = tr (l.eraseIdx i) := by
  have hi := (firstN_lt h).1
  unfold tr
  rw [List.length_eraseIdx_of_lt hi]
  obtain ⟨n, hn⟩ : ∃ n, l.length = n + 1 := ⟨l.length - 1, by omega⟩
  rw [hn]
  simp only [trimF, h, Nat.add_sub_cancel]
def trimV (rs : List (ByteArray × Int)) : List (ByteArray × Int) := if routesB rs = true then tr rs else []
theorem routesB_erase {rs : List (ByteArray × Int)} (h : routesB rs = true) (i : Nat) : routesB (rs.eraseIdx i) = true := by
  rw [routesB_iff] at h ⊢
  have hs := List.eraseIdx_sublist rs i
  exact ⟨Nat.le_trans hs.length_le h.1, fun r hr => h.2.1 r (hs.subset hr), h.2.2.sublist hs⟩
theorem tr_ind {P : List (ByteArray × Int) → Prop} (n : Nat) : ∀ l : List (ByteArray × Int), l.length = n → P l → (∀ l i, P l → firstN l = some i → P (l.eraseIdx i)) → P (tr l) ∧ firstN (tr l) = none ∧ (tr l).length ≤ n := by
  induction n with
  | zero =>
    intro l hl hp _
    have : l = [] := List.eq_nil_of_length_eq_zero hl
    subst this
    exact ⟨hp, rfl, Nat.le_refl _⟩
  | succ n ih =>
    intro l hl hp hs
    cases hf : firstN l with
    | none => rw [tr_none hf]; exact ⟨hp, hf, Nat.le_of_eq hl⟩
    | some i =>
      rw [tr_some hf]
      have h1 := firstN_lt hf
      obtain ⟨a, b, c⟩ := ih (l.eraseIdx i) (by rw [List.length_eraseIdx_of_lt h1.1]; omega) (hs l i hp hf) hs
      exact ⟨a, b, by omega⟩
theorem idle_same {rs : List (ByteArray × Int)} (h : routesB rs = true) {k : Nat} (hk : k < rs.length) : idleB rs k = idleI rs k := by
  unfold idleB idleI
  by_cases ho : 0 ≤ outr rs k
  · rw [decide_eq_true ho, Bool.true_and]
  · rw [decide_eq_false ho, Bool.false_and]
    have := ((routesB_iff.1 h).2.1 _ (List.getElem_mem hk)).2.1
    rw [of_get hk]
    have hov : ov rs (outr rs k) = -1 := by unfold ov; rw [if_pos (by omega)]
    rw [hov, beq_eq_false_iff_ne]
    omega

/-- A list of routes of the call's own, in a block of its own. -/
def Kept (w : World) (base : Nat) (A : Option Addr) (c : Nat) (ks : List (ByteArray × Int)) : Prop :=
  (ks.length ≤ c ∧ c ≤ 9223372036854775807) ∧ (ks = [] ∨ ∃ g, A = some ⟨g, 0, none⟩ ∧ base ≤ g ∧ g < w.heap.size ∧ Own w (g + 1) (g + 1) (some ⟨g, 0, none⟩) (flat ks))
theorem Kept.own {w : World} {base : Nat} {A : Option Addr} {c : Nat} {ks : List (ByteArray × Int)} (h : Kept w base A c ks) : Own w (base + 1) w.heap.size A (flat ks) := by
  rcases h.2 with rfl | ⟨g, rfl, h1, h2, h3⟩
  · exact .inl rfl
  · exact (h3.more (by omega)).less (by omega)
theorem Kept.keep {w w' : World} {base : Nat} {A : Option Addr} {c : Nat} {ks : List (ByteArray × Int)} (h : Kept w base A c ks) (hb : Below w.heap.size w w') : Kept w' base A c ks := by
  refine ⟨h.1, ?_⟩
  rcases h.2 with rfl | ⟨g, rfl, h1, h2, h3⟩
  · exact .inl rfl
  · exact .inr ⟨g, rfl, h1, Nat.lt_of_lt_of_le h2 hb.size, h3.below (hb.mono (by omega))⟩
theorem own_capm {w : World} {base : Nat} {e : TypeId} {size n c : Nat} {A : Option Addr} {xs : List Value} (h : w.ownsRow base e size (.slice A n c) n xs) : c ≤ 9223372036854775807 := by
  rcases h.2 with ⟨hv, hn0⟩ | ⟨g, cap, cur, hv, _, _, _, hm, _⟩
  · simp only [Value.slice.injEq] at hv; omega
  · simp only [Value.slice.injEq] at hv
    obtain ⟨_, _, rfl⟩ := hv
    unfold maxLen at hm; omega
theorem kept_of_row {w : World} {base : Nat} {A : Option Addr} {n c : Nat} {ks : List (ByteArray × Int)} (h : w.ownsRow base 38 2 (.slice A n c) n (flat ks)) (hn : n = ks.length) : Kept w base A c ks := by
  subst hn
  refine ⟨⟨own_cap h, own_capm h⟩, ?_⟩
  by_cases h0 : ks = []
  · exact .inl h0
  · obtain ⟨g, rfl, h1, h2⟩ := own_some h (List.length_pos_iff.2 h0)
    refine .inr ⟨g, rfl, h1, h2, ?_⟩
    rcases own_rowS h with h3 | ⟨b, o, e, _, _, hc, hf⟩
    · exact .inl h3
    · simp only [Option.some.injEq, Addr.mk.injEq, and_true] at e
      obtain ⟨rfl, rfl⟩ := e
      exact .inr ⟨g, 0, rfl, by omega, by omega, hc, fun _ => hf (by omega)⟩

theorem flat_ones (rs : List (ByteArray × Int)) : ∀ u ∈ flat rs, u.oneCell' = true := fun u hu => by
  simp only [flat, List.mem_flatMap, List.mem_cons, List.not_mem_nil, or_false] at hu
  obtain ⟨r, _, rfl | rfl⟩ := hu <;> rfl

set_option maxRecDepth 100000 in
set_option maxHeartbeats 1000000 in
theorem clone_any (A : Option Addr) (c : Nat) (rs : List (ByteArray × Int)) (w : World) (hr : Own w 0 w.heap.size A (flat rs)) (hl : rs.length ≤ 1048576) :
    Calls Try.prog 74 #[.slice A rs.length c] w fun e w' => ∃ A' c', e = .returned (.slice A' rs.length c') ∧ Kept w' w.heap.size A' c' rs ∧ Below w.heap.size w w' := by
  obtain ⟨i0, hi0, hz0, hz1, hz2⟩ := info_parts Try.infoQ
  have hown0 : (w.alloc (.cells #[] 38)).ownsRow w.heap.size 38 2 (.slice (some ⟨w.heap.size, 0, none⟩) 0 0) 0 [] := World.ownsRow_lit w #[] 0 (Nat.le_refl _) (by simp [maxLen]) rfl
  have hor := hr.below ((Below.refl _ _).alloc (Nat.le_refl _) (.cells #[] 38))
  have HON := Lib.hid (flat_ones rs)
  cases A with
  | none =>
    have h0 : rs = [] := by
      rcases hr with h | ⟨_, _, h, _⟩
      · exact List.eq_nil_of_length_eq_zero (by have := flat_length rs; rw [h] at this; simp at this; omega)
      · cases h
    subst h0
    have hnil := fun W : World => Lib.run_eql_slice_nil (P := Try.prog) W 31 _ none 0 c 0 0 Try.underlying31
    clear hown0 hor hr
    go_enter Try.func74, Try.ntmps74
    go_wp2
    go_ret
    exact ⟨none, 0, rfl, ⟨⟨Nat.le_refl _, by omega⟩, .inl rfl⟩, Below.refl _ _⟩
  | some a =>
    have hnil := fun W : World => Lib.run_eql_slice_nil (P := Try.prog) W 31 _ (some a) rs.length c 0 0 Try.underlying31
    clear hr
    go_enter Try.func74, Try.ntmps74
    go_wp2_with (at_builtin; refine wpList_extend rfl (.tmp 5) (.tmp 6) 31 rfl i0 (.agg #[.string ⟨#[]⟩, .int .i64 0]) 24 Try.underlying31 hi0 hz0 hz1 hz2 rfl (by decide) _ _ rfl hown0 _ _ _ _ (flat rs) rfl (by rw [flat_length]; omega) hor HON.out (by omega) (by omega) (by simp) ?_)
    intro A6 c6 w6 hown6 hg6
    have hg56 : w.grownBy w6 none := g_new (World.grownBy_alloc w _ none) hg6 (fun i hi => (hown0.lt _ hi).1)
    have HK := Lib.hid (And.intro (kept_of_row (ks := rs) (by simpa using hown6) rfl) (below_g hg56 (Nat.le_refl _)))
    clear hown0 hor hown6 hg6 hg56
    go_wp2
    go_ret
    exact ⟨A6, c6, by simp, HK.out.1, HK.out.2⟩

theorem Short.le {rs : List (ByteArray × Int)} (h : routesB rs = true) : ∀ r ∈ rs, r.1.size ≤ 1048576 := fun r hr => by have := ((routesB_iff.1 h).2.1 r hr).1; omega

/-- What TrimRoutes answers. -/
def TrimPost (V : List (ByteArray × Int)) (w : World) (e : Ending) (w' : World) : Prop :=
  ∃ A c, e = .returned (.slice A V.length c) ∧ V.length ≤ c ∧ Own w' (w.heap.size + 1) w'.heap.size A (flat V) ∧ Below w.heap.size w w'
theorem TrimPost.none {V : List (ByteArray × Int)} (hV : V = []) {w w' : World} (hb : Below w.heap.size w w') : TrimPost V w (.returned (.slice none 0 0)) w' := by
  subst hV
  exact ⟨Option.none, 0, rfl, Nat.le_refl _, .inl rfl, hb⟩

set_option maxRecDepth 100000 in
set_option maxHeartbeats 2000000 in
theorem impTrim_any (A : Option Addr) (c : Nat) (rs : List (ByteArray × Int)) (w : World) (hr : Own w 0 w.heap.size A (flat rs)) (hlc : rs.length ≤ c) (hl : rs.length ≤ 1048576) (hs : ∀ r ∈ rs, r.1.size ≤ 1048576) :
    Calls Try.prog 26 #[.slice A rs.length c] w (TrimPost (trimV rs) w) := by
  have hv := impValidRoutes_any A c rs w hr hlc (fun r h => Nat.le_trans (hs r h) (by omega))
  clear hs
  by_cases hB : routesB rs = true
  · rw [hB] at hv
    have HV := Lib.hid hv
    have HB := Lib.hid hB
    have HTV := Lib.hid (show trimV rs = tr rs by rw [trimV, if_pos hB])
    have h8 := routes_small hB
    clear hv hB
    go_enter Try.func26, Try.ntmps26
    go_wp2_with fail
    refine HV.out.mono ?_
    rintro e w1 ⟨rfl, hb1⟩
    go_wp2_with fail
    refine (clone_any _ _ _ _ (hr.past hb1) hl).mono ?_
    rintro e w2 ⟨A2, c2, rfl, hk2, hb2⟩
    have hz1 := hb1.size
    have hz2 := hb2.size
    have HB12 := Lib.hid (hb1.trans (hb2.mono hz1))
    have HK2 := Lib.hid hk2
    clear hb1 hb2 hk2
    go_wp2_with fail
    refine (firstIdle_any _ _ _ _ (HK2.out.own.row) (by omega) (Short.le HB.out)).mono ?_
    rintro e w3 ⟨r, rfl, hfi, hb3⟩
    have HK3 := Lib.hid (And.intro (HK2.out.keep hb3) (HB12.out.trans (hb3.mono (Nat.le_trans hz1 hz2))))
    have HFI := Lib.hid hfi
    clear hfi hb3
    go_wp2
    go_loopw [3, 4] (fun v i wr => ∃ (ks : List (ByteArray × Int)) (A : Option Addr) (c : Nat) (r : Int), v = .slice A ks.length c ∧ i = .int .i64 r ∧ ks.length ≤ 8 ∧ Hid (firstI ks r) ∧ Hid (routesB ks = true) ∧ Hid (tr rs = tr ks) ∧ Kept wr w1.heap.size A c ks ∧ Below w.heap.size w wr) (fun v _ _ => match v with | .slice _ n _ => n | _ => 0)
    case atStart => exact ⟨rs, A2, c2, r, rfl, rfl, h8, HFI, HB, Lib.hid rfl, HK3.out.1, HK3.out.2⟩
    case round =>
      obtain ⟨ks, A, c, r, rfl, rfl, hk8, HF, HR, HT, hkept, hbr⟩ := hrel
      clear HK3 HFI
      have HK := Lib.hid hkept
      have HBR := Lib.hid hbr
      have hbz := hbr.size
      clear hkept hbr
      by_cases hneg : r < 0
      · have hn : firstN ks = none := by
          rcases HF.out with ⟨_, h⟩ | ⟨n, _, h, _⟩
          · exact firstN_none h
          · omega
        have HV2 := Lib.hid (show trimV rs = ks by rw [HTV.out, HT.out, tr_none hn])
        clear hn
        go_wp2
        go_ret
        rw [HV2.out]
        exact ⟨A, c, rfl, HK.out.1.1, HK.out.own.less (by omega), HBR.out⟩
      · obtain ⟨n, hn1, hn2, hn3, hn4⟩ : ∃ n : Nat, n < ks.length ∧ r = n ∧ idleI ks n = true ∧ ∀ i, i < n → idleI ks i = false := by
          rcases HF.out with ⟨h, _⟩ | h
          · omega
          · exact h
        subst hn2
        have hfs := firstN_some hn1 hn3 hn4
        have HT2 := Lib.hid (show tr rs = tr (ks.eraseIdx n) by rw [HT.out, tr_some hfs])
        have HR2 := Lib.hid (routesB_erase HR.out n)
        have hel : (ks.eraseIdx n).length + 1 = ks.length := by rw [List.length_eraseIdx_of_lt hn1]; omega
        obtain ⟨g, rfl, hg1, hg2, hg3⟩ : ∃ g, A = some ⟨g, 0, none⟩ ∧ w1.heap.size ≤ g ∧ g < wr.heap.size ∧ Own wr (g + 1) (g + 1) (some ⟨g, 0, none⟩) (flat ks) := by
          rcases HK.out.2 with h | h
          · rw [h] at hn1; simp at hn1
          · exact h
        have hkc := HK.out.1.1
        have hkm := HK.out.1.2
        have hdel := delete_any g c n ks wr hg3 hn1 hkc hkm
        have HD := Lib.hid hdel
        have hnn : (0 : Int) ≤ (n : Int) := by omega
        have hn8 : n ≤ 8 := by omega
        have hel8 : (ks.eraseIdx n).length ≤ 7 := by omega
        have HEL := Lib.hid hel
        have hec : (ks.eraseIdx n).length ≤ c := by omega
        clear hdel hg3 hneg hn3 hn4 hfs hel
        go_wp2_with fail
        refine HD.out.mono ?_
        rintro e w5 ⟨rfl, hd1, hd2⟩
        have hkept5 : Kept w5 w1.heap.size (some ⟨g, 0, none⟩) c (ks.eraseIdx n) := ⟨⟨hec, hkm⟩, .inr ⟨g, rfl, hg1, Nat.lt_of_lt_of_le hg2 hd2.size, hd1⟩⟩
        have HB5 := Lib.hid (HBR.out.trans (hd2.mono (by omega)))
        have HK5 := Lib.hid hkept5
        clear hd1 hd2 hkept5
        go_wp2_with fail
        refine (firstIdle_any _ _ _ _ (HK5.out.own.row) (by omega) (Short.le HR2.out)).mono ?_
        rintro e w6 ⟨r2, rfl, hfi, hb6⟩
        have HF6 := Lib.hid (And.intro (HK5.out.keep hb6) (HB5.out.trans (hb6.mono HB5.out.size)))
        have HFI := Lib.hid hfi
        clear hfi hb6
        go_wp2
        go_roundw
        case rel => exact ⟨ks.eraseIdx n, _, c, r2, rfl, rfl, by omega, HFI, HR2, HT2, HF6.out.1, HF6.out.2⟩
        case measure => have := HEL.out; simp; omega
  · have hB' : routesB rs = false := by simpa using hB
    rw [hB'] at hv
    have HV := Lib.hid hv
    have HTV := Lib.hid (show trimV rs = [] by rw [trimV, if_neg hB])
    clear hv hB hB'
    go_enter Try.func26, Try.ntmps26
    go_wp2_with fail
    refine HV.out.mono ?_
    rintro e w1 ⟨rfl, hb1⟩
    go_wp2
    go_ret
    exact TrimPost.none HTV.out hb1
end Go.Proofs.Ytlmcclbikljbhaa
