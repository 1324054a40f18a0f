/- impl.townOf. No condition. -/
import Derived.Test.YtjklnknlifpidaaN6
namespace Go.Proofs.Ytjklnknlifpidaa
open Go.RowKit

theorem Try.infoP : (Try.prog.info? 45).map (fun i => (i.zero, i.size, i.bytes)) = some (some (.pointer none), 1, 8) := by kernel_rfl

theorem own_newAt (w : World) (us : Array Value) (t : TypeId) {g : Nat} (hg : w.heap.size = g) : Own (w.alloc (.cells us t)) 0 (g + 1) (some ⟨g, 0, none⟩) us.toList := by
  subst hg; exact own_new w us t
/-- The streets so far, behind pointers that are put together. -/
def Streets (w : World) (base : Nat) (H : Option Addr) (c k : Nat) (bs : List Nat) (L : List SW) : Prop :=
  w.ownsRow base 45 1 (.slice H k c) k (bs.map fun b => Value.pointer (some ⟨b, 0, none⟩)) ∧ bs.length = L.length ∧ L.length = k ∧ bs.Nodup ∧
  ∀ j (hb : j < bs.length) (h : j < L.length), base ≤ bs[j] ∧ w.heap[bs[j]]? = some (.cells #[.int .i64 (L[j].1.1 : Int), .int .i64 (L[j].1.2.1 : Int), .int .i64 (L[j].1.2.2 : Int), .bool L[j].2] 49 (0, 0))
theorem Streets.town {w : World} {base c k : Nat} {H : Option Addr} {bs : List Nat} {L : List SW} (h : Streets w base H c k bs L) : Town w base H bs L :=
  ⟨h.2.1, (own_of_rowS (by decide) h.1).less (Nat.zero_le _), h.2.2.2.1, h.2.2.2.2⟩
theorem Streets.push {w w2 : World} {base c c2 k a b d : Nat} {H A2 : Option Addr} {bs : List Nat} {L : List SW} (h : Streets w base H c k bs L) (hbase : base ≤ w.heap.size)
    (hown : w2.ownsRow base 45 1 (.slice A2 (k + 1) c2) (k + 1) ((bs.map fun b => Value.pointer (some ⟨b, 0, none⟩)) ++ [.pointer (some ⟨w.heap.size, 0, none⟩)]))
    (o : Obj) (hg : ((w.drew.alloc (.cells #[.int .i64 (a : Int), .int .i64 (b : Int), .int .i64 (d : Int), .bool false] 49)).alloc o).grownBy w2 (Value.slice H k c).ownBlock) :
    Streets w2 base A2 c2 (k + 1) (bs ++ [w.heap.size]) (L ++ [((a, b, d), false)]) := by
  obtain ⟨h1, h2, h3, h4, h5⟩ := h
  have hrow : ∀ i, (Value.slice H k c).ownBlock = some i → ∃ cur, w.heap[i]? = some (.cells cur 45 (0, 0)) := by
    intro i hi
    rcases h1.2 with ⟨hv, _⟩ | ⟨g, cap, cur, hv, _, hh, _⟩
    · rw [hv] at hi; cases hi
    · rw [hv] at hi
      simp only [Value.ownBlock, Option.some.injEq] at hi
      exact ⟨cur, by rw [← hi]; exact hh⟩
  have hlt : ∀ j (hb : j < bs.length), bs[j] < w.heap.size := fun j hj => lt_of_heap (h5 j hj (by omega)).2
  refine ⟨by simpa using hown, by simp [h2], by simp [h3], ?_, fun j hj hl => ?_⟩
  · rw [List.nodup_append]
    refine ⟨h4, by simp, fun x hx y hy => ?_⟩
    obtain ⟨j, hj, rfl⟩ := List.getElem_of_mem hx
    have := hlt j hj
    simp at hy
    omega
  · by_cases e : j < bs.length
    · rw [List.getElem_append_left e]
      have e2 : j < L.length := by omega
      rw [List.getElem_append_left e2]
      obtain ⟨h6, h7⟩ := h5 j e e2
      have h8 := hlt j e
      refine ⟨h6, ?_⟩
      rw [hg.block _ (by simp; omega) (fun hc => by
        obtain ⟨cur, h9⟩ := hrow _ hc.symm
        rw [h7] at h9
        simp at h9)]
      have hb1 : Below w.heap.size w (w.drew.alloc (.cells #[.int .i64 (a : Int), .int .i64 (b : Int), .int .i64 (d : Int), .bool false] 49)) := (below_drewT w).alloc (Nat.le_refl _) _
      rw [(hb1.alloc (by simp) o).block _ h8]
      exact h7
    · have e1 : j = bs.length := by simp at hj; omega
      subst e1
      rw [List.getElem_append_right (Nat.le_refl _), List.getElem_append_right (by omega)]
      simp only [Nat.sub_self, List.getElem_cons_zero, h2]
      refine ⟨hbase, ?_⟩
      rw [hg.block _ (by simp; omega) (fun hc => by
        obtain ⟨cur, h9⟩ := hrow _ hc.symm
        exact absurd (lt_of_heap h9) (Nat.lt_irrefl _))]
      rw [((Below.refl (w.heap.size + 1) (w.drew.alloc (.cells #[.int .i64 (a : Int), .int .i64 (b : Int), .int .i64 (d : Int), .bool false] 49))).alloc (by simp) o).block w.heap.size (by omega)]
      exact heap_alloc_new w.drew _

/-- What 'impl.townOf' answers. -/
def TownPost (n : Int) (rs : List (List Int)) (w : World) (e : Ending) (w' : World) : Prop :=
  (townB n rs = true → ∃ A c bs, e = .returned (.tuple #[.slice A rs.length c, .bool true]) ∧ rs.length ≤ c ∧ Town w' w.heap.size A bs (fresh (rs.map st)) ∧ Below w.heap.size w w') ∧
  (townB n rs = false → e = .returned (.tuple #[.slice none 0 0, .bool false]) ∧ Below w.heap.size w w')
theorem townPost_no {n : Int} {rs : List (List Int)} {w w' : World} (h : townB n rs = false) (hb : Below w.heap.size w w') : TownPost n rs w (.returned (.tuple #[.slice none 0 0, .bool false])) w' :=
  ⟨fun h2 => (by rw [h] at h2; cases h2), fun _ => ⟨rfl, hb⟩⟩

theorem fresh_snoc (ss : List St) (s : St) : fresh (ss ++ [s]) = fresh ss ++ [(s, false)] := by simp [fresh]
theorem fresh_snoc' (ss : List St) (x y l : Nat) : fresh (ss ++ [[(x : Int), (y : Int), (l : Int)]].map st) = fresh ss ++ [((x, y, l), false)] := by simp [fresh, st]
theorem bools_of {w : World} {g : Nat} {r : Nat → Bool} (h : w.heap[g]? = some (.cells #[.bool (r 0), .bool (r 1), .bool (r 2), .bool (r 3), .bool (r 4)] 69 (0, 0))) : ∀ i, i < 5 → w.cell? ⟨g, i, none⟩ = some (.bool (r i)) := fun i hi => by
  rw [cell_of_row w _ _ _ _ _ h]
  match i, hi with
  | 0, _ => rfl
  | 1, _ => rfl
  | 2, _ => rfl
  | 3, _ => rfl
  | 4, _ => rfl
theorem town_end {n : Nat} {rs : List (List Int)} (hn1 : 1 ≤ n) (hn5 : n ≤ 5) (hl : rs.length ≤ 7) (hok : rs.all (okS n) = true) : townB n rs = !(List.range n).any (fun i => reachW (fresh (rs.map st)) 0 i == false) := by
  have hI : inR (n : Int) 1 5 = true := inR_iff.2 ⟨by omega, by omega⟩
  rw [townB, hI, hok, decide_eq_true hl, reachW_fresh]
  simp only [Bool.true_and, Int.toNat_natCast]
  rw [List.any_eq_not_all_not]
  simp

set_option maxRecDepth 100000 in
set_option maxHeartbeats 8000000 in
theorem townOf_good (A : Option Addr) (c : Nat) (rs : List (List Int)) (n : Nat) (w : World) (hr : Grid w 0 w.heap.size A rs) (hs : ∀ r ∈ rs, r.length ≤ 1000000000) (hn1 : 1 ≤ n) (hn5 : n ≤ 5) (hl7 : rs.length ≤ 7) :
    Calls Try.prog 33 #[.int .i64 (n : Int), .slice A rs.length c] w (TownPost n rs w) := by
  have HS := Lib.hid hs
  clear hs
  obtain ⟨i0, hi0, hz0, hz1, hz2⟩ := info_parts Try.infoP
  have HIN := Lib.hid (fun (x : Int) (X : World) => isCorner_any x n X)
  have HN := Lib.hid (fun (k : Nat) (hk : k < rs.length) (h : okS n rs[k] = false) => townB_row hk h)
  have hd1 : decide ((n : Int) < 1) = false := decide_eq_false (by omega)
  have hd5 : decide ((5 : Int) < (n : Int)) = false := decide_eq_false (by omega)
  have hd7 : decide ((7 : Int) < (rs.length : Int)) = false := decide_eq_false (by omega)
  go_enter Try.func33, Try.ntmps33
  go_wp2_with (at_make; refine wpList_make_own _ rfl (.const (.int .i64 0)) (.tmp 22) _ rfl w.heap.size 45 i0 (.pointer none) 1 Try.underlying40 hi0 hz0 hz1 _ _ _ rs.length rfl rfl rfl (by rw [hz2]; omega) (by unfold maxLen; omega) (Nat.le_refl _) ?_)
  intro w1 hown hg
  have HST := Lib.hid (show Streets w1 w.heap.size (some ⟨w.heap.size, 0, none⟩) rs.length 0 [] (fresh ((rs.take 0).map st)) from ⟨hown, rfl, rfl, List.nodup_nil, fun j h _ => by simp at h⟩)
  have HB1 := Lib.hid (show Below w.heap.size w w1 from (Below.refl _ _).grown hg (Nat.le_refl _) (by simp))
  clear hown hg hd1 hd5 hd7
  go_wp2
  go_loopw [6, 26] (fun v i wr => ∃ (k : Nat) (H : Option Addr) (cH : Nat) (bs : List Nat), k ≤ rs.length ∧ i = .int .i64 k ∧ v = .slice H k cH ∧ Streets wr w.heap.size H cH k bs (fresh ((rs.take k).map st)) ∧ (rs.take k).all (okS n) = true ∧ Below w.heap.size w wr) (fun _ i _ => rs.length - (intOf i).toNat)
  case atStart => exact ⟨0, _, _, [], by omega, rfl, rfl, HST.out, by simp, HB1.out⟩
  case round =>
    obtain ⟨k, H, cH, bs, hk, rfl, rfl, hst, hall, hbr⟩ := hrel
    clear HST HB1
    have HA := Lib.hid hall
    have HO := Lib.hid hst
    have HBR := Lib.hid hbr
    have hbz := hbr.size
    clear hall hst
    by_cases hlt : k < rs.length
    · obtain ⟨b, o, R, c1, rfl, hb2, hcell, hc1, ho⟩ := (hr.below hbr).open hlt
      have HT := Lib.hid (all_take (p := okS n) hlt)
      have HTK := Lib.hid (List.take_succ_eq_append_getElem hlt)
      have HNK := Lib.hid (HN.out k hlt)
      have hsz := row_bd HS.out hlt
      obtain ⟨r, hre⟩ : ∃ r, rs[k] = r := ⟨_, rfl⟩
      rw [hre] at hcell ho hsz
      have HRE := Lib.hid hre
      have HLT := Lib.hid hlt
      clear hre hc1 hbr
      by_cases h3 : r.length = 3
      · obtain ⟨p, q, s, rfl⟩ := three_of h3
        clear h3 hsz
        obtain ⟨b', o', rfl, hb', hc'⟩ := ho.open (by simp)
        have q0 := ints_at hc' (show 0 < [p, q, s].length by simp)
        have q1 := ints_at hc' (show 1 < [p, q, s].length by simp)
        have q2 := ints_at hc' (show 2 < [p, q, s].length by simp)
        simp only [List.getElem_cons_zero, List.getElem_cons_succ, Nat.add_zero] at q0 q1 q2
        have hle3 : ([p, q, s] : List Int).length = 3 := rfl
        rw [hle3] at hcell
        clear hc' ho hle3
        have hbad : okS n [p, q, s] = false → TownPost n rs w (.returned (.tuple #[.slice none 0 0, .bool false])) wr := fun h => townPost_no (HNK.out (by rw [HRE.out]; exact h)) HBR.out
        have HBAD := Lib.hid hbad
        clear hbad
        cases g0 : inR p 0 ((n : Int) - 1) with
        | false =>
          have HI0 := Lib.hid (show ∀ X, Calls Try.prog 51 #[.int .i64 p, .int .i64 (n : Int)] X fun e w' => e = .returned (.bool false) ∧ X = w' from fun X => by have := HIN.out p X; rw [g0] at this; exact this)
          have HF := Lib.hid (HBAD.out (by rw [okS_three, g0]; rfl))
          clear g0
          go_wp2_with (go_at_call 51; ((with_reducible refine (HI0.out _).mono ?_); rintro e w' ⟨rfl, rfl⟩))
          go_ret2
          exact HF.out
        | true =>
          have HI0 := Lib.hid (show ∀ X, Calls Try.prog 51 #[.int .i64 p, .int .i64 (n : Int)] X fun e w' => e = .returned (.bool true) ∧ X = w' from fun X => by have := HIN.out p X; rw [g0] at this; exact this)
          have G0 := Lib.hid g0
          clear g0
          cases g1 : inR q 0 ((n : Int) - 1) with
          | false =>
            have HI1 := Lib.hid (show ∀ X, Calls Try.prog 51 #[.int .i64 q, .int .i64 (n : Int)] X fun e w' => e = .returned (.bool false) ∧ X = w' from fun X => by have := HIN.out q X; rw [g1] at this; exact this)
            have HF := Lib.hid (HBAD.out (by rw [okS_three, g1, Bool.false_and, Bool.and_false]))
            clear g1
            go_wp2_with (go_at_call 51; first | ((with_reducible refine (HI0.out _).mono ?_); rintro e w' ⟨rfl, rfl⟩) | ((with_reducible refine (HI1.out _).mono ?_); rintro e w' ⟨rfl, rfl⟩))
            go_ret2
            exact HF.out
          | true =>
            have HI1 := Lib.hid (show ∀ X, Calls Try.prog 51 #[.int .i64 q, .int .i64 (n : Int)] X fun e w' => e = .returned (.bool true) ∧ X = w' from fun X => by have := HIN.out q X; rw [g1] at this; exact this)
            have G1 := Lib.hid g1
            clear g1
            by_cases a2 : s < 1
            · have HF := Lib.hid (HBAD.out (by rw [okS_three, show inR s 1 20 = false by simp [inR]; omega, Bool.and_false, Bool.and_false]))
              go_wp2_with (go_at_call 51; first | ((with_reducible refine (HI0.out _).mono ?_); rintro e w' ⟨rfl, rfl⟩) | ((with_reducible refine (HI1.out _).mono ?_); rintro e w' ⟨rfl, rfl⟩))
              go_ret2
              exact HF.out
            have b2 : 1 ≤ s := by omega
            clear a2
            by_cases a3 : 20 < s
            · have HF := Lib.hid (HBAD.out (by rw [okS_three, show inR s 1 20 = false by simp [inR]; omega, Bool.and_false, Bool.and_false]))
              go_wp2_with (go_at_call 51; first | ((with_reducible refine (HI0.out _).mono ?_); rintro e w' ⟨rfl, rfl⟩) | ((with_reducible refine (HI1.out _).mono ?_); rintro e w' ⟨rfl, rfl⟩))
              go_ret2
              exact HF.out
            have b3 : s ≤ 20 := by omega
            clear a3 HBAD HNK
            have HOK := Lib.hid (show okS n [p, q, s] = true by rw [okS_three, G0.out, G1.out, show inR s 1 20 = true from inR_iff.2 ⟨b2, b3⟩]; rfl)
            have g0 := inR_iff.1 G0.out
            have g1 := inR_iff.1 G1.out
            obtain ⟨x, rfl⟩ : ∃ x : Nat, p = (x : Int) := ⟨p.toNat, by omega⟩
            obtain ⟨y, rfl⟩ : ∃ y : Nat, q = (y : Int) := ⟨q.toNat, by omega⟩
            obtain ⟨l, rfl⟩ : ∃ l : Nat, s = (l : Int) := ⟨s.toNat, by omega⟩
            have HLN := Lib.hid HO.out.1
            clear g0 g1
            go_wp2_with (go_at_call 51; first | ((with_reducible refine (HI0.out _).mono ?_); rintro e w' ⟨rfl, rfl⟩) | ((with_reducible refine (HI1.out _).mono ?_); rintro e w' ⟨rfl, rfl⟩))
            go_region_law (refine step_extend (w := (wr.drew.alloc (.cells #[.int .i64 (x : Int), .int .i64 (y : Int), .int .i64 (l : Int), .bool false] 49)).alloc (.cells #[.pointer (some ⟨wr.heap.size, 0, none⟩)] 45)) (by rfl) (.tmp 61) (.tmp 73) 40 (by rfl) i0 (.pointer none) 8 Try.underlying40 hi0 hz0 hz1 hz2 rfl (by decide) _ _ (by rfl) ((HLN.out.drew.alloc _).alloc _) _ _ _ _ [.pointer (some ⟨wr.heap.size, 0, none⟩)] (by rfl) (by simp) (own_newAt (wr.drew.alloc (.cells #[.int .i64 (x : Int), .int .i64 (y : Int), .int .i64 (l : Int), .bool false] 49)) #[.pointer (some ⟨wr.heap.size, 0, none⟩)] 45 (World.size_alloc _ _)) (by simp [Value.oneCell']) (by omega) (by omega) (by simp; omega) ?_; intro A2 c2 w2 hown2 hg2)
            all_goals
              have hpush := HO.out.push hbz hown2 _ hg2
              have hbn : Below w.heap.size w w2 := (((below_drew HBR.out).alloc (by simpa using hbz) _).alloc (by simp; omega) _).grown hg2 (by simp; omega) (fun i hi => ((HLN.out.lt _ hi).1))
              have HW := Lib.hid (And.intro hpush hbn)
              clear hown2 hg2 hpush hbn
              go_wp2
              go_roundw
              case rel =>
                refine ⟨k + 1, A2, c2, bs ++ [wr.heap.size], by have := HLT.out; omega, by go_num, rfl, ?_, by rw [HT.out, HA.out, HRE.out, HOK.out]; rfl, HW.out.2⟩
                rw [HTK.out, HRE.out, List.map_append, fresh_snoc']
                exact HW.out.1
              case measure => have := HLT.out; simp [intOf]; omega
      · have ht : ((r.length : Int) != 3) = true := by simp; omega
        have HF := Lib.hid (show TownPost n rs w (.returned (.tuple #[.slice none 0 0, .bool false])) wr from townPost_no (HNK.out (by rw [HRE.out]; exact okS_no h3)) HBR.out)
        clear h3 ho
        go_wp2
        go_ret2
        exact HF.out
    · have hk' : k = rs.length := by omega
      subst hk'
      have hok : rs.all (okS n) = true := by have := HA.out; rwa [List.take_length] at this
      have hso := HO.out
      rw [List.take_length] at hso
      have HE := Lib.hid (town_end hn1 hn5 hl7 hok)
      have hrf := reachedFrom_any H cH w.heap.size 0 bs (fresh (rs.map st)) wr hso.town (by simp [fresh]; exact hl7) (fun s hs => by
        obtain ⟨s', hs', rfl⟩ := List.mem_map.1 hs
        have := street_lt hok s' hs'
        exact ⟨by dsimp only; omega, by dsimp only; omega⟩) (by omega)
      rw [show (fresh (rs.map st)).length = rs.length by simp [fresh]] at hrf
      have HRF := Lib.hid hrf
      have HSO := Lib.hid hso
      clear hrf hso hok
      go_wp2_with fail
      refine HRF.out.mono ?_
      rintro e w2 ⟨rfl, hb2⟩
      have HB2 := Lib.hid hb2
      have hz2 := hb2.size
      obtain ⟨q, hq⟩ : ∃ q, (List.range n).any (fun i => reachW (fresh (rs.map st)) 0 i == false) = q := ⟨_, rfl⟩
      rw [hq] at HE
      have HQ := Lib.hid hq
      obtain ⟨rr, hrr⟩ : ∃ rr, reachW (fresh (rs.map st)) 0 = rr := ⟨_, rfl⟩
      rw [hrr] at HQ ⊢
      clear hq hrr hb2
      have hn0 : (0 : Int) ≤ n := by omega
      have hn6 : (n : Int) ≤ 5 := by omega
      have hcon := containsB_any w2.heap.size n 5 rr false (w2.alloc (.cells #[.bool (rr 0), .bool (rr 1), .bool (rr 2), .bool (rr 3), .bool (rr 4)] 69)) hn5 (fun i hi => bools_of (heap_alloc_new w2 _) i (by omega))
      rw [HQ.out] at hcon
      have HBX := Lib.hid (HBR.out.trans ((HB2.out.alloc hz2 (.cells #[.bool (rr 0), .bool (rr 1), .bool (rr 2), .bool (rr 3), .bool (rr 4)] 69)).mono hbz))
      have HTW := Lib.hid ((HSO.out.town.keep HB2.out).keep ((Below.refl _ _).alloc (Nat.le_refl _) (.cells #[.bool (rr 0), .bool (rr 1), .bool (rr 2), .bool (rr 3), .bool (rr 4)] 69)))
      have HCC := Lib.hid (own_cap HSO.out.1)
      cases q with
      | true =>
        have HC := Lib.hid hcon
        have HF := Lib.hid (townPost_no (n := n) (rs := rs) (by rw [HE.out]; rfl) HBX.out)
        clear hcon
        go_wp2_with (go_at_call 53; (with_reducible refine HC.out.mono ?_); rintro e w' ⟨rfl, rfl⟩)
        go_ret2
        exact HF.out
      | false =>
        have HC := Lib.hid hcon
        have HV := Lib.hid (show townB n rs = true by rw [HE.out]; rfl)
        clear hcon
        go_wp2_with (go_at_call 53; (with_reducible refine HC.out.mono ?_); rintro e w' ⟨rfl, rfl⟩)
        go_ret2
        exact ⟨fun _ => ⟨H, cH, bs, rfl, HCC.out, HTW.out, HBX.out⟩, fun h => by rw [HV.out] at h; cases h⟩

set_option maxRecDepth 100000 in
set_option maxHeartbeats 1000000 in
theorem townOf_all (A : Option Addr) (c : Nat) (rs : List (List Int)) (n : Int) (w : World) (hr : Grid w 0 w.heap.size A rs) (hs : ∀ r ∈ rs, r.length ≤ 1000000000) :
    Calls Try.prog 33 #[.int .i64 n, .slice A rs.length c] w (TownPost n rs w) := by
  by_cases h : 1 ≤ n ∧ n ≤ 5 ∧ rs.length ≤ 7
  · obtain ⟨m, rfl⟩ : ∃ m : Nat, n = (m : Int) := ⟨n.toNat, by omega⟩
    exact townOf_good A c rs m w hr hs (by omega) (by omega) h.2.2
  · have HF := Lib.hid (show TownPost n rs w (.returned (.tuple #[.slice none 0 0, .bool false])) w from townPost_no (townB_bad (by simp [inR]; omega)) (Below.refl _ _))
    clear hs hr
    by_cases h1 : n < 1
    · clear h
      go_enter Try.func33, Try.ntmps33
      go_wp2
      go_ret2
      exact HF.out
    · by_cases h2 : 5 < n
      · clear h
        go_enter Try.func33, Try.ntmps33
        go_wp2
        go_ret2
        exact HF.out
      · have h3 : (7 : Int) < rs.length := by omega
        have h1' : decide (n < 1) = false := decide_eq_false h1
        have h2' : decide (5 < n) = false := decide_eq_false h2
        clear h h1 h2
        go_enter Try.func33, Try.ntmps33
        go_wp2
        go_ret2
        exact HF.out
end Go.Proofs.Ytjklnknlifpidaa
