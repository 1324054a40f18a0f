/- Rules and marks, plain. No condition. -/
import Derived.Test.YtphfolmhlcmbjaaDoorS0
import Derived.Test.YtphfolmhlcmbjaaDoorA1
import Derived.Laws.Strings
namespace Go.Proofs.YtphfolmhlcmbjaaDoor
open Go.RowKit

def bg (s h : ByteArray) : Bool := decide (h.size ≤ s.size) && ((s.extract 0 h.size).toList == h.toList)
theorem size_data (s : ByteArray) : s.size = s.data.toList.length := by rw [Array.length_toList]; rfl
theorem bg_iff (s h : ByteArray) : bg s h = true ↔ h.data.toList <+: s.data.toList := by
  simp only [bg, Bool.and_eq_true, decide_eq_true_eq, beq_iff_eq, ByteArray.toList_eq]
  have hsz := size_data s
  have hhz := size_data h
  have hex : (s.extract 0 h.size).data.toList = s.data.toList.take h.size := by simp
  constructor
  · rintro ⟨_, he⟩
    rw [← he, hex]
    exact List.take_prefix _ _
  · intro hp
    have hl := hp.length_le
    refine ⟨by omega, ?_⟩
    rw [hex, hhz]
    exact (List.prefix_iff_eq_take.1 hp).symm
theorem bg_trans {s h g : ByteArray} (h1 : bg s h = true) (h2 : bg h g = true) : bg s g = true := by
  rw [bg_iff] at *; exact h2.trans h1
theorem bg_refl (s : ByteArray) : bg s s = true := by rw [bg_iff]; exact List.prefix_refl _
theorem bg_both {s h g : ByteArray} (h1 : bg s h = true) (h2 : bg s g = true) : bg h g = true ∨ bg g h = true := by
  rw [bg_iff] at *
  rw [bg_iff]
  exact (List.prefix_or_prefix_of_prefix h1 h2).symm

def isAB (b : UInt8) : Bool := decide (b.toNat = 97 ∨ b.toNat = 98)
def onlyAB (l : List UInt8) : Bool := l.all isAB
def wordB (s : ByteArray) : Bool := onlyAB s.data.toList && decide (s.size ≤ 4)
def ruleOk (r : ByteArray × Int) : Bool := wordB r.1 && inR r.2 0 9
def rulesB (rs : List (ByteArray × Int)) : Bool := rs.all ruleOk && decide (rs.length ≤ 7)
theorem rulesB_iff {rs : List (ByteArray × Int)} : rulesB rs = true ↔ (∀ r ∈ rs, ruleOk r = true) ∧ rs.length ≤ 7 := by
  simp [rulesB, List.all_eq_true]
theorem rulesB_no {rs : List (ByteArray × Int)} {i : Nat} (hi : i < rs.length) (h : ruleOk rs[i] = false) : rulesB rs = false := by
  have : rs.all ruleOk = false := by rw [List.all_eq_false]; exact ⟨rs[i], List.getElem_mem hi, by simp [h]⟩
  simp [rulesB, this]
theorem rulesB_yes {rs : List (ByteArray × Int)} (h : rs.all ruleOk = true) : rulesB rs = decide (rs.length ≤ 7) := by simp only [rulesB, h, Bool.true_and]
theorem rulesB_len {rs : List (ByteArray × Int)} (h : rulesB rs = true) : rs.length ≤ 7 := (rulesB_iff.1 h).2
theorem rulesB_sub {rs ss : List (ByteArray × Int)} (h : rulesB rs = true) (hs : ss.Sublist rs) : rulesB ss = true := by
  rw [rulesB_iff] at h ⊢
  exact ⟨fun r hr => h.1 r (hs.subset hr), Nat.le_trans hs.length_le h.2⟩

def boxV : List (ByteArray × Int) → ByteArray → Int
  | [], _ => -1
  | r :: rs, m => if bg m r.1 = true then r.2 else boxV rs m
def hit (rs : List (ByteArray × Int)) (m : ByteArray) : Bool := rs.any (fun r => bg m r.1)
theorem hit_cons (r : ByteArray × Int) (rs : List (ByteArray × Int)) (m : ByteArray) : hit (r :: rs) m = (bg m r.1 || hit rs m) := rfl
theorem hit_append (rs ss : List (ByteArray × Int)) (m : ByteArray) : hit (rs ++ ss) m = (hit rs m || hit ss m) := by simp [hit]
theorem boxV_append (rs ss : List (ByteArray × Int)) (m : ByteArray) : boxV (rs ++ ss) m = if hit rs m = true then boxV rs m else boxV ss m := by
  induction rs with
  | nil => simp [hit]
  | cons r rs ih =>
    rw [List.cons_append, hit_cons]
    by_cases hb : bg m r.1 = true
    · simp [boxV, hb]
    · have hb' : bg m r.1 = false := by simpa using hb
      simp only [boxV, hb', Bool.false_or, ih, Bool.false_eq_true, if_false]
theorem boxV_none {rs : List (ByteArray × Int)} {m : ByteArray} (h : hit rs m = false) : boxV rs m = -1 := by
  induction rs with
  | nil => rfl
  | cons r rs ih =>
    rw [hit_cons, Bool.or_eq_false_iff] at h
    simp only [boxV, h.1, Bool.false_eq_true, if_false, ih h.2]
theorem hit_take {rs : List (ByteArray × Int)} {m : ByteArray} {k : Nat} (hk : k < rs.length) : hit (rs.take (k + 1)) m = (hit (rs.take k) m || bg m rs[k].1) := by
  rw [List.take_succ_eq_append_getElem hk, hit_append]; simp [hit]
theorem boxV_at {rs : List (ByteArray × Int)} {m : ByteArray} {k : Nat} (hk : k < rs.length) (hn : hit (rs.take k) m = false) (h : bg m rs[k].1 = true) : boxV rs m = rs[k].2 := by
  have e : boxV rs m = boxV (rs.take k ++ rs[k] :: rs.drop (k + 1)) m := by rw [List.getElem_cons_drop, List.take_append_drop]
  rw [e, boxV_append, hn]
  simp only [Bool.false_eq_true, if_false, boxV, h, if_true]
theorem boxV_found {rs : List (ByteArray × Int)} {m : ByteArray} (h : hit rs m = true) : ∃ r ∈ rs, bg m r.1 = true ∧ boxV rs m = r.2 := by
  induction rs with
  | nil => simp [hit] at h
  | cons r rs ih =>
    by_cases hb : bg m r.1 = true
    · exact ⟨r, by simp, hb, by simp [boxV, hb]⟩
    · have hb' : bg m r.1 = false := by simpa using hb
      rw [hit_cons, hb', Bool.false_or] at h
      obtain ⟨r', hr, h1, h2⟩ := ih h
      exact ⟨r', by simp [hr], h1, by simp [boxV, hb', h2]⟩
theorem boxV_nn {rs : List (ByteArray × Int)} {m : ByteArray} (hv : ∀ r ∈ rs, ruleOk r = true) (h : hit rs m = true) : 0 ≤ boxV rs m ∧ boxV rs m ≤ 9 := by
  obtain ⟨r, hr, _, e⟩ := boxV_found h
  have := hv r hr
  simp only [ruleOk, inR, Bool.and_eq_true, decide_eq_true_eq] at this
  omega
theorem boxV_ge {rs : List (ByteArray × Int)} {m : ByteArray} (hv : ∀ r ∈ rs, ruleOk r = true) : -1 ≤ boxV rs m ∧ boxV rs m ≤ 9 := by
  by_cases h : hit rs m = true
  · have := boxV_nn hv h; omega
  · rw [boxV_none (by simpa using h)]; omega

def boxOfV (rs : List (ByteArray × Int)) (m : ByteArray) : Int := if (rulesB rs && wordB m) = true then boxV rs m else -1

/-- All marks, the shorter ones first: what stands after k rounds. -/
def wordsL : Nat → List (List UInt8)
  | 0 => [[]]
  | k + 1 => wordsL k ++ [(wordsL k).getD k [] ++ [97], (wordsL k).getD k [] ++ [98]]
def ofL (l : List UInt8) : ByteArray := ⟨l.toArray⟩
def marksT (k : Nat) : List ByteArray := (wordsL k).map ofL
theorem words_len (k : Nat) : (wordsL k).length = 2 * k + 1 := by
  induction k with
  | zero => rfl
  | succ k ih => simp only [wordsL, List.length_append, ih, List.length_cons, List.length_nil]; omega
theorem marks_len (k : Nat) : (marksT k).length = 2 * k + 1 := by rw [marksT, List.length_map, words_len]
theorem ofL_append (l m : List UInt8) : ofL l ++ ofL m = ofL (l ++ m) := by
  apply ByteArray.ext
  simp [ofL]
theorem marks_step (k : Nat) : marksT (k + 1) = marksT k ++ [(marksT k)[k]'(by rw [marks_len]; omega) ++ ofL [97], (marksT k)[k]'(by rw [marks_len]; omega) ++ ofL [98]] := by
  have hk : k < (wordsL k).length := by rw [words_len]; omega
  have e : (marksT k)[k]'(by rw [marks_len]; omega) = ofL ((wordsL k)[k]) := by simp [marksT]
  have e2 : (wordsL k).getD k [] = (wordsL k)[k] := by simp [List.getD, List.getElem?_eq_getElem hk]
  rw [e, ofL_append, ofL_append]
  simp only [marksT, wordsL, List.map_append, List.map_cons, List.map_nil, e2]
theorem words_more {i j k : Nat} (h : j ≤ k) (hi : i < 2 * j + 1) : (wordsL k).getD i [] = (wordsL j).getD i [] := by
  induction k with
  | zero => rw [show j = 0 by omega]
  | succ k ih =>
    by_cases hj : j = k + 1
    · rw [hj]
    · rw [← ih (by omega)]
      have : i < (wordsL k).length := by rw [words_len]; omega
      simp only [wordsL, List.getD, List.getElem?_append_left this]
theorem words_sizes : ∀ i : Fin 31, ((wordsL 15).getD i.1 []).length = if i.1 < 15 then ((wordsL 15).getD i.1 []).length else 4 := by decide +kernel
theorem words_short : ∀ i : Fin 15, ((wordsL 15).getD i.1 []).length < 4 := by decide +kernel
theorem words_four : ∀ i : Fin 16, ((wordsL 15).getD (i.1 + 15) []).length = 4 := by decide +kernel
theorem words_ab : ∀ i : Fin 31, ((wordsL 15).getD i.1 []).all isAB = true := by decide +kernel
theorem ofL_size (l : List UInt8) : (ofL l).size = l.length := by rw [size_data]; simp [ofL]
theorem marks_get (k i : Nat) (hi : i < (marksT k).length) : (marksT k)[i] = ofL ((wordsL k).getD i []) := by
  have h : i < (wordsL k).length := by rw [marks_len] at hi; rw [words_len]; exact hi
  simp [marksT, List.getD, List.getElem?_eq_getElem h]
theorem mark_size {k i : Nat} (hk : k ≤ 15) (hi : i < 2 * k + 1) : ((marksT k)[i]'(by rw [marks_len]; exact hi)).size = ((wordsL 15).getD i []).length := by
  rw [marks_get, ofL_size, words_more hk hi]
theorem mark_short {k i : Nat} (hk : k ≤ 15) (hi : i < 2 * k + 1) (h : i < 15) : ((marksT k)[i]'(by rw [marks_len]; exact hi)).size < 4 := by
  rw [mark_size hk hi]; exact words_short ⟨i, h⟩
theorem mark_four {k i : Nat} (hk : k ≤ 15) (hi : i < 2 * k + 1) (h : 15 ≤ i) : ((marksT k)[i]'(by rw [marks_len]; exact hi)).size = 4 := by
  rw [mark_size hk hi]
  have := words_four ⟨i - 15, by omega⟩
  simp only [show i - 15 + 15 = i by omega] at this
  exact this
theorem mark_le {k i : Nat} (hk : k ≤ 15) (hi : i < (marksT k).length) : (marksT k)[i].size ≤ 4 := by
  rw [marks_len] at hi
  by_cases h : i < 15
  · have := mark_short hk hi h; omega
  · have := mark_four hk hi (by omega); omega
theorem mark_word {m : ByteArray} (h : m ∈ marksT 15) : wordB m = true := by
  obtain ⟨i, hi, rfl⟩ := List.getElem_of_mem h
  have h1 := mark_le (Nat.le_refl _) hi
  have hi2 : i < 31 := by rw [marks_len] at hi; exact hi
  have h2 := words_ab ⟨i, hi2⟩
  rw [wordB, Bool.and_eq_true, decide_eq_true_eq]
  refine ⟨?_, h1⟩
  rw [marks_get, onlyAB, ofL]
  simpa using h2
def kthV (i : Nat) : Nat := if i < 15 then i else 15
theorem kthV_len {i : Nat} : i < (marksT (kthV i)).length ↔ i < 31 := by
  rw [marks_len, kthV]; split <;> omega

def sameV (rs ss : List (ByteArray × Int)) : Bool := (marksT 15).all fun m => boxV rs m == boxV ss m
theorem sameV_iff {rs ss : List (ByteArray × Int)} : sameV rs ss = true ↔ ∀ m ∈ marksT 15, boxV rs m = boxV ss m := by
  simp [sameV, List.all_eq_true]
theorem sameV_refl (rs : List (ByteArray × Int)) : sameV rs rs = true := sameV_iff.2 fun _ _ => rfl
theorem sameV_symm (rs ss : List (ByteArray × Int)) : sameV rs ss = sameV ss rs := by
  rw [Bool.eq_iff_iff, sameV_iff, sameV_iff]
  exact ⟨fun h m hm => (h m hm).symm, fun h m hm => (h m hm).symm⟩
theorem sameV_trans {rs ss ts : List (ByteArray × Int)} (h1 : sameV rs ss = true) (h2 : sameV ss ts = true) : sameV rs ts = true := by
  rw [sameV_iff] at *; exact fun m hm => (h1 m hm).trans (h2 m hm)
def sameRulesV (rs ss : List (ByteArray × Int)) : Bool := rulesB rs && rulesB ss && sameV rs ss

/-- The rule at place i is shadowed. -/
def shad (rs : List (ByteArray × Int)) (i : Nat) : Bool := match rs[i]? with | some r => hit (rs.take i) r.1 | none => false
theorem shad_at {rs : List (ByteArray × Int)} {i : Nat} (hi : i < rs.length) : shad rs i = hit (rs.take i) rs[i].1 := by simp [shad, List.getElem?_eq_getElem hi]
def shadV (rs : List (ByteArray × Int)) : List Int := ((List.range rs.length).filter (shad rs)).map Int.ofNat
/-- The shadowed ones among the first n. -/
def shadT (rs : List (ByteArray × Int)) (n : Nat) : List Int := ((List.range n).filter (shad rs)).map Int.ofNat
theorem shadT_succ (rs : List (ByteArray × Int)) (n : Nat) : shadT rs (n + 1) = shadT rs n ++ if shad rs n = true then [(n : Int)] else [] := by
  simp only [shadT, List.range_succ, List.filter_append, List.map_append]
  congr 1
  by_cases h : shad rs n = true
  · simp [h]
  · simp [h]
theorem shadT_len (rs : List (ByteArray × Int)) (n : Nat) : (shadT rs n).length ≤ n := by
  simp only [shadT, List.length_map]
  exact Nat.le_trans (List.length_filter_le ..) (by simp)
theorem shadT_mem {rs : List (ByteArray × Int)} {n i : Nat} : (i : Int) ∈ shadT rs n ↔ i < n ∧ shad rs i = true := by
  simp only [shadT, List.mem_map, List.mem_filter, List.mem_range]
  constructor
  · rintro ⟨a, h, e⟩
    have : a = i := by exact Int.ofNat.inj e
    subst this; exact h
  · intro h; exact ⟨i, h, rfl⟩
theorem shadT_up (rs : List (ByteArray × Int)) (n : Nat) : (shadT rs n).Pairwise (· < ·) := by
  unfold shadT
  rw [List.pairwise_map]
  refine List.Pairwise.imp ?_ ((List.pairwise_lt_range).filter _)
  intro a b h
  exact Int.ofNat_lt.2 h

def trimS : Nat → List (ByteArray × Int) → List (ByteArray × Int)
  | 0, rs => rs
  | i + 1, rs => if sameV rs (rs.eraseIdx i) = true then trimS i (rs.eraseIdx i) else trimS i rs
def trimV (rs : List (ByteArray × Int)) : List (ByteArray × Int) := trimS rs.length rs

def maySwapV (rs : List (ByteArray × Int)) (i : Int) : Bool :=
  match rs[i.toNat]?, rs[i.toNat + 1]? with
  | some a, some b => rulesB rs && decide (0 ≤ i) && (a.2 == b.2 || !bg a.1 b.1 && !bg b.1 a.1)
  | _, _ => false

theorem splitAt {rs : List (ByteArray × Int)} {j : Nat} (hj : j < rs.length) : rs = rs.take j ++ rs[j] :: rs.drop (j + 1) := by rw [List.getElem_cons_drop, List.take_append_drop]
theorem erase_split (xs ys : List (ByteArray × Int)) (r : ByteArray × Int) : (xs ++ r :: ys).eraseIdx xs.length = xs ++ ys := by
  rw [List.eraseIdx_append_of_length_le (Nat.le_refl _), Nat.sub_self]; rfl
theorem boxV_mid (xs ys : List (ByteArray × Int)) (r : ByteArray × Int) (m : ByteArray) : boxV (xs ++ r :: ys) m = if hit xs m = true then boxV xs m else if bg m r.1 = true then r.2 else boxV ys m := by
  rw [boxV_append]; rfl
/-- Where the rule in the middle changes something, it still does so when what stands ahead is less. -/
theorem stay_less {xs xs' ys : List (ByteArray × Int)} {r : ByteArray × Int} (hsub : ∀ x ∈ xs', x ∈ xs) (h : sameV (xs ++ r :: ys) (xs ++ ys) = false) : sameV (xs' ++ r :: ys) (xs' ++ ys) = false := by
  rw [← Bool.not_eq_true, sameV_iff] at h ⊢
  intro hall
  apply h
  intro m hm
  by_cases hx : hit xs m = true
  · rw [boxV_mid, boxV_append, if_pos hx, if_pos hx]
  · have hx' : hit xs' m = false := by
      rw [← Bool.not_eq_true]
      intro hh
      apply hx
      simp only [hit, List.any_eq_true] at hh ⊢
      obtain ⟨x, hxm, hb⟩ := hh
      exact ⟨x, hsub x hxm, hb⟩
    have := hall m hm
    rw [boxV_mid, boxV_append, hx'] at this
    rw [boxV_mid, boxV_append, if_neg hx, if_neg hx]
    simpa using this
/-- What must stay from place n on must stay. -/
def Stays (rs : List (ByteArray × Int)) (n : Nat) : Prop := ∀ j, n ≤ j → j < rs.length → sameV rs (rs.eraseIdx j) = false
theorem stays_erase {rs : List (ByteArray × Int)} {i : Nat} (hi : i < rs.length) (h : Stays rs (i + 1)) : Stays (rs.eraseIdx i) i := by
  intro j hj hjl
  have hl : (rs.eraseIdx i).length = rs.length - 1 := List.length_eraseIdx_of_lt hi
  have hj1 : j + 1 < rs.length := by omega
  have hs := splitAt hj1
  have h1 := h (j + 1) (by omega) hj1
  have e1 : rs.eraseIdx (j + 1) = rs.take (j + 1) ++ rs.drop (j + 2) := List.eraseIdx_eq_take_drop_succ ..
  have hr : rs.eraseIdx i = (rs.take (j + 1)).eraseIdx i ++ rs[j + 1] :: rs.drop (j + 2) := by
    conv => lhs; rw [hs]
    rw [List.eraseIdx_append_of_lt_length (by rw [List.length_take]; omega)]
  have hlen : ((rs.take (j + 1)).eraseIdx i).length = j := by
    rw [List.length_eraseIdx_of_lt (by rw [List.length_take]; omega), List.length_take]; omega
  have e2 : (rs.eraseIdx i).eraseIdx j = (rs.take (j + 1)).eraseIdx i ++ rs.drop (j + 2) := by
    rw [hr]
    have := erase_split ((rs.take (j + 1)).eraseIdx i) (rs.drop (j + 2)) rs[j + 1]
    rw [hlen] at this
    exact this
  rw [e2, hr]
  rw [e1] at h1
  have h2 : sameV (rs.take (j + 1) ++ rs[j + 1] :: rs.drop (j + 2)) (rs.take (j + 1) ++ rs.drop (j + 2)) = false := by rw [← hs]; exact h1
  exact stay_less (fun x hx => List.mem_of_mem_eraseIdx hx) h2
theorem trimS_stays {rs : List (ByteArray × Int)} {n : Nat} (h : Stays rs n) : ∀ d, trimS (n + d) rs = trimS n rs := by
  intro d
  induction d with
  | zero => rfl
  | succ d ih =>
    rw [← Nat.add_assoc, trimS]
    have hno : sameV rs (rs.eraseIdx (n + d)) = false ∨ rs.length ≤ n + d := by
      by_cases hl : n + d < rs.length
      · exact .inl (h _ (by omega) hl)
      · exact .inr (by omega)
    rcases hno with hno | hno
    · rw [hno]; simp only [Bool.false_eq_true, if_false]; exact ih
    · rw [List.eraseIdx_of_length_le hno, sameV_refl, if_pos rfl]; exact ih
theorem trimS_step_yes {rs : List (ByteArray × Int)} {i : Nat} (hi : i < rs.length) (h : Stays rs (i + 1)) (hy : sameV rs (rs.eraseIdx i) = true) :
    trimS rs.length rs = trimS (rs.eraseIdx i).length (rs.eraseIdx i) := by
  have hl : (rs.eraseIdx i).length = rs.length - 1 := List.length_eraseIdx_of_lt hi
  have e1 := trimS_stays h (rs.length - (i + 1))
  rw [show i + 1 + (rs.length - (i + 1)) = rs.length by omega] at e1
  have e2 := trimS_stays (stays_erase hi h) (rs.length - 1 - i)
  rw [show i + (rs.length - 1 - i) = rs.length - 1 by omega] at e2
  rw [e1, hl, e2, trimS, if_pos hy]
theorem trimS_end {rs : List (ByteArray × Int)} (h : Stays rs 0) : trimS rs.length rs = rs := by
  have := trimS_stays h rs.length
  rw [Nat.zero_add] at this
  rw [this]; rfl
theorem trimS_all (n : Nat) : ∀ rs : List (ByteArray × Int), n ≤ rs.length → Stays rs n → Stays (trimS n rs) 0 ∧ sameV (trimS n rs) rs = true ∧ (trimS n rs).Sublist rs := by
  induction n with
  | zero => intro rs _ h; exact ⟨h, sameV_refl _, List.Sublist.refl _⟩
  | succ n ih =>
    intro rs hl h
    rw [trimS]
    by_cases hy : sameV rs (rs.eraseIdx n) = true
    · rw [if_pos hy]
      have hll : (rs.eraseIdx n).length = rs.length - 1 := List.length_eraseIdx_of_lt (by omega)
      obtain ⟨h1, h2, h3⟩ := ih (rs.eraseIdx n) (by omega) (stays_erase (by omega) h)
      exact ⟨h1, sameV_trans h2 (by rw [sameV_symm]; exact hy), h3.trans (List.eraseIdx_sublist ..)⟩
    · rw [if_neg hy]
      refine ih rs (by omega) (fun j hj hjl => ?_)
      by_cases hjn : j = n
      · subst hjn; simpa using hy
      · exact h j (by omega) hjl
theorem stays_len (rs : List (ByteArray × Int)) : Stays rs rs.length := fun j h1 h2 => by omega
theorem trimV_stays (rs : List (ByteArray × Int)) : Stays (trimV rs) 0 := (trimS_all _ rs (Nat.le_refl _) (stays_len rs)).1
theorem trimV_same (rs : List (ByteArray × Int)) : sameV (trimV rs) rs = true := (trimS_all _ rs (Nat.le_refl _) (stays_len rs)).2.1
theorem trimV_sub (rs : List (ByteArray × Int)) : (trimV rs).Sublist rs := (trimS_all _ rs (Nat.le_refl _) (stays_len rs)).2.2
theorem trimV_again (rs : List (ByteArray × Int)) : trimV (trimV rs) = trimV rs := trimS_end (trimV_stays rs)

/-- A shadowed rule may go. -/
theorem shad_idle {rs : List (ByteArray × Int)} {i : Nat} (hi : i < rs.length) (h : shad rs i = true) : sameV rs (rs.eraseIdx i) = true := by
  rw [shad_at hi] at h
  rw [sameV_iff]
  intro m hm
  have hs := splitAt hi
  have e1 : rs.eraseIdx i = rs.take i ++ rs.drop (i + 1) := List.eraseIdx_eq_take_drop_succ ..
  rw [e1]
  conv => lhs; rw [hs]
  rw [boxV_mid, boxV_append]
  by_cases hx : hit (rs.take i) m = true
  · rw [if_pos hx, if_pos hx]
  · rw [if_neg hx, if_neg hx]
    by_cases hb : bg m rs[i].1 = true
    · exfalso; apply hx
      simp only [hit, List.any_eq_true] at h ⊢
      obtain ⟨x, hxm, hxb⟩ := h
      exact ⟨x, hxm, bg_trans hb hxb⟩
    · rw [if_neg hb]
theorem shad_take {rs ss : List (ByteArray × Int)} {n i : Nat} (h : rs.take n = ss.take n) (hi : i < n) (hr : n ≤ rs.length) (hs : n ≤ ss.length) : shad rs i = shad ss i := by
  have hg : rs[i]'(by omega) = ss[i]'(by omega) := by
    have : (rs.take n)[i]'(by rw [List.length_take]; omega) = (ss.take n)[i]'(by rw [List.length_take]; omega) := by congr 1
    simpa using this
  rw [shad_at (by omega), shad_at (by omega), hg]
  have : rs.take i = ss.take i := by
    have := congrArg (List.take i) h
    simpa [List.take_take, Nat.min_eq_left (Nat.le_of_lt hi)] using this
  rw [this]
theorem shadT_take {rs ss : List (ByteArray × Int)} {n : Nat} (h : rs.take n = ss.take n) (hr : n ≤ rs.length) (hs : n ≤ ss.length) : shadT rs n = shadT ss n := by
  unfold shadT
  congr 1
  apply List.filter_congr
  intro i hi
  exact shad_take h (List.mem_range.1 hi) hr hs
theorem trimS_len (n : Nat) : ∀ rs : List (ByteArray × Int), n ≤ rs.length → (trimS n rs).length + (shadT rs n).length ≤ rs.length := by
  induction n with
  | zero => intro rs _; simp [trimS, shadT]
  | succ n ih =>
    intro rs hl
    rw [trimS, shadT_succ]
    by_cases hy : sameV rs (rs.eraseIdx n) = true
    · rw [if_pos hy]
      have hll : (rs.eraseIdx n).length = rs.length - 1 := List.length_eraseIdx_of_lt (by omega)
      have := ih (rs.eraseIdx n) (by omega)
      have e : shadT (rs.eraseIdx n) n = shadT rs n := by
        refine shadT_take ?_ (by omega) (by omega)
        rw [List.eraseIdx_eq_take_drop_succ, List.take_append_of_le_length (by rw [List.length_take]; omega), List.take_take, Nat.min_self]
      rw [e] at this
      rw [List.length_append]
      split <;> simp only [List.length_cons, List.length_nil] <;> omega
    · rw [if_neg hy]
      have hns : ¬ shad rs n = true := fun h => hy (shad_idle (by omega) h)
      rw [if_neg hns, List.append_nil]
      exact ih rs (by omega)
theorem trimV_len (rs : List (ByteArray × Int)) : (trimV rs).length ≤ rs.length - (shadT rs rs.length).length := by
  have := trimS_len rs.length rs (Nat.le_refl _)
  unfold trimV; omega

/-- The rules that are not shadowed, of the first n. -/
def leftT (rs : List (ByteArray × Int)) : Nat → List (ByteArray × Int)
  | 0 => []
  | n + 1 => leftT rs n ++ if shad rs n = true then [] else [rs.getD n (ByteArray.empty, 0)]
theorem leftT_yes {rs : List (ByteArray × Int)} {n : Nat} (hn : n < rs.length) (h : shad rs n = false) : leftT rs (n + 1) = leftT rs n ++ [rs[n]] := by
  simp [leftT, h, List.getD, List.getElem?_eq_getElem hn]
theorem leftT_no {rs : List (ByteArray × Int)} {n : Nat} (h : shad rs n = true) : leftT rs (n + 1) = leftT rs n := by simp [leftT, h]
theorem leftT_sub {rs : List (ByteArray × Int)} {n : Nat} (hn : n ≤ rs.length) : (leftT rs n).Sublist (rs.take n) := by
  induction n with
  | zero => simp [leftT]
  | succ n ih =>
    rw [List.take_succ_eq_append_getElem (by omega)]
    by_cases h : shad rs n = true
    · rw [leftT_no h]; exact (ih (by omega)).trans (List.sublist_append_left ..)
    · rw [leftT_yes (by omega) (by simpa using h)]; exact (ih (by omega)).append (List.Sublist.refl _)
theorem leftT_hit {rs : List (ByteArray × Int)} {m : ByteArray} {n : Nat} (hn : n ≤ rs.length) : hit (leftT rs n) m = hit (rs.take n) m ∧ boxV (leftT rs n) m = boxV (rs.take n) m := by
  induction n with
  | zero => simp [leftT]
  | succ n ih =>
    obtain ⟨h1, h2⟩ := ih (by omega)
    rw [List.take_succ_eq_append_getElem (by omega)]
    by_cases h : shad rs n = true
    · rw [leftT_no h, h1, h2, hit_append, boxV_append]
      rw [shad_at (by omega)] at h
      by_cases hx : hit (rs.take n) m = true
      · rw [hx, if_pos rfl]; exact ⟨rfl, rfl⟩
      · have hx' : hit (rs.take n) m = false := by simpa using hx
        have hb : bg m rs[n].1 = false := by
          rw [← Bool.not_eq_true]; intro hb; apply hx
          simp only [hit, List.any_eq_true] at h ⊢
          obtain ⟨x, hxm, hxb⟩ := h
          exact ⟨x, hxm, bg_trans hb hxb⟩
        rw [hx', if_neg (by simp)]
        simp [hit, boxV, hb, boxV_none hx']
    · rw [leftT_yes (by omega) (by simpa using h), hit_append, hit_append, boxV_append, boxV_append, h1, h2]
      exact ⟨rfl, rfl⟩
theorem left_same (rs : List (ByteArray × Int)) : sameV (leftT rs rs.length) rs = true := by
  rw [sameV_iff]; intro m _
  have := (leftT_hit (m := m) (Nat.le_refl rs.length)).2
  rwa [List.take_length] at this
theorem left_clean {rs : List (ByteArray × Int)} {n : Nat} (hn : n ≤ rs.length) : ∀ i, shad (leftT rs n) i = false := by
  induction n with
  | zero => intro i; simp [leftT, shad]
  | succ n ih =>
    by_cases h : shad rs n = true
    · rw [leftT_no h]; exact ih (by omega)
    · have hf : shad rs n = false := by simpa using h
      rw [leftT_yes (by omega) hf]
      intro i
      have hl : (leftT rs n ++ [rs[n]]).length = (leftT rs n).length + 1 := by simp
      rcases Nat.lt_trichotomy i (leftT rs n).length with hi | hi | hi
      · rw [shad_take (n := (leftT rs n).length) (ss := leftT rs n) (by simp) hi (by omega) (Nat.le_refl _)]
        exact ih (by omega) i
      · subst hi
        rw [shad_at (by omega)]
        rw [shad_at (by omega)] at hf
        have e1 : (leftT rs n ++ [rs[n]])[(leftT rs n).length]'(by omega) = rs[n] := by simp
        rw [e1, List.take_left' rfl, (leftT_hit (by omega)).1]
        exact hf
      · unfold shad; rw [List.getElem?_eq_none (by omega)]
theorem left_none (rs : List (ByteArray × Int)) : shadT (leftT rs rs.length) (leftT rs rs.length).length = [] := by
  unfold shadT
  rw [List.filter_eq_nil_iff.2 (fun i _ => by rw [left_clean (Nat.le_refl _)]; simp)]
  rfl

/-- Two rules side by side may be swapped where maySwapV says so. -/
theorem swap_same {xs ys : List (ByteArray × Int)} {a b : ByteArray × Int} (h : (a.2 == b.2 || !bg a.1 b.1 && !bg b.1 a.1) = true) : sameV (xs ++ a :: b :: ys) (xs ++ b :: a :: ys) = true := by
  rw [sameV_iff]
  intro m _
  rw [boxV_append, boxV_append]
  congr 1
  simp only [boxV]
  by_cases ha : bg m a.1 = true
  · by_cases hb : bg m b.1 = true
    · rw [if_pos ha, if_pos hb]
      rw [Bool.or_eq_true] at h
      rcases h with h | h
      · exact beq_iff_eq.1 h
      · simp only [Bool.and_eq_true, Bool.not_eq_true'] at h
        rcases bg_both ha hb with h1 | h1
        · rw [h.1] at h1; cases h1
        · rw [h.2] at h1; cases h1
    · rw [if_pos ha, if_neg hb, if_pos ha]
  · rw [if_neg ha, if_neg ha]
/-- A rule for all, ahead of all others. -/
theorem bg_none (m : ByteArray) : bg m ByteArray.empty = true := by rw [bg_iff]; exact List.nil_prefix
theorem all_shad (rs : List (ByteArray × Int)) (v : Int) {i : Nat} (hi : 0 < i) (hl : i < rs.length + 1) : shad ((ByteArray.empty, v) :: rs) i = true := by
  rw [shad_at (by simp; omega)]
  obtain ⟨k, rfl⟩ : ∃ k, i = k + 1 := ⟨i - 1, by omega⟩
  rw [List.take_succ_cons, hit_cons, bg_none]; rfl
theorem all_shad0 (rs : List (ByteArray × Int)) (r : ByteArray × Int) : shad (r :: rs) 0 = false := by
  rw [shad_at (by simp)]; simp [hit]
theorem all_shadT (rs : List (ByteArray × Int)) (v : Int) (n : Nat) (h : n ≤ rs.length) : (shadT ((ByteArray.empty, v) :: rs) (n + 1)).length = n := by
  induction n with
  | zero => rw [shadT_succ, all_shad0]; simp [shadT]
  | succ n ih => rw [shadT_succ, all_shad rs v (by omega) (by omega), if_pos rfl, List.length_append, ih (by omega)]; simp
theorem boxV_first (rs : List (ByteArray × Int)) (v : Int) (m : ByteArray) : boxV ((ByteArray.empty, v) :: rs) m = v := by simp [boxV, bg_none]
theorem trim_all (v : Int) (hv : 0 ≤ v) : ∀ (n : Nat) (rs : List (ByteArray × Int)), n = rs.length → trimS (n + 1) ((ByteArray.empty, v) :: rs) = [(ByteArray.empty, v)] := by
  intro n
  induction n with
  | zero =>
    intro rs h
    have : rs = [] := List.eq_nil_of_length_eq_zero h.symm
    subst this
    have : sameV [(ByteArray.empty, v)] ([(ByteArray.empty, v)].eraseIdx 0) = false := by
      rw [← Bool.not_eq_true, sameV_iff]
      intro h
      have := h _ (List.getElem_mem (show 0 < (marksT 15).length by rw [marks_len]; omega))
      rw [boxV_first] at this
      simp only [List.eraseIdx_cons_zero, boxV] at this
      omega
    rw [trimS, this]; rfl
  | succ n ih =>
    intro rs h
    have hy : sameV ((ByteArray.empty, v) :: rs) (((ByteArray.empty, v) :: rs).eraseIdx (n + 1)) = true := shad_idle (by simp; omega) (all_shad rs v (by omega) (by omega))
    rw [trimS, if_pos hy, List.eraseIdx_cons_succ]
    exact ih _ (by rw [List.length_eraseIdx_of_lt (by omega)]; omega)
end Go.Proofs.YtphfolmhlcmbjaaDoor
