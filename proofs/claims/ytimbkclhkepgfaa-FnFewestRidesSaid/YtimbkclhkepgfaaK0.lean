/- Coaches, plain: what is reached, and when. No condition. -/
import Derived.Test.YtimbkclhkepgfaaA1
import Derived.Test.YtimbkclhkepgfaaO0
namespace Go.Proofs.Ytimbkclhkepgfaa
open Go.RowKit

/-- A coach: from, leave, to, come. -/
structure Coach where
  fr : Int
  lv : Int
  to : Int
  cm : Int
/-- The coach runs: it leaves a stop, and comes to one later. -/
structure Coach.Ok (c : Coach) : Prop where
  f0 : 0 ≤ c.fr
  f1 : c.fr ≤ 4
  t0 : 0 ≤ c.to
  t1 : c.to ≤ 4
  l0 : 0 ≤ c.lv
  l1 : c.lv ≤ 60
  lc : c.lv < c.cm
  c1 : c.cm ≤ 60
def cp (r : List Int) : Coach := ⟨r.getD 0 0, r.getD 1 0, r.getD 2 0, r.getD 3 0⟩

/-- The time at a stop. -/
def tA (t : List Int) (v : Int) : Int := t.getD v.toNat 0
theorem tA_set_same {t : List Int} {v : Int} (hl : t.length = 5) (h1 : v ≤ 4) (x : Int) : tA (t.set v.toNat x) v = x := by
  simp only [tA, List.getD, List.getElem?_set]
  rw [if_pos trivial, if_pos (by omega)]; rfl
theorem tA_set_other {t : List Int} {v u : Int} (h0 : 0 ≤ v) (h2 : 0 ≤ u) (hne : v ≠ u) (x : Int) : tA (t.set v.toNat x) u = tA t u := by
  simp only [tA, List.getD, List.getElem?_set]
  rw [if_neg (by omega)]

/-- All times are from -1 to 60. -/
structure Times (t : List Int) : Prop where
  len : t.length = 5
  low : ∀ x ∈ t, -1 ≤ x ∧ x ≤ 60
theorem Times.at {t : List Int} (h : Times t) (v : Int) : -1 ≤ tA t v ∧ tA t v ≤ 60 := by
  simp only [tA, List.getD]
  cases hv : t[v.toNat]? with
  | none => simp
  | some x => exact h.low x (List.mem_of_getElem? hv)
theorem Times.set {t : List Int} (h : Times t) (v : Int) {x : Int} (hx : -1 ≤ x ∧ x ≤ 60) : Times (t.set v.toNat x) :=
  ⟨by rw [List.length_set]; exact h.len, fun y hy => by
    rcases List.mem_or_eq_of_mem_set hy with hy | rfl
    · exact h.low y hy
    · exact hx⟩

/-- Take a coach from where a leads. -/
def takeE (a t : List Int) (c : Coach) : List Int :=
  if (0 ≤ tA a c.fr ∧ tA a c.fr ≤ c.lv) ∧ (tA t c.to < 0 ∨ c.cm < tA t c.to) then t.set c.to.toNat c.cm else t
/-- Take a coach to be there in time. -/
def takeL (t : List Int) (c : Coach) : List Int :=
  if c.cm ≤ tA t c.to ∧ tA t c.fr < c.lv then t.set c.fr.toNat c.lv else t
theorem takeE_times {a t : List Int} {c : Coach} (h : Times t) (hc : c.Ok) : Times (takeE a t c) := by
  unfold takeE
  split
  · exact h.set _ (by have := hc.l0; have := hc.lc; have := hc.c1; omega)
  · exact h
theorem takeL_times {t : List Int} {c : Coach} (h : Times t) (hc : c.Ok) : Times (takeL t c) := by
  unfold takeL
  split
  · exact h.set _ (by have := hc.l0; have := hc.lc; have := hc.l1; omega)
  · exact h

/-- t tells by when what P says. -/
def Rep (t : List Int) (P : Int → Int → Prop) : Prop := ∀ v x, 0 ≤ v → v ≤ 4 → ((0 ≤ tA t v ∧ tA t v ≤ x) ↔ P v x)
/-- t tells until when what P says. -/
def RepL (t : List Int) (P : Int → Int → Prop) : Prop := ∀ v x, 0 ≤ v → v ≤ 4 → 0 ≤ x → (x ≤ tA t v ↔ P v x)

theorem takeE_rep {a t : List Int} {c : Coach} {P Q : Int → Int → Prop} (hT : Times t) (hc : c.Ok) (ha : Rep a P) (ht : Rep t Q) :
    Rep (takeE a t c) (fun v x => Q v x ∨ (c.to = v ∧ c.cm ≤ x ∧ P c.fr c.lv)) := by
  intro v x h0 h1
  have hp := ha c.fr c.lv hc.f0 hc.f1
  have hq := ht v x h0 h1
  have hcm : 0 < c.cm := by have := hc.l0; have := hc.lc; omega
  unfold takeE
  split
  · rename_i hcond
    have hP := hp.1 hcond.1
    by_cases hv : c.to = v
    · subst hv
      rw [tA_set_same hT.len hc.t1]
      constructor
      · intro h; exact .inr ⟨rfl, h.2, hP⟩
      · rintro (h | ⟨_, h, _⟩)
        · have := hq.2 h; omega
        · omega
    · rw [tA_set_other hc.t0 h0 hv]
      constructor
      · intro h; exact .inl (hq.1 h)
      · rintro (h | ⟨h, _⟩)
        · exact hq.2 h
        · exact absurd h hv
  · rename_i hcond
    constructor
    · intro h; exact .inl (hq.1 h)
    · rintro (h | ⟨rfl, hx, hP⟩)
      · exact hq.2 h
      · have := hp.2 hP
        have h2 : ¬ (tA t c.to < 0 ∨ c.cm < tA t c.to) := fun h => hcond ⟨this, h⟩
        omega
theorem takeL_rep {t : List Int} {c : Coach} {Q : Int → Int → Prop} (hT : Times t) (hc : c.Ok) (ht : RepL t Q) :
    RepL (takeL t c) (fun v x => Q v x ∨ (c.fr = v ∧ x ≤ c.lv ∧ Q c.to c.cm)) := by
  intro v x h0 h1 hx
  have hq := ht v x h0 h1 hx
  have hp := ht c.to c.cm hc.t0 hc.t1 (by have := hc.l0; have := hc.lc; omega)
  unfold takeL
  split
  · rename_i hcond
    have hP := hp.1 hcond.1
    by_cases hv : c.fr = v
    · subst hv
      rw [tA_set_same hT.len hc.f1]
      constructor
      · intro h; exact .inr ⟨rfl, h, hP⟩
      · rintro (h | ⟨_, h, _⟩)
        · have := hq.2 h; omega
        · omega
    · rw [tA_set_other hc.f0 h0 hv]
      constructor
      · intro h; exact .inl (hq.1 h)
      · rintro (h | ⟨h, _⟩)
        · exact hq.2 h
        · exact absurd h hv
  · rename_i hcond
    constructor
    · intro h; exact .inl (hq.1 h)
    · rintro (h | ⟨rfl, hx2, hP⟩)
      · exact hq.2 h
      · have := hp.2 hP
        have h2 : ¬ (tA t c.fr < c.lv) := fun h => hcond ⟨this, h⟩
        omega

/-- The times with that of one stop. -/
def onlyT (s τ : Int) : List Int := (List.replicate 5 (-1)).set s.toNat τ
theorem onlyT_times {s τ : Int} (h : 0 ≤ τ ∧ τ ≤ 60) : Times (onlyT s τ) :=
  Times.set ⟨by simp, fun x hx => by rw [List.eq_of_mem_replicate hx]; omega⟩ s (by omega)
theorem onlyT_at {s τ : Int} (hs : 0 ≤ s ∧ s ≤ 4) (v : Int) (h0 : 0 ≤ v) (h1 : v ≤ 4) : tA (onlyT s τ) v = if v = s then τ else -1 := by
  unfold onlyT
  by_cases h : v = s
  · rw [if_pos h, h]
    exact tA_set_same (by simp) hs.2 τ
  · rw [if_neg h, tA_set_other hs.1 h0 (fun e => h e.symm)]
    simp only [tA, List.getD, List.getElem?_replicate]
    rw [if_pos (by omega)]; rfl

/-- By n coaches one is at v at x. -/
def G (cs : List Coach) (s τ : Int) : Nat → Int → Int → Prop
  | 0, v, x => v = s ∧ τ ≤ x
  | n + 1, v, x => G cs s τ n v x ∨ ∃ c ∈ cs, c.to = v ∧ c.cm ≤ x ∧ G cs s τ n c.fr c.lv
/-- One leaves u at x, and is at v at t by n coaches. -/
def K (cs : List Coach) (v t : Int) : Nat → Int → Int → Prop
  | 0, u, x => u = v ∧ x ≤ t
  | n + 1, u, x => K cs v t n u x ∨ ∃ c ∈ cs, c.fr = u ∧ x ≤ c.lv ∧ K cs v t n c.to c.cm
/-- One is at a at τ, and at b at t. -/
inductive Go (cs : List Coach) (b t : Int) : Int → Int → Prop
  | stay {τ : Int} : τ ≤ t → Go cs b t b τ
  | ride {τ : Int} (c : Coach) : c ∈ cs → τ ≤ c.lv → Go cs b t c.to c.cm → Go cs b t c.fr τ

theorem G_mono {cs ds : List Coach} {s τ : Int} (hs : ∀ c ∈ cs, c ∈ ds) {n : Nat} : ∀ {m v x}, n ≤ m → G cs s τ n v x → G ds s τ m v x := by
  induction n with
  | zero =>
    intro m v x _ h
    induction m with
    | zero => exact h
    | succ m ih => exact .inl (ih (by omega))
  | succ n ih =>
    intro m v x hm h
    obtain ⟨m', rfl⟩ : ∃ m', m = m' + 1 := ⟨m - 1, by omega⟩
    rcases h with h | ⟨c, hc, e, h1, h2⟩
    · exact .inl (ih (by omega) h)
    · exact .inr ⟨c, hs c hc, e, h1, ih (by omega) h2⟩
theorem Go_mono {cs ds : List Coach} {b t : Int} (hs : ∀ c ∈ cs, c ∈ ds) {a τ : Int} (h : Go cs b t a τ) : Go ds b t a τ := by
  induction h with
  | stay h => exact .stay h
  | ride c hc h1 _ ih => exact .ride c (hs c hc) h1 ih
theorem Go_later {cs : List Coach} {b t t' : Int} (ht : t ≤ t') {a τ : Int} (h : Go cs b t a τ) : Go cs b t' a τ := by
  induction h with
  | stay h => exact .stay (by omega)
  | ride c hc h1 _ ih => exact .ride c hc h1 ih
theorem Go_sooner {cs : List Coach} {b t a τ τ' : Int} (ht : τ' ≤ τ) (h : Go cs b t a τ) : Go cs b t a τ' := by
  cases h with
  | stay h => exact .stay (by omega)
  | ride c hc h1 h2 => exact .ride c hc (by omega) h2
theorem Go_time {cs : List Coach} (hok : ∀ c ∈ cs, c.Ok) {b t a τ : Int} (h : Go cs b t a τ) : τ ≤ t := by
  induction h with
  | stay h => exact h
  | ride c hc h1 _ ih => have := (hok c hc).lc; omega
theorem Go_snoc {cs : List Coach} {c : Coach} (hc : c ∈ cs) {t : Int} (ht : c.cm ≤ t) {a τ : Int} (h : Go cs c.fr c.lv a τ) : Go cs c.to t a τ := by
  induction h with
  | stay h => exact .ride c hc h (.stay ht)
  | ride d hd h1 _ ih => exact .ride d hd h1 ih
theorem G_go {cs : List Coach} {s τ : Int} {n : Nat} : ∀ {v x}, G cs s τ n v x → Go cs v x s τ := by
  induction n with
  | zero => rintro v x ⟨rfl, h⟩; exact .stay h
  | succ n ih =>
    rintro v x (h | ⟨c, hc, rfl, h1, h2⟩)
    · exact ih h
    · exact Go_snoc hc h1 (ih h2)
theorem G_cons {cs : List Coach} {c : Coach} (hc : c ∈ cs) {τ : Int} (h : τ ≤ c.lv) {n : Nat} : ∀ {v x}, G cs c.to c.cm n v x → G cs c.fr τ (n + 1) v x := by
  induction n with
  | zero => rintro v x ⟨rfl, h1⟩; exact .inr ⟨c, hc, rfl, h1, rfl, h⟩
  | succ n ih =>
    rintro v x (h1 | ⟨d, hd, rfl, h1, h2⟩)
    · exact .inl (ih h1)
    · exact .inr ⟨d, hd, rfl, h1, ih h2⟩
theorem go_G {cs : List Coach} {v x s τ : Int} (h : Go cs v x s τ) : ∃ n, G cs s τ n v x := by
  induction h with
  | stay h => exact ⟨0, rfl, h⟩
  | ride c hc h1 _ ih =>
    obtain ⟨n, hn⟩ := ih
    exact ⟨n + 1, G_cons hc h1 hn⟩
theorem K_go {cs : List Coach} {v t : Int} {n : Nat} : ∀ {u x}, K cs v t n u x → Go cs v t u x := by
  induction n with
  | zero => rintro u x ⟨rfl, h⟩; exact .stay h
  | succ n ih =>
    rintro u x (h | ⟨c, hc, rfl, h1, h2⟩)
    · exact ih h
    · exact .ride c hc h1 (ih h2)
theorem go_K {cs : List Coach} {v t u x : Int} (h : Go cs v t u x) : ∃ n, K cs v t n u x := by
  induction h with
  | stay h => exact ⟨0, rfl, h⟩
  | ride c hc h1 _ ih =>
    obtain ⟨n, hn⟩ := ih
    exact ⟨n + 1, .inr ⟨c, hc, rfl, h1, hn⟩⟩

/-- The same coach by coach, the last one first. -/
def GL (s τ : Int) : List Coach → Int → Int → Prop
  | [], v, x => v = s ∧ τ ≤ x
  | c :: cs, v, x => GL s τ cs v x ∨ (c.to = v ∧ c.cm ≤ x ∧ GL s τ cs c.fr c.lv)
def KL (v t : Int) : List Coach → Int → Int → Prop
  | [], u, x => u = v ∧ x ≤ t
  | c :: cs, u, x => KL v t cs u x ∨ (c.fr = u ∧ x ≤ c.lv ∧ KL v t cs c.to c.cm)
theorem GL_G {s τ : Int} {cs : List Coach} : ∀ {v x}, GL s τ cs v x → G cs s τ cs.length v x := by
  induction cs with
  | nil => exact fun h => h
  | cons c cs ih =>
    rintro v x (h | ⟨h1, h2, h3⟩)
    · exact G_mono (fun d hd => List.mem_cons_of_mem _ hd) (by simp) (ih h)
    · exact .inr ⟨c, List.mem_cons_self, h1, h2, G_mono (fun d hd => List.mem_cons_of_mem _ hd) (Nat.le_refl _) (ih h3)⟩
theorem GL_shut {s τ : Int} {cs : List Coach} (hok : ∀ c ∈ cs, c.Ok) (hsort : cs.Pairwise (fun a b => b.lv ≤ a.lv)) :
    ∀ c ∈ cs, ∀ x, GL s τ cs c.fr c.lv → c.cm ≤ x → GL s τ cs c.to x := by
  induction cs with
  | nil => intro c hc; cases hc
  | cons d cs ih =>
    rw [List.pairwise_cons] at hsort
    intro c hc x hg hx
    have hd := hok d List.mem_cons_self
    rcases List.mem_cons.1 hc with rfl | hc'
    · rcases hg with h | ⟨_, h, _⟩
      · exact .inr ⟨rfl, hx, h⟩
      · have := hd.lc; omega
    · rcases hg with h | ⟨_, h, _⟩
      · exact .inl (ih (fun c hc => hok c (List.mem_cons_of_mem _ hc)) hsort.2 c hc' x h hx)
      · have := hsort.1 c hc'; have := hd.lc; omega
theorem G_GL {s τ : Int} {cs : List Coach} (hok : ∀ c ∈ cs, c.Ok) (hsort : cs.Pairwise (fun a b => b.lv ≤ a.lv)) {n : Nat} : ∀ {v x}, G cs s τ n v x → GL s τ cs v x := by
  induction n with
  | zero =>
    rintro v x h
    clear hok hsort
    induction cs with
    | nil => exact h
    | cons c cs ih => exact .inl (ih h)
  | succ n ih =>
    rintro v x (h | ⟨c, hc, rfl, h1, h2⟩)
    · exact ih h
    · exact GL_shut hok hsort c hc x (ih h2) h1
theorem KL_go {v t : Int} {cs : List Coach} : ∀ {u x}, KL v t cs u x → Go cs v t u x := by
  induction cs with
  | nil => rintro u x ⟨rfl, h⟩; exact .stay h
  | cons c cs ih =>
    rintro u x (h | ⟨rfl, h2, h3⟩)
    · exact Go_mono (fun d hd => List.mem_cons_of_mem _ hd) (ih h)
    · exact .ride c List.mem_cons_self h2 (Go_mono (fun d hd => List.mem_cons_of_mem _ hd) (ih h3))
theorem KL_shut {v t : Int} {cs : List Coach} (hok : ∀ c ∈ cs, c.Ok) (hsort : cs.Pairwise (fun a b => a.lv ≤ b.lv)) :
    ∀ c ∈ cs, ∀ x, KL v t cs c.to c.cm → x ≤ c.lv → KL v t cs c.fr x := by
  induction cs with
  | nil => intro c hc; cases hc
  | cons d cs ih =>
    rw [List.pairwise_cons] at hsort
    intro c hc x hg hx
    have hd := hok d List.mem_cons_self
    have hco := hok c hc
    rcases List.mem_cons.1 hc with rfl | hc'
    · rcases hg with h | ⟨_, h, _⟩
      · exact .inr ⟨rfl, hx, h⟩
      · have := hd.lc; omega
    · rcases hg with h | ⟨_, h, _⟩
      · exact .inl (ih (fun c hc => hok c (List.mem_cons_of_mem _ hc)) hsort.2 c hc' x h hx)
      · have := hsort.1 c hc'; have := hco.lc; omega
theorem go_KL {v t : Int} {cs : List Coach} (hok : ∀ c ∈ cs, c.Ok) (hsort : cs.Pairwise (fun a b => a.lv ≤ b.lv)) {u x : Int} (h : Go cs v t u x) : KL v t cs u x := by
  induction h with
  | stay h =>
    clear hok hsort
    induction cs with
    | nil => exact ⟨rfl, h⟩
    | cons c cs ih => exact .inl ih
  | ride c hc h1 _ ih => exact KL_shut hok hsort c hc _ ih h1

/-- All coaches once, one after the other. -/
theorem foldE_times {cs : List Coach} (hok : ∀ c ∈ cs, c.Ok) : ∀ {t}, Times t → Times (cs.foldl (fun t c => takeE t t c) t) := by
  induction cs with
  | nil => exact fun h => h
  | cons c cs ih => exact fun h => ih (fun d hd => hok d (List.mem_cons_of_mem _ hd)) (takeE_times h (hok c List.mem_cons_self))
theorem foldW_times {a : List Int} {cs : List Coach} (hok : ∀ c ∈ cs, c.Ok) : ∀ {t}, Times t → Times (cs.foldl (takeE a) t) := by
  induction cs with
  | nil => exact fun h => h
  | cons c cs ih => exact fun h => ih (fun d hd => hok d (List.mem_cons_of_mem _ hd)) (takeE_times h (hok c List.mem_cons_self))
theorem foldL_times {cs : List Coach} (hok : ∀ c ∈ cs, c.Ok) : ∀ {t}, Times t → Times (cs.foldl takeL t) := by
  induction cs with
  | nil => exact fun h => h
  | cons c cs ih => exact fun h => ih (fun d hd => hok d (List.mem_cons_of_mem _ hd)) (takeL_times h (hok c List.mem_cons_self))
theorem onlyT_rep {s τ : Int} (hs : 0 ≤ s ∧ s ≤ 4) (hτ : 0 ≤ τ) : Rep (onlyT s τ) (fun v x => v = s ∧ τ ≤ x) := by
  intro v x h0 h1
  rw [onlyT_at hs v h0 h1]
  split <;> omega
theorem onlyT_repL {s τ : Int} (hs : 0 ≤ s ∧ s ≤ 4) : RepL (onlyT s τ) (fun v x => v = s ∧ x ≤ τ) := by
  intro v x h0 h1 hx
  rw [onlyT_at hs v h0 h1]
  split <;> omega

def earlT (cs : List Coach) (s τ : Int) : List Int := cs.foldl (fun t c => takeE t t c) (onlyT s τ)
def withT (cs : List Coach) (s τ : Int) : Nat → List Int
  | 0 => onlyT s τ
  | n + 1 => cs.foldl (takeE (withT cs s τ n)) (withT cs s τ n)
def lateT (cs : List Coach) (s τ : Int) : List Int := cs.foldl takeL (onlyT s τ)
theorem earlT_times {cs : List Coach} {s τ : Int} (hok : ∀ c ∈ cs, c.Ok) (h : 0 ≤ τ ∧ τ ≤ 60) : Times (earlT cs s τ) := foldE_times hok (onlyT_times h)
theorem lateT_times {cs : List Coach} {s τ : Int} (hok : ∀ c ∈ cs, c.Ok) (h : 0 ≤ τ ∧ τ ≤ 60) : Times (lateT cs s τ) := foldL_times hok (onlyT_times h)
theorem withT_times {cs : List Coach} {s τ : Int} (hok : ∀ c ∈ cs, c.Ok) (h : 0 ≤ τ ∧ τ ≤ 60) (n : Nat) : Times (withT cs s τ n) := by
  induction n with
  | zero => exact onlyT_times h
  | succ n ih => exact foldW_times hok ih

theorem foldE_rep {s τ : Int} {ds : List Coach} (hok : ∀ c ∈ ds, c.Ok) (hs : 0 ≤ s ∧ s ≤ 4) (hτ : 0 ≤ τ ∧ τ ≤ 60) :
    Times (ds.foldr (fun c t => takeE t t c) (onlyT s τ)) ∧ Rep (ds.foldr (fun c t => takeE t t c) (onlyT s τ)) (GL s τ ds) := by
  induction ds with
  | nil => exact ⟨onlyT_times hτ, onlyT_rep hs hτ.1⟩
  | cons c ds ih =>
    have hc := hok c List.mem_cons_self
    have h := ih (fun d hd => hok d (List.mem_cons_of_mem _ hd))
    exact ⟨takeE_times h.1 hc, takeE_rep h.1 hc h.2 h.2⟩
theorem foldL_rep {s τ : Int} {ds : List Coach} (hok : ∀ c ∈ ds, c.Ok) (hs : 0 ≤ s ∧ s ≤ 4) (hτ : 0 ≤ τ ∧ τ ≤ 60) :
    Times (ds.foldr (fun c t => takeL t c) (onlyT s τ)) ∧ RepL (ds.foldr (fun c t => takeL t c) (onlyT s τ)) (KL s τ ds) := by
  induction ds with
  | nil => exact ⟨onlyT_times hτ, onlyT_repL hs⟩
  | cons c ds ih =>
    have hc := hok c List.mem_cons_self
    have h := ih (fun d hd => hok d (List.mem_cons_of_mem _ hd))
    exact ⟨takeL_times h.1 hc, takeL_rep h.1 hc h.2⟩
/-- The coaches as they leave: by when one is there. -/
theorem earlT_rep {cs : List Coach} {s τ : Int} (hok : ∀ c ∈ cs, c.Ok) (hsort : cs.Pairwise (fun a b => a.lv ≤ b.lv)) (hs : 0 ≤ s ∧ s ≤ 4) (hτ : 0 ≤ τ ∧ τ ≤ 60) :
    Rep (earlT cs s τ) (fun v x => Go cs v x s τ) := by
  have h := (foldE_rep (ds := cs.reverse) (fun c hc => hok c (List.mem_reverse.1 hc)) hs hτ).2
  rw [List.foldr_reverse] at h
  intro v x h0 h1
  refine (h v x h0 h1).trans ⟨fun hg => ?_, fun hg => ?_⟩
  · exact Go_mono (fun c hc => List.mem_reverse.1 hc) (G_go (GL_G hg))
  · obtain ⟨n, hn⟩ := go_G hg
    exact G_GL (fun c hc => hok c (List.mem_reverse.1 hc)) (List.pairwise_reverse.2 hsort) (G_mono (fun c hc => List.mem_reverse.2 hc) (Nat.le_refl n) hn)
/-- The same by so many coaches as there are. -/
theorem go_len {cs : List Coach} {s τ v x : Int} (hok : ∀ c ∈ cs, c.Ok) (hsort : cs.Pairwise (fun a b => a.lv ≤ b.lv)) (hg : Go cs v x s τ) : G cs s τ cs.length v x := by
  obtain ⟨n, hn⟩ := go_G hg
  have := GL_G (G_GL (s := s) (τ := τ) (fun c hc => hok c (List.mem_reverse.1 hc)) (List.pairwise_reverse.2 hsort) (G_mono (fun c hc => List.mem_reverse.2 hc) (Nat.le_refl n) hn))
  exact G_mono (fun c hc => List.mem_reverse.1 hc) (by simp) this
theorem lateT_rep {cs : List Coach} {s τ : Int} (hok : ∀ c ∈ cs, c.Ok) (hsort : cs.Pairwise (fun a b => b.lv ≤ a.lv)) (hs : 0 ≤ s ∧ s ≤ 4) (hτ : 0 ≤ τ ∧ τ ≤ 60) :
    RepL (lateT cs s τ) (fun u x => Go cs s τ u x) := by
  have h := (foldL_rep (ds := cs.reverse) (fun c hc => hok c (List.mem_reverse.1 hc)) hs hτ).2
  rw [List.foldr_reverse] at h
  intro v x h0 h1 hx
  refine (h v x h0 h1 hx).trans ⟨fun hg => ?_, fun hg => ?_⟩
  · exact Go_mono (fun c hc => List.mem_reverse.1 hc) (KL_go hg)
  · exact go_KL (fun c hc => hok c (List.mem_reverse.1 hc)) (List.pairwise_reverse.2 hsort) (Go_mono (fun c hc => List.mem_reverse.2 hc) hg)
theorem foldW_rep {a : List Int} {P : Int → Int → Prop} (ha : Rep a P) {cs : List Coach} (hok : ∀ c ∈ cs, c.Ok) : ∀ {t : List Int} {Q : Int → Int → Prop}, Times t → Rep t Q →
    Rep (cs.foldl (takeE a) t) (fun v x => Q v x ∨ ∃ c ∈ cs, c.to = v ∧ c.cm ≤ x ∧ P c.fr c.lv) := by
  induction cs with
  | nil => intro t Q _ h v x h0 h1; exact (h v x h0 h1).trans ⟨.inl, fun h => by rcases h with h | ⟨c, hc, _⟩; exact h; cases hc⟩
  | cons c cs ih =>
    intro t Q hT h v x h0 h1
    have hc := hok c List.mem_cons_self
    refine (ih (fun d hd => hok d (List.mem_cons_of_mem _ hd)) (takeE_times hT hc) (takeE_rep hT hc ha h) v x h0 h1).trans ⟨?_, ?_⟩
    · rintro ((h | h) | ⟨d, hd, h⟩)
      · exact .inl h
      · exact .inr ⟨c, List.mem_cons_self, h⟩
      · exact .inr ⟨d, List.mem_cons_of_mem _ hd, h⟩
    · rintro (h | ⟨d, hd, h⟩)
      · exact .inl (.inl h)
      · rcases List.mem_cons.1 hd with rfl | hd
        · exact .inl (.inr h)
        · exact .inr ⟨d, hd, h⟩
theorem withT_rep {cs : List Coach} {s τ : Int} (hok : ∀ c ∈ cs, c.Ok) (hs : 0 ≤ s ∧ s ≤ 4) (hτ : 0 ≤ τ ∧ τ ≤ 60) (n : Nat) : Rep (withT cs s τ n) (G cs s τ n) := by
  induction n with
  | zero => exact onlyT_rep hs hτ.1
  | succ n ih => exact foldW_rep ih hok (withT_times hok hτ n) ih

/-- Two rows of times that tell the same are the same. -/
theorem rep_eq {t u : List Int} {P : Int → Int → Prop} (ht : Times t) (hu : Times u) (h1 : Rep t P) (h2 : Rep u P) : t = u := by
  apply List.ext_getElem
  · rw [ht.len, hu.len]
  · intro i hi hi2
    have hl := ht.len
    have a1 := h1 (i : Int) (t[i]) (by omega) (by omega)
    have a2 := h2 (i : Int) (t[i]) (by omega) (by omega)
    have b1 := h1 (i : Int) (u[i]) (by omega) (by omega)
    have b2 := h2 (i : Int) (u[i]) (by omega) (by omega)
    have e1 : tA t (i : Int) = t[i] := by simp [tA, List.getD, List.getElem?_eq_getElem hi]
    have e2 : tA u (i : Int) = u[i] := by simp [tA, List.getD, List.getElem?_eq_getElem hi2]
    rw [e1] at a1 b1
    rw [e2] at a2 b2
    have c1 := (ht.low _ (List.getElem_mem hi)).1
    have c2 := (hu.low _ (List.getElem_mem hi2)).1
    have d1 := a1.trans a2.symm
    have d2 := b1.trans b2.symm
    omega
end Go.Proofs.Ytimbkclhkepgfaa
