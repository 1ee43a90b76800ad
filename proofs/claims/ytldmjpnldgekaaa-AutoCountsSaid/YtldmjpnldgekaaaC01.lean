/- Finite machines as plain data, and the plain functions of package auto. They import nothing of the program. What lives, what words tell apart, and machines that do the same step by step: plain words for auto and for the reference of layer 3. The least machine: it is one. A rule of two machines' words, and what it counts of a pair; plain. Contracts of the program's functions, with no condition beyond what each theorem states. -/
section
namespace Go.Proofs.Ytldmjpnldgekaaa.A
structure Mac where
  letters : Int
  start : Int
  next : List (List Int)
  fin : List Bool
def okRow (m : Mac) (row : List Int) : Bool := decide ((row.length : Int) = m.letters) && row.all fun x => decide (-1 ≤ x) && decide (x < m.next.length)
def fits (m : Mac) : Bool := decide (0 ≤ m.letters) && (decide (m.next.length = m.fin.length) && (decide (-1 ≤ m.start) && (decide (m.start < m.next.length) && (!(decide (m.start = -1) && decide (0 < m.next.length)) && m.next.all (okRow m)))))
def valid (m : Mac) : Int := if fits m then (if 300 < m.letters ∨ 4000 < m.next.length then 5 else 0) else 1
def lead (m : Mac) (s k : Int) : Int := if s = -1 then -1 else (m.next.getD s.toNat []).getD k.toNat 0
def ends (m : Mac) (s : Int) : Bool := !decide (s = -1) && m.fin.getD s.toNat false
def from_ (m : Mac) : Int → List Int → Option Int
  | s, [] => some s
  | s, k :: l => if 0 ≤ k ∧ k < m.letters then from_ m (lead m s k) l else none
def accepts (m : Mac) (l : List Int) : Bool := if valid m = 0 then (match from_ m m.start l with | none => false | some s => ends m s) else false
/-- A state of a machine, or nowhere. -/
def In (m : Mac) (s : Int) : Prop := -1 ≤ s ∧ s < m.next.length
structure Fits (m : Mac) : Prop where
  letters : 0 ≤ m.letters
  fin : m.next.length = m.fin.length
  start : In m m.start
  none : m.start = -1 → m.next.length = 0
  rows : ∀ row ∈ m.next, (row.length : Int) = m.letters ∧ ∀ x ∈ row, In m x
theorem fits_iff {m : Mac} : fits m = true ↔ Fits m := by
  unfold fits
  simp only [Bool.and_eq_true, decide_eq_true_eq, Bool.not_eq_true', Bool.and_eq_false_iff, decide_eq_false_iff_not, List.all_eq_true, okRow]
  constructor
  · rintro ⟨h1, h2, h3, h4, h5, h6⟩
    exact ⟨h1, h2, ⟨h3, h4⟩, fun h => by omega, fun row hr => ⟨(h6 row hr).1, fun x hx => (h6 row hr).2 x hx⟩⟩
  · rintro ⟨h1, h2, ⟨h3, h4⟩, h5, h6⟩
    refine ⟨h1, h2, h3, h4, ?_, fun row hr => ⟨(h6 row hr).1, fun x hx => (h6 row hr).2 x hx⟩⟩
    by_cases h : m.start = -1
    · have := h5 h; right; omega
    · exact .inl h
theorem valid_fits {m : Mac} (h : valid m = 0) : Fits m ∧ m.letters ≤ 300 ∧ m.next.length ≤ 4000 := by
  unfold valid at h
  split at h
  · rename_i hf
    split at h
    · omega
    · exact ⟨fits_iff.1 hf, by omega, by omega⟩
  · omega
theorem Fits.lead {m : Mac} (h : Fits m) {s k : Int} (hs : In m s) (hk : 0 ≤ k) (hl : k < m.letters) : In m (lead m s k) := by
  unfold A.lead
  split
  · exact ⟨by omega, by omega⟩
  · rename_i hne
    obtain ⟨h1, h2⟩ := hs
    have hlt : s.toNat < m.next.length := by omega
    have e1 : m.next.getD s.toNat [] = m.next[s.toNat] := by simp [hlt]
    rw [e1]
    obtain ⟨h3, h4⟩ := h.rows _ (List.getElem_mem hlt)
    have hk' : k.toNat < m.next[s.toNat].length := by omega
    have e2 : m.next[s.toNat].getD k.toNat 0 = m.next[s.toNat][k.toNat] := by simp [hk']
    rw [e2]
    exact h4 _ (List.getElem_mem hk')
end Go.Proofs.Ytldmjpnldgekaaa.A
namespace Go.Proofs.Ytldmjpnldgekaaa.A
abbrev Pr := Int × Int
def fit (a b : Mac) : Int := if valid a = 0 ∧ valid b = 0 then (if a.letters = b.letters then 0 else 4) else 1
def leadP (a b : Mac) (p : Pr) (k : Int) : Pr := (lead a p.1 k, lead b p.2 k)
def agree (a b : Mac) (p : Pr) : Bool := ends a p.1 == ends b p.2
def InP (a b : Mac) (p : Pr) : Prop := In a p.1 ∧ In b p.2
/-- Two machines that can be looked at together. -/
structure Two (a b : Mac) : Prop where
  fa : Fits a
  fb : Fits b
  ll : a.letters = b.letters
  la : a.letters ≤ 300
  na : a.next.length ≤ 4000
  nb : b.next.length ≤ 4000
theorem fit_two {a b : Mac} (h : fit a b = 0) : Two a b := by
  unfold fit at h
  split at h
  · rename_i hv
    split at h
    · rename_i hl
      obtain ⟨h1, h2, h3⟩ := valid_fits hv.1
      obtain ⟨h4, _, h6⟩ := valid_fits hv.2
      exact ⟨h1, h4, hl, h2, h3, h6⟩
    · omega
  · omega
theorem Two.lead {a b : Mac} (h : Two a b) {p : Pr} {k : Int} (hp : InP a b p) (h0 : 0 ≤ k) (hk : k < a.letters) : InP a b (leadP a b p k) :=
  ⟨h.fa.lead hp.1 h0 hk, h.fb.lead hp.2 h0 (by rw [← h.ll]; exact hk)⟩
end Go.Proofs.Ytldmjpnldgekaaa.A
namespace Go.Proofs.Ytldmjpnldgekaaa.A
def okPair (a b : Mac) (p : Pr) : Bool := decide (-1 ≤ p.1) && (decide (p.1 < a.next.length) && (decide (-1 ≤ p.2) && decide (p.2 < b.next.length)))
/-- How pairs compare, as package auto reckons it. -/
def ord (p q : Pr) : Int := if p.1 ≠ q.1 then p.1 - q.1 else p.2 - q.2
def relFrom (a b : Mac) : Pr → List Pr → Bool
  | _, [] => true
  | last, p :: l => okPair a b p && (decide (ord last p < 0) && relFrom a b p l)
def isRel (a b : Mac) (l : List Pr) : Bool := relFrom a b (-1, -1) l
theorem okPair_in {a b : Mac} {p : Pr} : okPair a b p = true ↔ InP a b p := by
  unfold okPair InP In
  simp only [Bool.and_eq_true, decide_eq_true_eq]
  exact ⟨fun ⟨h1, h2, h3, h4⟩ => ⟨⟨h1, h2⟩, h3, h4⟩, fun ⟨⟨h1, h2⟩, h3, h4⟩ => ⟨h1, h2, h3, h4⟩⟩
end Go.Proofs.Ytldmjpnldgekaaa.A
end
section
namespace Go.Proofs.Ytldmjpnldgekaaa.A
/-- From the state some word leads to an end. -/
def Alive (m : Mac) (s : Int) : Prop := ∃ l t, from_ m s l = some t ∧ ends m t = true
theorem Alive.fin {m : Mac} {s : Int} (h : ends m s = true) : Alive m s := ⟨[], s, rfl, h⟩
theorem Alive.step {m : Mac} {s k : Int} (hk : 0 ≤ k) (hl : k < m.letters) (h : Alive m (lead m s k)) : Alive m s := by
  obtain ⟨l, t, h1, h2⟩ := h
  refine ⟨k :: l, t, ?_, h2⟩
  rw [from_, if_pos ⟨hk, hl⟩]
  exact h1
/-- What holds of the ends, and of a state when it holds of one that a letter leads to, holds of all that lives. -/
theorem Alive.ind {m : Mac} (hf : Fits m) {p : Int → Prop} (h0 : ∀ s, In m s → ends m s = true → p s) (hs : ∀ s k, In m s → 0 ≤ k → k < m.letters → p (lead m s k) → p s) {s : Int} (hi : In m s) (h : Alive m s) : p s := by
  obtain ⟨l, t, h1, h2⟩ := h
  induction l generalizing s with
  | nil =>
    injection h1 with e
    exact h0 s hi (e ▸ h2)
  | cons k l ih =>
    rw [from_] at h1
    split at h1
    · rename_i hk
      exact hs s k hi hk.1 hk.2 (ih (hf.lead hi hk.1 hk.2) h1)
    · cases h1
theorem alive_not {m : Mac} : ¬ Alive m (-1) := by
  intro h
  have : ∀ s, Alive m s → s ≠ -1 := by
    rintro s ⟨l, t, h1, h2⟩ e
    subst e
    induction l with
    | nil =>
      injection h1 with e
      subst e
      simp [ends] at h2
    | cons k l ih =>
      rw [from_] at h1
      split at h1
      · exact ih (by simpa [lead] using h1)
      · cases h1
  exact this _ h rfl
theorem alive_in {m : Mac} {x : Int} (hi : In m x) (h : Alive m x) : x.toNat < m.next.length ∧ ((x.toNat : Nat) : Int) = x := by
  have : x ≠ -1 := fun e => alive_not (e ▸ h)
  obtain ⟨h1, h2⟩ := hi
  omega
/-- Some word tells the two states apart. -/
def Tell (m : Mac) (s t : Int) : Prop := ∃ l u v, from_ m s l = some u ∧ from_ m t l = some v ∧ ends m u ≠ ends m v
theorem Tell.step {m : Mac} {s t k : Int} (hk : 0 ≤ k) (hl : k < m.letters) (h : Tell m (lead m s k) (lead m t k)) : Tell m s t := by
  obtain ⟨l, u, v, h1, h2, h3⟩ := h
  refine ⟨k :: l, u, v, ?_, ?_, h3⟩
  · rw [from_, if_pos ⟨hk, hl⟩]; exact h1
  · rw [from_, if_pos ⟨hk, hl⟩]; exact h2
theorem Tell.symm {m : Mac} {s t : Int} (h : Tell m s t) : Tell m t s := by
  obtain ⟨l, u, v, h1, h2, h3⟩ := h
  exact ⟨l, v, u, h2, h1, fun e => h3 e.symm⟩
theorem from_two {a b : Mac} (hl : a.letters = b.letters) : ∀ (l : List Int) (s t u : Int), from_ a s l = some u → ∃ v, from_ b t l = some v
  | [], s, t, u, _ => ⟨t, rfl⟩
  | k :: l, s, t, u, h => by
    rw [from_] at h ⊢
    split at h
    · rename_i hk
      rw [if_pos (by rw [← hl]; exact hk)]
      exact from_two hl l _ _ u h
    · cases h
theorem from_some {m : Mac} (l : List Int) (s t u : Int) (h : from_ m s l = some u) : ∃ v, from_ m t l = some v := from_two rfl l s t u h
theorem alive_tell {m : Mac} {s t : Int} (h : Alive m s) (h' : ¬ Alive m t) : Tell m s t := by
  obtain ⟨l, u, h1, h2⟩ := h
  obtain ⟨v, h3⟩ := from_some l s t u h1
  refine ⟨l, u, v, h1, h3, fun e => h' ⟨l, v, h3, e ▸ h2⟩⟩
theorem ends_neg (m : Mac) : ends m (-1) = false := by simp [ends]
theorem ends_nat (m : Mac) (s : Nat) : ends m (s : Int) = m.fin.getD s false := by
  unfold ends
  rw [Int.toNat_natCast]
  have : ¬ ((s : Int) = -1) := by omega
  simp [this]
theorem lead_neg (m : Mac) (k : Int) : lead m (-1) k = -1 := by simp [lead]
theorem lead_nat (m : Mac) (s k : Nat) : lead m (s : Int) (k : Int) = (m.next.getD s []).getD k 0 := by
  unfold lead
  rw [if_neg (by omega)]
  simp
/-- A machine does step by step what another one does. -/
structure Sim (m a : Mac) (R : Int → Int → Prop) : Prop where
  ll : m.letters = a.letters
  st : R m.start a.start
  en : ∀ x y, R x y → ends m x = ends a y
  ld : ∀ x y, R x y → ∀ k : Nat, (k : Int) < m.letters → R (lead m x k) (lead a y k)
theorem Sim.trans {a b c : Mac} {R S : Int → Int → Prop} (h : Sim a b R) (h' : Sim b c S) : Sim a c fun x z => ∃ y, R x y ∧ S y z :=
  ⟨h.ll.trans h'.ll, ⟨_, h.st, h'.st⟩, fun x z ⟨y, h1, h2⟩ => (h.en x y h1).trans (h'.en y z h2), fun x z ⟨y, h1, h2⟩ k hk => ⟨_, h.ld x y h1 k hk, h'.ld y z h2 k (by rw [← h.ll]; exact hk)⟩⟩
/-- From two states of two machines the same words are accepted. -/
def Eqv (a b : Mac) (x y : Int) : Prop := ∀ l u v, from_ a x l = some u → from_ b y l = some v → ends a u = ends b v
theorem Eqv.symm {a b : Mac} {x y : Int} (h : Eqv a b x y) : Eqv b a y x := fun l u v h1 h2 => (h l v u h2 h1).symm
theorem Eqv.trans {a b c : Mac} {x y z : Int} (hl : a.letters = b.letters) (h : Eqv a b x y) (h' : Eqv b c y z) : Eqv a c x z := fun l u v h1 h2 => by
  obtain ⟨w, h3⟩ := from_two hl l x y u h1
  exact (h l u w h1 h3).trans (h' l w v h3 h2)
theorem Eqv.ends {a b : Mac} {x y : Int} (h : Eqv a b x y) : ends a x = ends b y := h [] x y rfl rfl
theorem Eqv.lead {a b : Mac} {x y k : Int} (hl : a.letters = b.letters) (h : Eqv a b x y) (h0 : 0 ≤ k) (hk : k < a.letters) : Eqv a b (lead a x k) (lead b y k) := fun l u v h1 h2 =>
  h (k :: l) u v (by rw [from_, if_pos ⟨h0, hk⟩]; exact h1) (by rw [from_, if_pos ⟨h0, by rw [← hl]; exact hk⟩]; exact h2)
theorem Eqv.alive {a b : Mac} {x y : Int} (hl : a.letters = b.letters) (h : Eqv a b x y) (hx : Alive a x) : Alive b y := by
  obtain ⟨l, u, h1, h2⟩ := hx
  obtain ⟨v, h3⟩ := from_two hl l x y u h1
  exact ⟨l, v, h3, by rw [← h l u v h1 h3]; exact h2⟩
theorem Eqv.one {a b : Mac} {x x' y : Int} (hl : a.letters = b.letters) (h : Eqv a b x y) (h' : Eqv a b x' y) : ¬ Tell a x x' := by
  rintro ⟨l, u, v, h1, h2, h3⟩
  obtain ⟨w, h4⟩ := from_two hl l x y u h1
  exact h3 ((h l u w h1 h4).trans (h' l v w h2 h4).symm)
theorem Sim.eqv {m a : Mac} {R : Int → Int → Prop} (h : Sim m a R) : ∀ {x y : Int}, R x y → Eqv m a x y := fun {x y} hR l => by
  induction l generalizing x y with
  | nil =>
    intro u v h1 h2
    injection h1 with h1
    injection h2 with h2
    subst h1 h2
    exact h.en _ _ hR
  | cons k l ih =>
    intro u v h1 h2
    rw [from_] at h1 h2
    split at h1
    · rename_i hk
      rw [if_pos (by rw [← h.ll]; exact hk)] at h2
      have := h.ld x y hR k.toNat (by omega)
      rw [show ((k.toNat : Nat) : Int) = k by omega] at this
      exact ih this u v h1 h2
    · cases h1
theorem Sim.flip {m a : Mac} {R : Int → Int → Prop} (h : Sim m a R) : Sim a m (fun x y => R y x) := ⟨h.ll.symm, h.st, fun x y hR => (h.en y x hR).symm, fun x y hR k hk => h.ld y x hR k (by rw [h.ll]; exact hk)⟩
end Go.Proofs.Ytldmjpnldgekaaa.A
end
section
namespace Go.Proofs.Ytldmjpnldgekaaa.A
/-- A least machine, its states numbered as they are found from the start. -/
structure Mn (o : Mac) : Prop where
  fits : Fits o
  zero : o.start = -1 ∨ o.start = 0
  live : ∀ s : Nat, s < o.next.length → Alive o s
  apart : ∀ s t : Nat, s < o.next.length → t < o.next.length → s ≠ t → Tell o s t
  ord : ∀ j : Nat, 0 < j → j < o.next.length → ∃ i k : Nat, i < j ∧ (k : Int) < o.letters ∧ lead o i k = j ∧ ∀ i' k' : Nat, (i' < i ∨ (i' = i ∧ k' < k)) → (k' : Int) < o.letters → lead o i' k' < j
theorem Mn.eq_of {o : Mac} (h : Mn o) {b : Mac} (hl : o.letters = b.letters) {s t : Nat} (hs : s < o.next.length) (ht : t < o.next.length) {y : Int} (h1 : Eqv o b s y) (h2 : Eqv o b t y) : s = t := by
  refine Classical.byContradiction fun hne => ?_
  exact Eqv.one hl h1 h2 (h.apart s t hs ht hne)
/-- Where a living state stands: at a number. -/
theorem Mn.num {o : Mac} (_ : Mn o) {x : Int} (hi : In o x) (ha : Alive o x) : ∃ s : Nat, s < o.next.length ∧ x = (s : Int) := ⟨x.toNat, (alive_in hi ha).1, (alive_in hi ha).2.symm⟩
theorem Mn.same {a b : Mac} (ha : Mn a) (hb : Mn b) (hl : a.letters = b.letters) (h0 : Eqv a b a.start b.start) : ∀ j : Nat, j < a.next.length → j < b.next.length ∧ Eqv a b j j := by
  intro j
  induction j using Nat.strongRecOn with
  | _ j ih =>
    intro hj
    have hl' := hl.symm
    rcases Nat.eq_zero_or_pos j with rfl | hp
    · have e1 : a.start = 0 := by
        rcases ha.zero with h | h
        · have := ha.fits.none h; omega
        · exact h
      rw [e1] at h0
      have hal : Alive b b.start := h0.alive hl (ha.live 0 hj)
      have e2 : b.start = 0 := by
        rcases hb.zero with h | h
        · rw [h] at hal; exact absurd hal alive_not
        · exact h
      obtain ⟨s, h1, h2⟩ := hb.num hb.fits.start hal
      exact ⟨by omega, by rw [e2] at h0; exact h0⟩
    · obtain ⟨i, k, h1, h2, h3, h4⟩ := ha.ord j hp hj
      obtain ⟨g1, g2⟩ := ih i h1 (by omega)
      have g3 := g2.lead hl (k := k) (by omega) h2
      rw [h3] at g3
      have hal := g3.alive hl (ha.live j hj)
      have hin : In b (lead b i k) := hb.fits.lead ⟨by omega, by omega⟩ (by omega) (by omega)
      obtain ⟨j2, h5, h6⟩ := hb.num hin hal
      rw [h6] at g3
      have hge : ¬ j2 < j := fun hlt => by
        obtain ⟨_, g4⟩ := ih j2 hlt (by omega)
        have := ha.eq_of hl (by omega) hj g4 g3
        omega
      have hle : ¬ j < j2 := fun hlt => by
        obtain ⟨i', k', q1, q2, q3, q4⟩ := hb.ord j hp (by omega)
        have hpos : i' < i ∨ (i' = i ∧ k' < k) := by
          refine Classical.byContradiction fun hn => ?_
          have hne : ¬ (i = i' ∧ k = k') := by
            rintro ⟨rfl, rfl⟩
            omega
          have := q4 i k (by omega) (by omega)
          omega
        have hlt' := h4 i' k' hpos (by omega)
        obtain ⟨g5, g6⟩ := ih i' (by omega) (by omega)
        have g7 := g6.lead hl (k := k') (by omega) (by omega)
        rw [q3] at g7
        have hal2 := g7.symm.alive hl' (hb.live j (by omega))
        have hin2 : In a (lead a i' k') := ha.fits.lead ⟨by omega, by omega⟩ (by omega) (by omega)
        obtain ⟨j1, h7, h8⟩ := ha.num hin2 hal2
        rw [h8] at g7 hlt'
        obtain ⟨_, g8⟩ := ih j1 (by omega) h7
        have := hb.eq_of hl' (s := j1) (t := j) (by omega) (by omega) g8.symm g7.symm
        omega
      have e : j2 = j := by omega
      subst e
      exact ⟨h5, g3⟩
theorem row_ext {a b : Mac} (ha : Fits a) {i : Nat} (hi : i < a.next.length) (hb : Fits b) (hi' : i < b.next.length) (hl : a.letters = b.letters) (h : ∀ k : Nat, (k : Int) < a.letters → lead a i k = lead b i k) : a.next[i] = b.next[i] := by
  obtain ⟨h1, _⟩ := ha.rows _ (List.getElem_mem hi)
  obtain ⟨h2, _⟩ := hb.rows _ (List.getElem_mem hi')
  refine List.ext_getElem (by omega) fun k hk hk' => ?_
  have := h k (by omega)
  rw [lead_nat, lead_nat] at this
  simpa [hi, hi', hk, hk'] using this
/-- Two least machines of the same words are one. -/
theorem Mn.uniq {a b : Mac} (ha : Mn a) (hb : Mn b) (hl : a.letters = b.letters) (h0 : Eqv a b a.start b.start) : a = b := by
  have s1 := ha.same hb hl h0
  have s2 := hb.same ha hl.symm h0.symm
  have hn : a.next.length = b.next.length := by
    refine Classical.byContradiction fun hne => ?_
    rcases Nat.lt_or_ge a.next.length b.next.length with h | h
    · have := (s2 a.next.length h).1; omega
    · have := (s1 b.next.length (by omega)).1; omega
  have e2 : a.start = b.start := by
    rcases ha.zero with h | h
    · have := ha.fits.none h
      rcases hb.zero with h' | h'
      · rw [h, h']
      · have := hb.fits.start.2; omega
    · rcases hb.zero with h' | h'
      · have := hb.fits.none h'
        have := ha.fits.start.2; omega
      · rw [h, h']
  have e3 : a.next = b.next := List.ext_getElem hn fun i hi hi' => by
    refine row_ext ha.fits hi hb.fits hi' hl fun k hk => ?_
    obtain ⟨_, g⟩ := s1 i hi
    have g1 := g.lead hl (k := k) (by omega) hk
    have ia : In a (lead a i k) := ha.fits.lead ⟨by omega, by omega⟩ (by omega) hk
    have ib : In b (lead b i k) := hb.fits.lead ⟨by omega, by omega⟩ (by omega) (by omega)
    by_cases hal : Alive a (lead a i k)
    · obtain ⟨s, p1, p2⟩ := ha.num ia hal
      obtain ⟨t, p3, p4⟩ := hb.num ib (g1.alive hl hal)
      rw [p2, p4] at g1
      rw [p2, p4]
      obtain ⟨_, g2⟩ := s1 s p1
      have := hb.eq_of hl.symm (s := s) (t := t) (by omega) p3 g2.symm g1.symm
      omega
    · have hb' : ¬ Alive b (lead b i k) := fun h => hal (g1.symm.alive hl.symm h)
      have ea : lead a i k = -1 := by
        refine Classical.byContradiction fun hne => hal ?_
        have := ha.live (lead a i k).toNat (by have := ia.1; have := ia.2; omega)
        rw [show (((lead a i k).toNat : Nat) : Int) = lead a i k by have := ia.1; omega] at this
        exact this
      have eb : lead b i k = -1 := by
        refine Classical.byContradiction fun hne => hb' ?_
        have := hb.live (lead b i k).toNat (by have := ib.1; have := ib.2; omega)
        rw [show (((lead b i k).toNat : Nat) : Int) = lead b i k by have := ib.1; omega] at this
        exact this
      rw [ea, eb]
  have e4 : a.fin = b.fin := by
    have h1 := ha.fits.fin
    have h2 := hb.fits.fin
    refine List.ext_getElem (by omega) fun i hi hi' => ?_
    obtain ⟨_, g⟩ := s1 i (by omega)
    have := g.ends
    rw [ends_nat, ends_nat] at this
    simpa [hi, hi'] using this
  cases a
  cases b
  simp only [Mac.mk.injEq]
  exact ⟨hl, e2, e3, e4⟩
end Go.Proofs.Ytldmjpnldgekaaa.A
end
section
namespace Go.Proofs.Ytldmjpnldgekaaa.A
/-- A rule that takes no word that neither machine accepts, and no fewer where more is accepted. -/
structure Rule (T : Bool → Bool → Bool) : Prop where
  ff : T false false = false
  mono : ∀ a b a' b', (a = true → a' = true) → (b = true → b' = true) → T a b = true → T a' b' = true
/-- A pair that the rule takes, its states there or not; otherwise nowhere twice. -/
def cnt (T : Bool → Bool → Bool) (p : Pr) : Pr := if T (decide (p.1 ≠ -1)) (decide (p.2 ≠ -1)) = true then p else (-1, -1)
end Go.Proofs.Ytldmjpnldgekaaa.A
end
