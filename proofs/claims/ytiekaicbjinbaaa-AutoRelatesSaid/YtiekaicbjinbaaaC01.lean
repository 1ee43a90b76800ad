/- Finite machines as plain data, and the plain functions of package auto. They import nothing of the program. Contracts of the program's functions, with no condition beyond what each theorem states. -/
section
namespace Go.Proofs.Ytiekaicbjinbaaa.A
structure Mac where
  letters : Int
  start : Int
  next : List (List Int)
  fin : List Bool
def okRow (m : Mac) (row : List Int) : Bool := decide ((row.length : Int) = m.letters) && row.all fun x => decide (-1 ≤ x) && decide (x < m.next.length)
def fits (m : Mac) : Bool := decide (0 ≤ m.letters) && (decide (m.next.length = m.fin.length) && (decide (-1 ≤ m.start) && (decide (m.start < m.next.length) && (!(decide (m.start = -1) && decide (0 < m.next.length)) && m.next.all (okRow m)))))
def valid (m : Mac) : Int := if fits m then (if 300 < m.letters ∨ 4000 < m.next.length then 5 else 0) else 1
def lead (m : Mac) (s k : Int) : Int := if s = -1 then -1 else (m.next.getD s.toNat []).getD k.toNat 0
def ends (m : Mac) (s : Int) : Bool := !decide (s = -1) && m.fin.getD s.toNat false
def from_ (m : Mac) : Int → List Int → Option Int
  | s, [] => some s
  | s, k :: l => if 0 ≤ k ∧ k < m.letters then from_ m (lead m s k) l else none
def accepts (m : Mac) (l : List Int) : Bool := if valid m = 0 then (match from_ m m.start l with | none => false | some s => ends m s) else false
/-- A state of a machine, or nowhere. -/
def In (m : Mac) (s : Int) : Prop := -1 ≤ s ∧ s < m.next.length
structure Fits (m : Mac) : Prop where
  letters : 0 ≤ m.letters
  fin : m.next.length = m.fin.length
  start : In m m.start
  none : m.start = -1 → m.next.length = 0
  rows : ∀ row ∈ m.next, (row.length : Int) = m.letters ∧ ∀ x ∈ row, In m x
theorem fits_iff {m : Mac} : fits m = true ↔ Fits m := by
  unfold fits
  simp only [Bool.and_eq_true, decide_eq_true_eq, Bool.not_eq_true', Bool.and_eq_false_iff, decide_eq_false_iff_not, List.all_eq_true, okRow]
  constructor
  · rintro ⟨h1, h2, h3, h4, h5, h6⟩
    exact ⟨h1, h2, ⟨h3, h4⟩, fun h => by omega, fun row hr => ⟨(h6 row hr).1, fun x hx => (h6 row hr).2 x hx⟩⟩
  · rintro ⟨h1, h2, ⟨h3, h4⟩, h5, h6⟩
    refine ⟨h1, h2, h3, h4, ?_, fun row hr => ⟨(h6 row hr).1, fun x hx => (h6 row hr).2 x hx⟩⟩
    by_cases h : m.start = -1
    · have := h5 h; right; omega
    · exact .inl h
theorem valid_fits {m : Mac} (h : valid m = 0) : Fits m ∧ m.letters ≤ 300 ∧ m.next.length ≤ 4000 := by
  unfold valid at h
  split at h
  · rename_i hf
    split at h
    · omega
    · exact ⟨fits_iff.1 hf, by omega, by omega⟩
  · omega
theorem Fits.lead {m : Mac} (h : Fits m) {s k : Int} (hs : In m s) (hk : 0 ≤ k) (hl : k < m.letters) : In m (lead m s k) := by
  unfold A.lead
  split
  · exact ⟨by omega, by omega⟩
  · rename_i hne
    obtain ⟨h1, h2⟩ := hs
    have hlt : s.toNat < m.next.length := by omega
    have e1 : m.next.getD s.toNat [] = m.next[s.toNat] := by simp [hlt]
    rw [e1]
    obtain ⟨h3, h4⟩ := h.rows _ (List.getElem_mem hlt)
    have hk' : k.toNat < m.next[s.toNat].length := by omega
    have e2 : m.next[s.toNat].getD k.toNat 0 = m.next[s.toNat][k.toNat] := by simp [hk']
    rw [e2]
    exact h4 _ (List.getElem_mem hk')
end Go.Proofs.Ytiekaicbjinbaaa.A
namespace Go.Proofs.Ytiekaicbjinbaaa.A
abbrev Pr := Int × Int
def fit (a b : Mac) : Int := if valid a = 0 ∧ valid b = 0 then (if a.letters = b.letters then 0 else 4) else 1
def leadP (a b : Mac) (p : Pr) (k : Int) : Pr := (lead a p.1 k, lead b p.2 k)
def agree (a b : Mac) (p : Pr) : Bool := ends a p.1 == ends b p.2
def InP (a b : Mac) (p : Pr) : Prop := In a p.1 ∧ In b p.2
/-- Two machines that can be looked at together. -/
structure Two (a b : Mac) : Prop where
  fa : Fits a
  fb : Fits b
  ll : a.letters = b.letters
  la : a.letters ≤ 300
  na : a.next.length ≤ 4000
  nb : b.next.length ≤ 4000
theorem fit_two {a b : Mac} (h : fit a b = 0) : Two a b := by
  unfold fit at h
  split at h
  · rename_i hv
    split at h
    · rename_i hl
      obtain ⟨h1, h2, h3⟩ := valid_fits hv.1
      obtain ⟨h4, _, h6⟩ := valid_fits hv.2
      exact ⟨h1, h4, hl, h2, h3, h6⟩
    · omega
  · omega
theorem Two.lead {a b : Mac} (h : Two a b) {p : Pr} {k : Int} (hp : InP a b p) (h0 : 0 ≤ k) (hk : k < a.letters) : InP a b (leadP a b p k) :=
  ⟨h.fa.lead hp.1 h0 hk, h.fb.lead hp.2 h0 (by rw [← h.ll]; exact hk)⟩
end Go.Proofs.Ytiekaicbjinbaaa.A
namespace Go.Proofs.Ytiekaicbjinbaaa.A
def okPair (a b : Mac) (p : Pr) : Bool := decide (-1 ≤ p.1) && (decide (p.1 < a.next.length) && (decide (-1 ≤ p.2) && decide (p.2 < b.next.length)))
/-- How pairs compare, as package auto reckons it. -/
def ord (p q : Pr) : Int := if p.1 ≠ q.1 then p.1 - q.1 else p.2 - q.2
def relFrom (a b : Mac) : Pr → List Pr → Bool
  | _, [] => true
  | last, p :: l => okPair a b p && (decide (ord last p < 0) && relFrom a b p l)
def isRel (a b : Mac) (l : List Pr) : Bool := relFrom a b (-1, -1) l
theorem okPair_in {a b : Mac} {p : Pr} : okPair a b p = true ↔ InP a b p := by
  unfold okPair InP In
  simp only [Bool.and_eq_true, decide_eq_true_eq]
  exact ⟨fun ⟨h1, h2, h3, h4⟩ => ⟨⟨h1, h2⟩, h3, h4⟩, fun ⟨⟨h1, h2⟩, h3, h4⟩ => ⟨h1, h2, h3, h4⟩⟩
end Go.Proofs.Ytiekaicbjinbaaa.A
end
