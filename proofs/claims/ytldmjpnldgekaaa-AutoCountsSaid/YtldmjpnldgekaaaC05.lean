/- Plain facts of pairs that a check takes: both machines accept the same words, and the search for a difference finds none. Plain facts of the joined states: what the row of next ones says is just what the pairs that were joined say. Plain facts of the search for a difference: it finds the least word, by length and order, that tells two machines apart, or there is none. difference finds the least word that tells two machines apart, or there is none. Plain facts of counting: where two machines accept the same words of a length, they accept as many. numberOf at pairs. Search at pairs. The contract of slices.SortFunc at pairs. Contracts of the program's functions, with no condition beyond what each theorem states. -/
import Derived.Test.YtldmjpnldgekaaaC03
import Derived.Test.YtldmjpnldgekaaaC02
import Derived.Test.YtldmjpnldgekaaaC04
import Derived.DeepKeys5
import Derived.Deep.RegionLaw
import Derived.Test.YtldmjpnldgekaaaShelf
import Derived.Shelf.SlSortCmp.SmallK
import Derived.Ground.SlsfProg
section
namespace Go.Proofs.Ytldmjpnldgekaaa.A
/-- The pairs are a relation that shows it. -/
structure Shown (a b : Mac) (l : List Pr) : Prop where
  two : Two a b
  va : valid a = 0
  vb : valid b = 0
  st : among l (a.start, b.start) = true
  ag : ∀ p, among l p = true → agree a b p = true
  ld : ∀ p, among l p = true → ∀ k : Int, 0 ≤ k → k < a.letters → among l (leadP a b p k) = true
  inn : ∀ p, among l p = true → InP a b p
theorem among_iff {l : List Pr} {p : Pr} : among l p = true ↔ p = (-1, -1) ∨ p ∈ l := by simp [among]
theorem Shown.of {a b : Mac} {l : List Pr} (h : check a b l = 0) : Shown a b l := by
  unfold check at h
  split at h
  · rename_i hf
    split at h
    · rename_i hr
      split at h
      · rename_i hs
        have hv : valid a = 0 ∧ valid b = 0 := by
          unfold fit at hf
          split at hf
          · assumption
          · cases hf
        unfold shows at hs
        rw [Bool.and_eq_true, List.all_eq_true] at hs
        obtain ⟨h1, h2⟩ := hs
        refine ⟨fit_two hf, hv.1, hv.2, h1, fun p hp => ?_, fun p hp k h0 hk => ?_, fun p hp => ?_⟩
        · rcases among_iff.1 hp with rfl | hp
          · rfl
          · have := h2 p hp
            rw [Bool.and_eq_true] at this
            exact this.1
        · rcases among_iff.1 hp with rfl | hp
          · exact among_iff.2 (.inl rfl)
          · have := h2 p hp
            rw [Bool.and_eq_true, List.all_eq_true] at this
            have := this.2 k.toNat (List.mem_range.2 (by omega))
            rwa [Int.toNat_of_nonneg h0] at this
        · rcases among_iff.1 hp with rfl | hp
          · exact ⟨⟨by decide, by dsimp only; omega⟩, by decide, by dsimp only; omega⟩
          · exact relFrom_in hr p hp
      · cases h
    · cases h
  · rename_i hf
    exact absurd h hf
theorem Shown.word {a b : Mac} {l : List Pr} (h : Shown a b l) : ∀ (w : List Int) (p : Pr), among l p = true → (match from_ a p.1 w with | none => false | some s => ends a s) = (match from_ b p.2 w with | none => false | some s => ends b s)
  | [], p, hp => by
    have := h.ag p hp
    simp only [agree, beq_iff_eq] at this
    exact this
  | k :: w, p, hp => by
    unfold from_
    rw [← h.two.ll]
    by_cases hk : 0 ≤ k ∧ k < a.letters
    · rw [if_pos hk, if_pos hk]
      exact h.word w (leadP a b p k) (h.ld p hp k hk.1 hk.2)
    · rw [if_neg hk, if_neg hk]
theorem Shown.accepts {a b : Mac} {l : List Pr} (h : Shown a b l) (w : List Int) : accepts a w = accepts b w := by
  unfold A.accepts
  rw [if_pos h.va, if_pos h.vb]
  exact h.word w (a.start, b.start) h.st
/-! ### The states that are joined -/
def roots (l : List Int) : Nat := (List.range l.length).countP fun i => decide (l.getD i 0 = (i : Int))
/-- J joins were made; r grows along the row. -/
structure Uf (l : List Int) (J : Nat) (r : Nat → Nat) : Prop where
  inn : ∀ i < l.length, 0 ≤ l.getD i 0 ∧ l.getD i 0 < l.length ∧ (l.getD i 0 ≠ i → r i < r (l.getD i 0).toNat)
  le : ∀ i, r i ≤ J
  sum : roots l + J = l.length
theorem getD_setI {l : List Int} {i j : Nat} {v d : Int} (h : i < l.length) : (l.set i v).getD j d = if i = j then v else l.getD j d := by
  simp only [List.getD_eq_getElem?_getD, List.getElem?_set, h, if_true]
  split <;> simp
theorem roots_congr {l l' : List Int} (hl : l'.length = l.length) (h : ∀ i < l.length, (l'.getD i 0 = (i : Int) ↔ l.getD i 0 = (i : Int))) : roots l' = roots l := by
  unfold roots
  rw [hl]
  apply List.countP_congr
  intro i hi
  simp only [decide_eq_true_eq]
  exact h i (List.mem_range.1 hi)
theorem Uf.short {l : List Int} {J : Nat} {r : Nat → Nat} (h : Uf l J r) {m : Nat} (hm : m < l.length) (hne : l.getD m 0 ≠ m) : Uf (l.set m (l.getD (l.getD m 0).toNat 0)) J r ∧ (∀ i, i < l.length → ((l.set m (l.getD (l.getD m 0).toNat 0)).getD i 0 = (i : Int) ↔ l.getD i 0 = (i : Int))) ∧ r m < r (l.getD (l.getD m 0).toNat 0).toNat ∧ 0 ≤ l.getD (l.getD m 0).toNat 0 ∧ l.getD (l.getD m 0).toNat 0 < l.length := by
  obtain ⟨h1, h2, h3⟩ := h.inn m hm
  have h3 := h3 hne
  obtain ⟨p, hp⟩ : ∃ p : Nat, l.getD m 0 = p := ⟨(l.getD m 0).toNat, by omega⟩
  rw [hp] at h2 h3 hne ⊢
  rw [Int.toNat_natCast] at h3 ⊢
  obtain ⟨h4, h5, h6⟩ := h.inn p (by omega)
  obtain ⟨g, hg⟩ : ∃ g : Nat, l.getD p 0 = g := ⟨(l.getD p 0).toNat, by omega⟩
  rw [hg] at h4 h5 h6 ⊢
  rw [Int.toNat_natCast] at h6 ⊢
  have h7 : r m < r g := by
    by_cases e : (g : Int) = p
    · have : g = p := by omega
      rw [this]; exact h3
    · exact Nat.lt_trans h3 (h6 e)
  have h8 : (g : Int) ≠ m := fun e => by
    have : g = m := by omega
    rw [this] at h7
    omega
  have hroot : ∀ i, i < l.length → ((l.set m (g : Int)).getD i 0 = (i : Int) ↔ l.getD i 0 = (i : Int)) := fun i hi => by
    rw [getD_setI hm]
    by_cases e : m = i
    · subst e
      rw [if_pos rfl, hp]
      exact ⟨fun h => absurd h h8, fun h => absurd h hne⟩
    · rw [if_neg e]
  refine ⟨⟨fun i hi => ?_, h.le, ?_⟩, hroot, h7, h4, h5⟩
  · rw [List.length_set] at hi ⊢
    rw [getD_setI hm]
    by_cases e : m = i
    · subst e
      rw [if_pos rfl]
      exact ⟨h4, h5, fun _ => by rw [Int.toNat_natCast]; exact h7⟩
    · rw [if_neg e]
      exact h.inn i hi
  · rw [List.length_set, roots_congr (by simp) hroot]
    exact h.sum
theorem endO_some {J : Nat} {r : Nat → Nat} : ∀ (f : Nat) (l : List Int) (m : Nat), Uf l J r → m < l.length → J < f + r m → ∃ (l' : List Int) (x : Nat), endO f l m = some (l', (x : Int)) ∧ Uf l' J r ∧ l'.length = l.length ∧ x < l.length ∧ l.getD x 0 = x ∧ ∀ i, i < l.length → (l'.getD i 0 = (i : Int) ↔ l.getD i 0 = (i : Int))
  | 0, l, m, h, hm, hf => by have := h.le m; omega
  | f + 1, l, m, h, hm, hf => by
    unfold endO
    rw [if_pos ⟨by omega, by omega⟩, Int.toNat_natCast]
    by_cases e : l.getD m 0 = m
    · rw [if_pos e]
      exact ⟨l, m, rfl, h, rfl, hm, e, fun _ _ => Iff.rfl⟩
    · rw [if_neg e]
      obtain ⟨h1, h2, _⟩ := h.inn m hm
      rw [if_pos ⟨h1, h2⟩]
      obtain ⟨h3, h4, h5, h6, h7⟩ := h.short hm e
      obtain ⟨g, hg⟩ : ∃ g : Nat, l.getD (l.getD m 0).toNat 0 = g := ⟨(l.getD (l.getD m 0).toNat 0).toNat, by omega⟩
      rw [hg] at h3 h4 h5 h7 ⊢
      rw [Int.toNat_natCast] at h5
      obtain ⟨l', x, e1, e2, e3, e4, e5, e6⟩ := endO_some f _ g h3 (by rw [List.length_set]; omega) (by omega)
      rw [List.length_set] at e3 e4 e6
      refine ⟨l', x, e1, e2, e3, e4, (h4 x e4).1 e5, fun i hi => (e6 i hi).trans (h4 i hi)⟩
theorem countP_less {p q : Nat → Bool} {x : Nat} (hp : p x = true) (hq : q x = false) (h : ∀ i, i ≠ x → p i = q i) : ∀ n, x < n → (List.range n).countP p = (List.range n).countP q + 1
  | 0, hn => absurd hn (by omega)
  | n + 1, hn => by
    rw [List.range_succ, List.countP_append, List.countP_append]
    by_cases e : n = x
    · subst e
      have : (List.range n).countP p = (List.range n).countP q := List.countP_congr fun i hi => by rw [h i (by have := List.mem_range.1 hi; omega)]
      simp [this, hp, hq]
    · have := countP_less hp hq h n (by omega)
      have h1 := h n e
      simp only [List.countP_cons, List.countP_nil, h1]
      omega
theorem joinO_some {a b : Mac} {l : List Int} {J f : Nat} {r : Nat → Nat} {p : Pr} (h : Uf l J r) (hl : l.length = 1 + a.next.length + b.next.length) (hp : InP a b p) (hf : J < f) :
    ∃ l' y, joinO f a.next.length l p = some (l', y) ∧ l'.length = l.length ∧ ∃ J' r', Uf l' J' r' ∧ J' = (if y then J + 1 else J) := by
  obtain ⟨⟨p1, p2⟩, p3, p4⟩ := hp
  unfold joinO
  obtain ⟨m, hm⟩ : ∃ m : Nat, 1 + p.1 = m := ⟨(1 + p.1).toNat, by omega⟩
  obtain ⟨m', hm'⟩ : ∃ m : Nat, other a.next.length p = m := ⟨(other a.next.length p).toNat, by unfold other; split <;> omega⟩
  have hb : m' < l.length := by
    have : other a.next.length p < (l.length : Int) := by unfold other; split <;> omega
    omega
  rw [hm, hm']
  obtain ⟨l1, x, e1, e2, e3, e4, e5, e6⟩ := endO_some f l m h (by omega) (by omega)
  obtain ⟨l2, y, d1, d2, d3, d4, d5, d6⟩ := endO_some f l1 m' e2 (by omega) (by omega)
  rw [e1]
  dsimp only
  rw [d1]
  dsimp only
  rw [Int.toNat_natCast]
  refine ⟨_, _, rfl, by rw [List.length_set, d3, e3], ?_⟩
  have hx : x < l2.length := by omega
  have hx2 : l2.getD x 0 = x := (d6 x (by omega)).2 ((e6 x e4).2 e5)
  have hy2 : l2.getD y 0 = y := (d6 y (by omega)).2 d5
  by_cases e : x = y
  · subst e
    refine ⟨J, r, ?_, by simp⟩
    have hset : ∀ i, (l2.set x (x : Int)).getD i 0 = l2.getD i 0 := fun i => by
      rw [getD_setI hx]
      by_cases e : x = i
      · rw [if_pos e, ← e, hx2]
      · rw [if_neg e]
    refine ⟨fun i hi => ?_, d2.le, ?_⟩
    · rw [List.length_set] at hi ⊢
      rw [hset]
      exact d2.inn i hi
    · rw [List.length_set, roots_congr (l := l2) (by simp) (fun i _ => by rw [hset])]
      exact d2.sum
  · have hne : (x : Int) ≠ y := by omega
    refine ⟨J + 1, fun i => if i = y then J + 1 else r i, ?_, by simp [hne]⟩
    refine ⟨fun i hi => ?_, fun i => ?_, ?_⟩
    · rw [List.length_set] at hi ⊢
      rw [getD_setI hx]
      by_cases e' : x = i
      · subst e'
        rw [if_pos rfl]
        refine ⟨by omega, by omega, fun _ => ?_⟩
        rw [Int.toNat_natCast, if_neg e, if_pos rfl]
        have := d2.le x
        omega
      · rw [if_neg e']
        obtain ⟨c1, c2, c3⟩ := d2.inn i hi
        refine ⟨c1, c2, fun hn => ?_⟩
        have c3 := c3 hn
        have hiy : i ≠ y := fun e'' => by subst e''; exact hn hy2
        rw [if_neg hiy]
        split
        · have := d2.le i; omega
        · exact c3
    · split
      · omega
      · have := d2.le i; omega
    · rw [List.length_set]
      have hs := d2.sum
      have hc : roots l2 = roots (l2.set x (y : Int)) + 1 := by
        unfold roots
        rw [List.length_set]
        refine countP_less (x := x) ?_ ?_ (fun i hi => ?_) _ hx
        · simpa using hx2
        · rw [getD_setI hx, if_pos rfl]
          simpa using fun h => hne h.symm
        · rw [getD_setI hx, if_neg (Ne.symm hi)]
      omega
theorem innerO_some {a b : Mac} {l : List Pr} (h : Shown a b l) {f : Nat} {at_ : Int} {p : Pr} (hp : among l p = true) : ∀ (ks : List Nat) (j : List Int) (ts : List Tr) (J : Nat) (r : Nat → Nat), (∀ k ∈ ks, (k : Int) < a.letters) → Uf j J r → j.length = 1 + a.next.length + b.next.length → j.length < f → (∀ t ∈ ts, among l t.p = true) →
    ∃ j' ts' J' r', innerO f a b at_ p ks j ts = some (j', ts', none) ∧ Uf j' J' r' ∧ j'.length = j.length ∧ (∀ t ∈ ts', among l t.p = true) ∧ ts'.length + J = ts.length + J'
  | [], j, ts, J, r, hk, hu, hl, hf, ht => ⟨j, ts, J, r, rfl, hu, rfl, ht, rfl⟩
  | k :: ks, j, ts, J, r, hk, hu, hl, hf, ht => by
    have hkk := hk k List.mem_cons_self
    have hq := h.ld p hp k (by omega) hkk
    obtain ⟨j1, y, e1, e2, J1, r1, e3, e4⟩ := joinO_some (f := f) hu hl (h.inn _ hq) (by have := hu.sum; omega)
    unfold innerO
    rw [e1]
    rcases y with _ | _
    · dsimp only
      obtain ⟨j', ts', J', r', d1, d2, d3, d4, d5⟩ := innerO_some h (f := f) (at_ := at_) hp ks j1 ts J1 r1 (fun k hk' => hk k (List.mem_cons_of_mem _ hk')) e3 (by omega) (by omega) ht
      exact ⟨j', ts', J', r', d1, d2, by omega, d4, by simp at e4; omega⟩
    · dsimp only
      rw [if_pos (h.ag _ hq)]
      obtain ⟨j', ts', J', r', d1, d2, d3, d4, d5⟩ := innerO_some h (f := f) (at_ := at_) hp ks j1 (ts ++ [⟨leadP a b p k, at_, k⟩]) J1 r1 (fun k hk' => hk k (List.mem_cons_of_mem _ hk')) e3 (by omega) (by omega) (fun t ht' => by
        rcases List.mem_append.1 ht' with h' | h'
        · exact ht t h'
        · rw [List.mem_singleton.1 h']; exact hq)
      refine ⟨j', ts', J', r', d1, d2, by omega, d4, ?_⟩
      simp at e4 d5
      omega
theorem outerO_none {a b : Mac} {l : List Pr} (h : Shown a b l) {f : Nat} : ∀ (fuel at_ : Nat) (j : List Int) (ts : List Tr) (J : Nat) (r : Nat → Nat), Uf j J r → j.length = 1 + a.next.length + b.next.length → j.length < f → (∀ t ∈ ts, among l t.p = true) → ts.length ≤ J + 1 → j.length + 1 ≤ fuel + at_ → outerO f a b fuel at_ j ts = some none
  | 0, at_, j, ts, J, r, hu, hl, hf, ht, hJ, hg => by
    have := hu.sum
    unfold outerO
    rw [dif_neg (by omega)]
  | fuel + 1, at_, j, ts, J, r, hu, hl, hf, ht, hJ, hg => by
    unfold outerO
    split
    · rename_i hat
      dsimp only
      obtain ⟨j', ts', J', r', e1, e2, e3, e4, e5⟩ := innerO_some h (f := f) (at_ := at_) (ht _ (List.getElem_mem hat)) (List.range a.letters.toNat) j ts J r (fun k hk => by have := List.mem_range.1 hk; omega) hu hl hf ht
      rw [e1]
      exact outerO_none h fuel (at_ + 1) j' ts' J' r' e2 (by omega) (by omega) e4 (by omega) (by omega)
    · rfl
theorem upTo_get {n i : Nat} (hi : i < n) : (upTo n n).getD i 0 = i := by
  simp [upTo, hi]
theorem uf0 (n : Nat) : Uf (upTo n n) 0 fun _ => 0 := by
  have hl : (upTo n n).length = n := by simp [upTo]
  refine ⟨fun i hi => ?_, fun _ => Nat.le_refl _, ?_⟩
  · rw [hl] at hi ⊢
    rw [upTo_get hi]
    exact ⟨by omega, by omega, fun h => absurd rfl h⟩
  · unfold roots
    rw [hl]
    have : (List.range n).countP (fun i => decide ((upTo n n).getD i 0 = (i : Int))) = (List.range n).length := List.countP_eq_length.2 fun i hi => by simpa using upTo_get (List.mem_range.1 hi)
    rw [this]
    simp
theorem Shown.diff {a b : Mac} {l : List Pr} (h : Shown a b l) {f : Nat} (hf : 3 + a.next.length + b.next.length ≤ f) : diffO f a b = some none := by
  unfold diffO
  rw [if_pos (h.ag _ h.st)]
  have hl : (upTo (1 + a.next.length + b.next.length) (1 + a.next.length + b.next.length)).length = 1 + a.next.length + b.next.length := by simp [upTo]
  obtain ⟨j, y, e1, e2, J, r, e3, e4⟩ := joinO_some (f := f) (uf0 _) hl (h.inn _ h.st) (by omega)
  rw [e1]
  dsimp only
  rw [outerO_none h f 0 j _ J r e3 (by omega) (by omega) (fun t ht => by rw [List.mem_singleton.1 ht]; exact h.st) (by simp) (by omega)]
end Go.Proofs.Ytldmjpnldgekaaa.A
namespace Go.Proofs.Ytldmjpnldgekaaa.A
theorem Shown.fit {a b : Mac} {l : List Pr} (h : Shown a b l) : fit a b = 0 := by
  unfold A.fit
  rw [if_pos ⟨h.va, h.vb⟩, if_pos h.two.ll]
end Go.Proofs.Ytldmjpnldgekaaa.A
end
section
namespace Go.Proofs.Ytldmjpnldgekaaa.A
/-- Where a number leads in the row. -/
inductive Rt (l : List Int) : Nat → Nat → Prop
  | root {x : Nat} (h : l.getD x 0 = (x : Int)) : Rt l x x
  | step {x y r : Nat} (h : l.getD x 0 = (y : Int)) (hne : y ≠ x) (hr : Rt l y r) : Rt l x r
theorem Rt.fun_ {l : List Int} {x r r' : Nat} (h : Rt l x r) (h' : Rt l x r') : r = r' := by
  induction h with
  | root h =>
    cases h' with
    | root => rfl
    | step h1 hne _ => rw [h] at h1; omega
  | step h hne _ ih =>
    cases h' with
    | root h1 => rw [h] at h1; omega
    | step h1 _ hr =>
      rw [h] at h1
      have : _ = _ := Int.ofNat.inj h1
      subst this
      exact ih hr
theorem Rt.end_ {l : List Int} {x r : Nat} (h : Rt l x r) : l.getD r 0 = (r : Int) := by
  induction h with
  | root h => exact h
  | step _ _ _ ih => exact ih
theorem Uf.rt {l : List Int} {J : Nat} {r : Nat → Nat} (h : Uf l J r) : ∀ (n m : Nat), m < l.length → J < n + r m → ∃ x, x < l.length ∧ Rt l m x
  | 0, m, hm, hf => by have := h.le m; omega
  | n + 1, m, hm, hf => by
    obtain ⟨h1, h2, h3⟩ := h.inn m hm
    obtain ⟨y, hy⟩ : ∃ y : Nat, l.getD m 0 = y := ⟨(l.getD m 0).toNat, by omega⟩
    by_cases e : y = m
    · subst e
      exact ⟨y, hm, .root hy⟩
    · have h4 := h3 (by omega)
      rw [hy, Int.toNat_natCast] at h4
      obtain ⟨x, hx, hr⟩ := h.rt n y (by omega) (by omega)
      exact ⟨x, hx, .step hy e hr⟩
theorem Uf.rt_ex {l : List Int} {J : Nat} {r : Nat → Nat} (h : Uf l J r) {m : Nat} (hm : m < l.length) : ∃ x, x < l.length ∧ Rt l m x := h.rt (J + 1) m hm (by omega)
/-- A row that is shortened leads to the same ends. -/
theorem short_rt {l : List Int} {m p g : Nat} (hm : m < l.length) (h1 : l.getD m 0 = (p : Int)) (h2 : l.getD p 0 = (g : Int)) (hne : p ≠ m) (hgm : g ≠ m) {x r : Nat} (h : Rt l x r) : Rt (l.set m (g : Int)) x r := by
  induction h with
  | @root x h =>
    by_cases e : m = x
    · subst e; rw [h1] at h; omega
    · exact .root (by rw [getD_setI hm, if_neg e]; exact h)
  | @step x y r h hn hr ih =>
    by_cases e : m = x
    · subst e
      rw [h1] at h
      have : p = y := Int.ofNat.inj h
      subst this
      -- ih : Rt l' p r
      refine .step (y := g) (by rw [getD_setI hm, if_pos rfl]) hgm ?_
      by_cases e2 : g = p
      · subst e2; exact ih
      · cases ih with
        | root h3 =>
          rw [getD_setI hm, if_neg (Ne.symm hne), h2] at h3
          omega
        | step h3 _ h4 =>
          rw [getD_setI hm, if_neg (Ne.symm hne), h2] at h3
          have : g = _ := Int.ofNat.inj h3
          subst this
          exact h4
    · exact .step (by rw [getD_setI hm, if_neg e]; exact h) hn ih
/-- The end that endO finds, and that it changes no end. -/
theorem endO_rt {J : Nat} {r : Nat → Nat} : ∀ (f : Nat) (l : List Int) (m : Nat), Uf l J r → m < l.length → J < f + r m → ∃ (l' : List Int) (x : Nat), endO f l m = some (l', (x : Int)) ∧ Uf l' J r ∧ l'.length = l.length ∧ x < l.length ∧ Rt l m x ∧ ∀ y z, Rt l y z → Rt l' y z
  | 0, l, m, h, hm, hf => by have := h.le m; omega
  | f + 1, l, m, h, hm, hf => by
    unfold endO
    rw [if_pos ⟨by omega, by omega⟩, Int.toNat_natCast]
    by_cases e : l.getD m 0 = m
    · rw [if_pos e]
      exact ⟨l, m, rfl, h, rfl, hm, .root e, fun _ _ h => h⟩
    · rw [if_neg e]
      obtain ⟨h1, h2, h2'⟩ := h.inn m hm
      rw [if_pos ⟨h1, h2⟩]
      obtain ⟨h3, h4, h5, h6, h7⟩ := h.short hm e
      obtain ⟨p, hp⟩ : ∃ p : Nat, l.getD m 0 = p := ⟨(l.getD m 0).toNat, by omega⟩
      obtain ⟨g, hg⟩ : ∃ g : Nat, l.getD (l.getD m 0).toNat 0 = g := ⟨(l.getD (l.getD m 0).toNat 0).toNat, by omega⟩
      rw [hg] at h3 h4 h5 h7 ⊢
      rw [Int.toNat_natCast] at h5
      have hpm : p ≠ m := fun e' => e (by rw [hp, e'])
      have hgm : g ≠ m := fun e' => by subst e'; omega
      rw [hp, Int.toNat_natCast] at hg
      obtain ⟨l', x, e1, e2, e3, e4, e5, e6⟩ := endO_rt f _ g h3 (by rw [List.length_set]; omega) (by omega)
      rw [List.length_set] at e3 e4
      have hsh : ∀ y z, Rt l y z → Rt (l.set m (g : Int)) y z := fun y z h => short_rt hm hp hg hpm hgm h
      refine ⟨l', x, e1, e2, e3, e4, ?_, fun y z h => e6 y z (hsh y z h)⟩
      obtain ⟨x', hx', hr'⟩ := h.rt_ex hm
      have h8 : Rt l g x' := by
        cases hr' with
        | root h9 => exact absurd h9 e
        | step h9 hn hr9 =>
          rw [hp] at h9
          have : p = _ := Int.ofNat.inj h9
          subst this
          cases hr9 with
          | root h10 =>
            rw [hg] at h10
            have : g = p := Int.ofNat.inj h10
            rw [this]
            exact .root (by rw [hg, this])
          | step h10 _ hr10 =>
            rw [hg] at h10
            have : g = _ := Int.ofNat.inj h10
            rw [this]
            exact hr10
      have := (hsh g x' h8).fun_ e5
      rw [← this]
      exact hr'
/-- Two rows that lead to the same ends. -/
theorem Uf.rt_back {l l' : List Int} {J : Nat} {r : Nat → Nat} (h : Uf l J r) (hl : ∀ y z, Rt l y z → Rt l' y z) {y z : Nat} (hy : y < l.length) (h' : Rt l' y z) : Rt l y z := by
  obtain ⟨x, _, hx⟩ := h.rt_ex hy
  have := (hl y x hx).fun_ h'
  rw [← this]
  exact hx
/-- The numbers of a pair's states. -/
def n1 (p : Pr) : Nat := (1 + p.1).toNat
def n2 (s : Int) (p : Pr) : Nat := (other s p).toNat
/-- What pairs join. -/
inductive Conn (s : Int) (T : List Pr) : Nat → Nat → Prop
  | refl (x : Nat) : Conn s T x x
  | pair {p : Pr} (h : p ∈ T) : Conn s T (n1 p) (n2 s p)
  | symm {x y : Nat} (h : Conn s T x y) : Conn s T y x
  | trans {x y z : Nat} (h : Conn s T x y) (h' : Conn s T y z) : Conn s T x z
theorem Conn.mono {s : Int} {T T' : List Pr} (hT : ∀ p ∈ T, p ∈ T') {x y : Nat} (h : Conn s T x y) : Conn s T' x y := by
  induction h with
  | refl x => exact .refl x
  | pair h => exact .pair (hT _ h)
  | symm _ ih => exact .symm ih
  | trans _ _ ih1 ih2 => exact .trans ih1 ih2
/-- A row tells just what the pairs join. -/
structure Jo (s : Int) (T : List Pr) (l : List Int) (J : Nat) (r : Nat → Nat) : Prop where
  uf : Uf l J r
  conn : ∀ x y, x < l.length → y < l.length → (Conn s T x y ↔ ∃ z, Rt l x z ∧ Rt l y z)
theorem jo0 (s : Int) (n : Nat) : Jo s [] (upTo n n) 0 fun _ => 0 := by
  refine ⟨uf0 n, fun x y hx hy => ?_⟩
  have hl : (upTo n n).length = n := by simp [upTo]
  rw [hl] at hx hy
  constructor
  · intro h
    have : x = y := by
      clear hx hy
      induction h with
      | refl => rfl
      | pair h => cases h
      | symm _ ih => exact ih.symm
      | trans _ _ ih1 ih2 => exact ih1.trans ih2
    subst this
    exact ⟨x, .root (upTo_get hx), .root (upTo_get hx)⟩
  · rintro ⟨z, h1, h2⟩
    have e1 := (Rt.root (upTo_get hx)).fun_ h1
    have e2 := (Rt.root (upTo_get hy)).fun_ h2
    rw [e1, e2]
    exact .refl z
/-- A union of two ends. -/
theorem union_rt {l : List Int} {x y : Nat} (hx : x < l.length) (hxr : l.getD x 0 = (x : Int)) (hyr : l.getD y 0 = (y : Int)) (hne : x ≠ y) {m z : Nat} (h : Rt l m z) : Rt (l.set x (y : Int)) m (if z = x then y else z) := by
  induction h with
  | @root m h =>
    by_cases e : m = x
    · rw [if_pos e, e]
      refine .step (y := y) (by rw [getD_setI hx, if_pos rfl]) (Ne.symm hne) (.root ?_)
      rw [getD_setI hx, if_neg hne]
      exact hyr
    · rw [if_neg e]
      exact .root (by rw [getD_setI hx, if_neg (Ne.symm e)]; exact h)
  | @step m m' z h hn hr ih =>
    have e : x ≠ m := fun e => by
      subst e
      rw [hxr] at h
      exact hn (Int.ofNat.inj h).symm
    exact .step (by rw [getD_setI hx, if_neg e]; exact h) hn ih
theorem num_lt {a b : Mac} {q : Pr} (h : InP a b q) : n1 q < 1 + a.next.length + b.next.length ∧ n2 a.next.length q < 1 + a.next.length + b.next.length := by
  obtain ⟨⟨h1, h2⟩, h3, h4⟩ := h
  refine ⟨by unfold n1; omega, ?_⟩
  unfold n2 other
  split <;> omega
theorem joinO_jo {a b : Mac} {T : List Pr} {l : List Int} {J f : Nat} {r : Nat → Nat} {p : Pr} (h : Jo a.next.length T l J r) (hl : l.length = 1 + a.next.length + b.next.length) (hT : ∀ q ∈ T, InP a b q) (hp : InP a b p) (hf : J < f) :
    ∃ l' y, joinO f a.next.length l p = some (l', y) ∧ l'.length = l.length ∧ (∃ J' r', Jo a.next.length (p :: T) l' J' r' ∧ J' = (if y then J + 1 else J)) ∧ (y = false ↔ Conn a.next.length T (n1 p) (n2 a.next.length p)) := by
  obtain ⟨⟨p1, p2⟩, p3, p4⟩ := hp
  unfold joinO
  obtain ⟨m, hm⟩ : ∃ m : Nat, 1 + p.1 = m := ⟨(1 + p.1).toNat, by omega⟩
  obtain ⟨m', hm'⟩ : ∃ m : Nat, other a.next.length p = m := ⟨(other a.next.length p).toNat, by unfold other; split <;> omega⟩
  have en1 : n1 p = m := by unfold n1; omega
  have en2 : n2 a.next.length p = m' := by unfold n2; omega
  have hb : m' < l.length := by
    have : other a.next.length p < (l.length : Int) := by unfold other; split <;> omega
    omega
  have hma : m < l.length := by omega
  rw [hm, hm']
  obtain ⟨l1, x, e1, e2, e3, e4, e5, e6⟩ := endO_rt f l m h.uf hma (by omega)
  obtain ⟨l2, y, d1, d2, d3, d4, d5, d6⟩ := endO_rt f l1 m' e2 (by omega) (by omega)
  rw [e1]
  dsimp only
  rw [d1]
  dsimp only
  rw [Int.toNat_natCast]
  have hx : x < l2.length := by omega
  have hall : ∀ u v, Rt l u v → Rt l2 u v := fun u v h => d6 u v (e6 u v h)
  have d5' : Rt l m' y := h.uf.rt_back e6 hb d5
  have hx2 := (hall _ _ e5).end_
  have hy2 := (hall _ _ d5').end_
  have hlen : l2.length = l.length := by omega
  have hconn : Conn a.next.length T m m' ↔ x = y := by
    rw [h.conn m m' hma hb]
    constructor
    · rintro ⟨z, h1, h2⟩
      rw [e5.fun_ h1, d5'.fun_ h2]
    · intro e
      subst e
      exact ⟨x, e5, d5'⟩
  obtain ⟨_, _, k1, _, J', r', k2, k3⟩ := joinO_some (f := f) (p := p) h.uf hl ⟨⟨p1, p2⟩, p3, p4⟩ hf
  unfold joinO at k1
  rw [hm, hm', e1] at k1
  dsimp only at k1
  rw [d1] at k1
  dsimp only at k1
  rw [Int.toNat_natCast] at k1
  simp only [Option.some.injEq, Prod.mk.injEq] at k1
  obtain ⟨rfl, rfl⟩ := k1
  refine ⟨_, _, rfl, by rw [List.length_set, hlen], ⟨J', r', ⟨k2, ?_⟩, k3⟩, ?_⟩
  · intro u v hu hv
    rw [List.length_set, hlen] at hu hv
    obtain ⟨zu, hzu, ru⟩ := h.uf.rt_ex hu
    obtain ⟨zv, hzv, rv⟩ := h.uf.rt_ex hv
    have ru2 := hall _ _ ru
    have rv2 := hall _ _ rv
    by_cases e : x = y
    · subst e
      have hset : l2.set x (x : Int) = l2 := by
        apply List.ext_getElem (by simp)
        intro i h1 h2
        rw [List.getElem_set]
        split
        · rename_i e; subst e
          simpa [hx] using hx2.symm
        · rfl
      rw [hset]
      have hTT : ∀ u v, Conn a.next.length (p :: T) u v → Conn a.next.length T u v := fun u v hc => by
        induction hc with
        | refl x => exact .refl x
        | pair h' =>
          rcases List.mem_cons.1 h' with rfl | h'
          · rw [en1, en2]; exact hconn.2 rfl
          · exact .pair h'
        | symm _ ih => exact .symm ih
        | trans _ _ ih1 ih2 => exact .trans ih1 ih2
      constructor
      · intro hc
        obtain ⟨z, h1, h2⟩ := (h.conn u v hu hv).1 (hTT _ _ hc)
        exact ⟨z, hall _ _ h1, hall _ _ h2⟩
      · rintro ⟨z, h1, h2⟩
        have q1 := ru2.fun_ h1
        have q2 := rv2.fun_ h2
        subst q1
        have : zu = zv := q2.symm
        subst this
        exact ((h.conn u v hu hv).2 ⟨zu, ru, rv⟩).mono fun _ h => List.mem_cons_of_mem _ h
    · have U := fun {m z : Nat} (h : Rt l2 m z) => union_rt hx hx2 hy2 e h
      have key : ∀ w z, w < l.length → Rt l w z → ∃ z', Rt (l2.set x (y : Int)) w z' ∧ z' = (if z = x then y else z) := fun w z _ h => ⟨_, U (hall _ _ h), rfl⟩
      have hsound : ∀ w, w < l.length → ∀ z, Rt l w z → Conn a.next.length T w z := fun w hw z hz => by
        have hzl : z < l.length := by
          obtain ⟨z', hz', hr'⟩ := h.uf.rt_ex hw
          rw [hz.fun_ hr']
          exact hz'
        exact (h.conn w z hw hzl).2 ⟨z, hz, .root hz.end_⟩
      constructor
      · intro hc
        -- ends are equal along a chain
        have gen : ∀ u v, Conn a.next.length (p :: T) u v → (u < l.length → v < l.length ∧ ∃ z, Rt (l2.set x (y : Int)) u z ∧ Rt (l2.set x (y : Int)) v z) ∧ (v < l.length → u < l.length ∧ ∃ z, Rt (l2.set x (y : Int)) u z ∧ Rt (l2.set x (y : Int)) v z) := by
          intro u v hc
          induction hc with
          | refl w =>
            have : w < l.length → w < l.length ∧ ∃ z, Rt (l2.set x (y : Int)) w z ∧ Rt (l2.set x (y : Int)) w z := fun hw => by
              obtain ⟨z, _, hz⟩ := h.uf.rt_ex hw
              exact ⟨hw, _, U (hall _ _ hz), U (hall _ _ hz)⟩
            exact ⟨this, this⟩
          | @pair q hq =>
            have hnl : n1 q < l.length ∧ n2 a.next.length q < l.length := by
              rw [hl]
              rcases List.mem_cons.1 hq with rfl | hq
              · exact num_lt ⟨⟨p1, p2⟩, p3, p4⟩
              · exact num_lt (hT q hq)
            have hz : ∃ z, Rt (l2.set x (y : Int)) (n1 q) z ∧ Rt (l2.set x (y : Int)) (n2 a.next.length q) z := by
              rcases List.mem_cons.1 hq with rfl | hq
              · rw [en1, en2]
                have u1 := U (hall _ _ e5)
                have u2 := U (hall _ _ d5')
                rw [if_pos rfl] at u1
                rw [if_neg (Ne.symm e)] at u2
                exact ⟨y, u1, u2⟩
              · obtain ⟨z, h1, h2⟩ := (h.conn _ _ hnl.1 hnl.2).1 (.pair hq)
                exact ⟨_, U (hall _ _ h1), U (hall _ _ h2)⟩
            exact ⟨fun _ => ⟨hnl.2, hz⟩, fun _ => ⟨hnl.1, hz⟩⟩
          | symm _ ih =>
            exact ⟨fun hv => by obtain ⟨h1, z, h2, h3⟩ := ih.2 hv; exact ⟨h1, z, h3, h2⟩, fun hu => by obtain ⟨h1, z, h2, h3⟩ := ih.1 hu; exact ⟨h1, z, h3, h2⟩⟩
          | trans _ _ ih1 ih2 =>
            refine ⟨fun hu => ?_, fun hv => ?_⟩
            · obtain ⟨h1, z, h2, h3⟩ := ih1.1 hu
              obtain ⟨h4, z', h5, h6⟩ := ih2.1 h1
              rw [h3.fun_ h5] at h2
              exact ⟨h4, z', h2, h6⟩
            · obtain ⟨h1, z, h2, h3⟩ := ih2.2 hv
              obtain ⟨h4, z', h5, h6⟩ := ih1.2 h1
              rw [h2.fun_ h6] at h3
              exact ⟨h4, z', h5, h3⟩
        exact ((gen u v hc).1 hu).2
      · rintro ⟨z, h1, h2⟩
        have q1 := (U ru2).fun_ h1
        have q2 := (U rv2).fun_ h2
        have cu := (hsound u hu zu ru).mono fun _ h => List.mem_cons_of_mem p h
        have cv := (hsound v hv zv rv).mono fun _ h => List.mem_cons_of_mem p h
        have cx : Conn a.next.length (p :: T) x y := by
          have c1 := (hsound m hma x e5).mono fun _ h => List.mem_cons_of_mem p h
          have c2 := (hsound m' hb y d5').mono fun _ h => List.mem_cons_of_mem p h
          have c3 : Conn a.next.length (p :: T) m m' := by
            have := Conn.pair (s := a.next.length) (T := p :: T) (p := p) List.mem_cons_self
            rwa [en1, en2] at this
          exact (c1.symm.trans c3).trans c2
        have czz : Conn a.next.length (p :: T) zu zv := by
          rw [← q1] at q2
          by_cases eu : zu = x
          · rw [if_pos eu] at q2
            by_cases ev : zv = x
            · rw [eu, ev]; exact .refl x
            · rw [if_neg ev] at q2
              rw [eu, q2]; exact cx
          · rw [if_neg eu] at q2
            by_cases ev : zv = x
            · rw [if_pos ev] at q2
              rw [ev, ← q2]; exact cx.symm
            · rw [if_neg ev] at q2
              rw [q2]; exact .refl zu
        exact (cu.trans czz).trans cv.symm
  · rw [en1, en2, hconn]
    simp only [decide_eq_false_iff_not, Decidable.not_not, ne_eq]
    exact ⟨fun h => Int.ofNat.inj h, fun h => by rw [h]⟩
end Go.Proofs.Ytldmjpnldgekaaa.A
end
section
namespace Go.Proofs.Ytldmjpnldgekaaa.A
def runP (a b : Mac) : Pr → List Int → Pr
  | p, [] => p
  | p, k :: w => runP a b (leadP a b p k) w
def runS (m : Mac) : Int → List Int → Int
  | s, [] => s
  | s, k :: w => runS m (lead m s k) w
def OkW (a : Mac) (w : List Int) : Prop := ∀ k ∈ w, 0 ≤ k ∧ k < a.letters
theorem runP_run (a b : Mac) : ∀ (w : List Int) (p : Pr), runP a b p w = (runS a p.1 w, runS b p.2 w)
  | [], _ => rfl
  | k :: w, p => runP_run a b w (leadP a b p k)
theorem runP_app (a b : Mac) : ∀ (u v : List Int) (p : Pr), runP a b p (u ++ v) = runP a b (runP a b p u) v
  | [], _, _ => rfl
  | k :: u, v, p => runP_app a b u v (leadP a b p k)
theorem runS_none (m : Mac) : ∀ w : List Int, runS m (-1) w = -1
  | [] => rfl
  | _ :: w => runS_none m w
theorem Two.run {a b : Mac} (h : Two a b) : ∀ {w : List Int} {p : Pr}, OkW a w → InP a b p → InP a b (runP a b p w)
  | [], _, _, hp => hp
  | k :: w, _, hw, hp => h.run (w := w) (fun x hx => hw x (List.mem_cons_of_mem _ hx)) (h.lead hp (hw k List.mem_cons_self).1 (hw k List.mem_cons_self).2)
theorem OkW.app {a : Mac} {u v : List Int} (hu : OkW a u) (hv : OkW a v) : OkW a (u ++ v) := fun k hk => (List.mem_append.1 hk).elim (hu k) (hv k)
theorem OkW.left {a : Mac} {u v : List Int} (h : OkW a (u ++ v)) : OkW a u := fun k hk => h k (List.mem_append.2 (.inl hk))
theorem OkW.right {a : Mac} {u v : List Int} (h : OkW a (u ++ v)) : OkW a v := fun k hk => h k (List.mem_append.2 (.inr hk))
/-! ### The order of words -/
def lexLt : List Int → List Int → Prop
  | a :: u, b :: v => a < b ∨ (a = b ∧ lexLt u v)
  | _, _ => False
def sl (u v : List Int) : Prop := u.length < v.length ∨ (u.length = v.length ∧ lexLt u v)
theorem lexLt_irr : ∀ u, ¬ lexLt u u
  | [], h => h
  | a :: u, h => by
    rcases h with h | ⟨_, h⟩
    · omega
    · exact lexLt_irr u h
theorem lexLt_trans : ∀ {u v w : List Int}, lexLt u v → lexLt v w → lexLt u w
  | [], _, _, h, _ => h.elim
  | _ :: _, [], _, h, _ => h.elim
  | _ :: _, _ :: _, [], _, h => h.elim
  | a :: u, b :: v, c :: w, h, h' => by
    rcases h with h | ⟨rfl, h⟩
    · rcases h' with h' | ⟨rfl, h'⟩
      · exact .inl (by omega)
      · exact .inl h
    · rcases h' with h' | ⟨rfl, h'⟩
      · exact .inl h'
      · exact .inr ⟨rfl, lexLt_trans h h'⟩
theorem lexLt_tri : ∀ {u v : List Int}, u.length = v.length → u = v ∨ lexLt u v ∨ lexLt v u
  | [], [], _ => .inl rfl
  | [], _ :: _, h => by simp at h
  | _ :: _, [], h => by simp at h
  | a :: u, b :: v, h => by
    rcases Int.lt_trichotomy a b with e | e | e
    · exact .inr (.inl (.inl e))
    · subst e
      rcases lexLt_tri (u := u) (v := v) (by simpa using h) with e | e | e
      · exact .inl (by rw [e])
      · exact .inr (.inl (.inr ⟨rfl, e⟩))
      · exact .inr (.inr (.inr ⟨rfl, e⟩))
    · exact .inr (.inr (.inl e))
theorem lexLt_app : ∀ {u v : List Int} (x y : List Int), lexLt u v → lexLt (u ++ x) (v ++ y)
  | [], _, _, _, h => h.elim
  | _ :: _, [], _, _, h => h.elim
  | a :: u, b :: v, x, y, h => by
    rcases h with h | ⟨e, h⟩
    · exact .inl h
    · exact .inr ⟨e, lexLt_app x y h⟩
theorem lexLt_pre : ∀ (u : List Int) {x y : List Int}, lexLt x y → lexLt (u ++ x) (u ++ y)
  | [], _, _, h => h
  | _ :: u, _, _, h => .inr ⟨rfl, lexLt_pre u h⟩
theorem sl_irr (u : List Int) : ¬ sl u u := fun h => h.elim (fun h => by omega) fun h => lexLt_irr u h.2
theorem sl_trans {u v w : List Int} (h : sl u v) (h' : sl v w) : sl u w := by
  rcases h with h | ⟨e, h⟩ <;> rcases h' with h' | ⟨e', h'⟩
  · exact .inl (by omega)
  · exact .inl (by omega)
  · exact .inl (by omega)
  · exact .inr ⟨by omega, lexLt_trans h h'⟩
theorem sl_tri (u v : List Int) : u = v ∨ sl u v ∨ sl v u := by
  rcases Nat.lt_trichotomy u.length v.length with h | h | h
  · exact .inr (.inl (.inl h))
  · rcases lexLt_tri h with e | e | e
    · exact .inl e
    · exact .inr (.inl (.inr ⟨h, e⟩))
    · exact .inr (.inr (.inr ⟨h.symm, e⟩))
  · exact .inr (.inr (.inl h))
theorem sl_app {u v : List Int} (h : sl u v) {x y : List Int} (hxy : x.length = y.length) : sl (u ++ x) (v ++ y) := by
  rcases h with h | ⟨e, h⟩
  · exact .inl (by simp; omega)
  · exact .inr ⟨by simp [e, hxy], lexLt_app x y h⟩
theorem sl_snoc (u : List Int) {j k : Int} (h : j < k) : sl (u ++ [j]) (u ++ [k]) := .inr ⟨by simp, lexLt_pre u (.inl h)⟩
theorem sl_long (u : List Int) {v : List Int} (h : v ≠ []) : sl u (u ++ v) := .inl (by
  rcases v with _ | _
  · exact absurd rfl h
  · simp)
/-- A least one of some words of one length. -/
theorem lex_least (L : Int) : ∀ (n : Nat) (S : List Int → Prop), (∃ w, w.length = n ∧ (∀ k ∈ w, 0 ≤ k) ∧ S w) → ∃ w, w.length = n ∧ S w ∧ ∀ v, v.length = n → (∀ k ∈ v, 0 ≤ k) → S v → ¬ lexLt v w
  | 0, S, ⟨w, hw, _, hS⟩ => by
    obtain rfl := List.eq_nil_of_length_eq_zero hw
    exact ⟨[], rfl, hS, fun v hv _ _ h => by
      obtain rfl := List.eq_nil_of_length_eq_zero hv
      exact h⟩
  | n + 1, S, ⟨w, hw, hk, hS⟩ => by
    have : ∃ i : Nat, ∃ w' : List Int, w'.length = n ∧ (∀ k ∈ w', 0 ≤ k) ∧ S ((i : Int) :: w') := by
      match w, hw with
      | a :: w', hw =>
        have h0 := hk a List.mem_cons_self
        exact ⟨a.toNat, w', by simpa using hw, fun k h => hk k (List.mem_cons_of_mem _ h), by rwa [Int.toNat_of_nonneg h0]⟩
    have hP : ∃ i : Nat, (∃ w' : List Int, w'.length = n ∧ (∀ k ∈ w', 0 ≤ k) ∧ S ((i : Int) :: w')) ∧ ∀ j, j < i → ¬ ∃ w' : List Int, w'.length = n ∧ (∀ k ∈ w', 0 ≤ k) ∧ S ((j : Int) :: w') := by
      obtain ⟨i, hi⟩ := this
      induction i using Nat.strongRecOn with
      | _ i ih =>
        by_cases hj : ∃ j, j < i ∧ ∃ w' : List Int, w'.length = n ∧ (∀ k ∈ w', 0 ≤ k) ∧ S ((j : Int) :: w')
        · obtain ⟨j, hj, h⟩ := hj
          exact ih j hj h
        · exact ⟨i, hi, fun j hj' h => hj ⟨j, hj', h⟩⟩
    obtain ⟨i, h1, h2⟩ := hP
    obtain ⟨w', hw', hS', hm⟩ := lex_least L n (fun w' => S ((i : Int) :: w')) h1
    refine ⟨(i : Int) :: w', by simp [hw'], hS', fun v hv hk' hSv hlt => ?_⟩
    match v, hv with
    | c :: v', hv =>
      have hc := hk' c List.mem_cons_self
      rcases hlt with hlt | ⟨rfl, hlt⟩
      · exact h2 c.toNat (by omega) ⟨v', by simpa using hv, fun k h => hk' k (List.mem_cons_of_mem _ h), by rwa [Int.toNat_of_nonneg hc]⟩
      · exact hm v' (by simpa using hv) (fun k h => hk' k (List.mem_cons_of_mem _ h)) hSv hlt
/-! ### Words that tell apart -/
def Dist (a b : Mac) (w : List Int) : Prop := OkW a w ∧ agree a b (runP a b (a.start, b.start) w) = false
def Least0 (a b : Mac) (w : List Int) : Prop := Dist a b w ∧ ∀ v, Dist a b v → ¬ sl v w
theorem least_dist {a b : Mac} (h : ∃ w, Dist a b w) : ∃ w, Least0 a b w := by
  have h1 : ∃ n, (∃ w : List Int, w.length = n ∧ Dist a b w) ∧ ∀ m, m < n → ¬ ∃ w : List Int, w.length = m ∧ Dist a b w := by
    obtain ⟨w, hw⟩ := h
    have gen : ∀ n, (∃ w : List Int, w.length = n ∧ Dist a b w) → ∃ n, (∃ w : List Int, w.length = n ∧ Dist a b w) ∧ ∀ m, m < n → ¬ ∃ w : List Int, w.length = m ∧ Dist a b w := by
      intro n
      induction n using Nat.strongRecOn with
      | _ n ih =>
        intro hn
        by_cases hj : ∃ m, m < n ∧ ∃ w : List Int, w.length = m ∧ Dist a b w
        · obtain ⟨m, hm, h⟩ := hj
          exact ih m hm h
        · exact ⟨n, hn, fun m hm h => hj ⟨m, hm, h⟩⟩
    exact gen w.length ⟨w, rfl, hw⟩
  obtain ⟨n, ⟨w, hwn, hw⟩, hmin⟩ := h1
  obtain ⟨w', h2, h3, h4⟩ := lex_least 0 n (Dist a b) ⟨w, hwn, fun k hk => (hw.1 k hk).1, hw⟩
  refine ⟨w', h3, fun v hv hsl => ?_⟩
  rcases hsl with hsl | ⟨e, hsl⟩
  · exact hmin v.length (by omega) ⟨v, rfl, hv⟩
  · exact h4 v (by omega) (fun k hk => (hv.1 k hk).1) hv hsl
/-- Whether a number ends behind a word. -/
def ev (a b : Mac) (v : List Int) (n : Nat) : Bool := if n ≤ a.next.length then ends a (runS a ((n : Int) - 1) v) else ends b (runS b ((n : Int) - 1 - a.next.length) v)
theorem ev_pair {a b : Mac} {p : Pr} (hp : InP a b p) (v : List Int) : ev a b v (n1 p) = ends a (runS a p.1 v) ∧ ev a b v (n2 a.next.length p) = ends b (runS b p.2 v) := by
  obtain ⟨⟨h1, h2⟩, h3, h4⟩ := hp
  constructor
  · unfold ev n1
    rw [if_pos (by omega), show (((1 + p.1).toNat : Nat) : Int) - 1 = p.1 by omega]
  · unfold ev n2 other
    by_cases e : p.2 = -1
    · rw [if_pos e, if_pos (by simp), e]
      rw [show (((0 : Int).toNat : Nat) : Int) - 1 = -1 by simp, runS_none, runS_none]
      rfl
    · rw [if_neg e, if_neg (by omega), show (((1 + (a.next.length : Int) + p.2).toNat : Nat) : Int) - 1 - a.next.length = p.2 by omega]
theorem Conn.ev {a b : Mac} {T : List Pr} {v : List Int} (hT : ∀ p ∈ T, InP a b p) (he : ∀ p ∈ T, agree a b (runP a b p v) = true) {x y : Nat} (h : Conn a.next.length T x y) : ev a b v x = ev a b v y := by
  induction h with
  | refl => rfl
  | @pair p h =>
    have h1 := ev_pair (hT p h) v
    have h2 := he p h
    rw [runP_run] at h2
    simp only [agree, beq_iff_eq] at h2
    rw [h1.1, h1.2, h2]
  | symm _ ih => exact ih.symm
  | trans _ _ ih1 ih2 => exact ih1.trans ih2
/-! ### What the search keeps -/
structure Tra (a b : Mac) (ts : List Tr) (W : Nat → List Int) : Prop where
  pos : 0 < ts.length
  zero : W 0 = []
  pr : ∀ i (h : i < ts.length), ts[i].p = runP a b (a.start, b.start) (W i)
  ok : ∀ i, i < ts.length → OkW a (W i)
  ag : ∀ i (h : i < ts.length), agree a b ts[i].p = true
  inc : ∀ i j, i < j → j < ts.length → sl (W i) (W j)
  bk : ∀ i (h : i < ts.length), 0 < i → ∃ m : Nat, ts[i].before = (m : Int) ∧ m < i ∧ W i = W m ++ [ts[i].letter]
/-- The word behind trail i by letter j was looked at. -/
def Exd (a b : Mac) (ts : List Tr) (W : Nat → List Int) (i : Nat) (j : Int) : Prop :=
  (∃ i', i' < ts.length ∧ W i' = W i ++ [j]) ∨ ∃ m, m ≤ ts.length ∧ (∀ i', i' < m → sl (W i') (W i ++ [j])) ∧ Conn a.next.length ((ts.take m).map Tr.p) (n1 (runP a b (a.start, b.start) (W i ++ [j]))) (n2 a.next.length (runP a b (a.start, b.start) (W i ++ [j])))
/-- No least word that tells apart, where all its beginnings were looked at. -/
theorem Tra.none {a b : Mac} (h2 : Two a b) {ts : List Tr} {W : Nat → List Int} (h : Tra a b ts W) {w0 : List Int} (hw : Least0 a b w0) (hex : ∀ i j v, i < ts.length → w0 = W i ++ [j] ++ v → Exd a b ts W i j) : False := by
  have hst : InP a b (a.start, b.start) := ⟨h2.fa.start, h2.fb.start⟩
  have gen : ∀ (n : Nat), n ≤ w0.length → ∃ i, i < ts.length ∧ W i = w0.take n := by
    intro n
    induction n with
    | zero => intro _; exact ⟨0, h.pos, by rw [h.zero]; rfl⟩
    | succ n ih =>
      intro hn
      obtain ⟨i, hi, e⟩ := ih (by omega)
      have e1 : w0.take (n + 1) = W i ++ [w0[n]] := by rw [List.take_succ_eq_append_getElem (by omega), e]
      have e2 : w0 = W i ++ [w0[n]] ++ w0.drop (n + 1) := by rw [← e1, List.take_append_drop]
      rcases hex i w0[n] _ hi e2 with ⟨i', hi', e'⟩ | ⟨m, hm, hs, hc⟩
      · exact ⟨i', hi', by rw [e', e1]⟩
      · exfalso
        -- one of the joined pairs is told apart by what is left
        have hok := hw.1.1
        rw [e2] at hok
        have hT : ∀ p ∈ (ts.take m).map Tr.p, InP a b p := fun p hp => by
          obtain ⟨t, ht, rfl⟩ := List.mem_map.1 hp
          obtain ⟨i', hi', rfl⟩ := List.getElem_of_mem ht
          have hlt : i' < ts.length := by rw [List.length_take] at hi'; omega
          rw [List.getElem_take, h.pr i' hlt]
          exact h2.run (h.ok i' hlt) hst
        have hne : ¬ ∀ p ∈ (ts.take m).map Tr.p, agree a b (runP a b p (w0.drop (n + 1))) = true := fun hall => by
          have h3 := hc.ev hT hall
          have hin : InP a b (runP a b (a.start, b.start) (W i ++ [w0[n]])) := h2.run hok.left hst
          obtain ⟨h4, h5⟩ := ev_pair hin (w0.drop (n + 1))
          rw [h4, h5] at h3
          have h6 := hw.1.2
          rw [e2, runP_app, runP_run] at h6
          unfold agree at h6
          dsimp only at h6
          rw [h3] at h6
          simp at h6
        obtain ⟨p, hp⟩ := Classical.not_forall.1 hne
        obtain ⟨hp, hpa⟩ := Classical.not_imp.1 hp
        obtain ⟨t, ht, rfl⟩ := List.mem_map.1 hp
        obtain ⟨i', hi', rfl⟩ := List.getElem_of_mem ht
        have him : i' < m := by rw [List.length_take] at hi'; omega
        have hlt : i' < ts.length := by omega
        rw [List.getElem_take, h.pr i' hlt, ← runP_app] at hpa
        refine hw.2 (W i' ++ w0.drop (n + 1)) ⟨(h.ok i' hlt).app hok.right, by simpa using hpa⟩ ?_
        have h7 := sl_app (hs i' him) (x := w0.drop (n + 1)) (y := w0.drop (n + 1)) rfl
        rwa [← e2] at h7
  obtain ⟨i, hi, e⟩ := gen w0.length (Nat.le_refl _)
  rw [List.take_length] at e
  have h1 := h.ag i hi
  rw [h.pr i hi, e, hw.1.2] at h1
  cases h1
end Go.Proofs.Ytldmjpnldgekaaa.A
end
section
namespace Go.Proofs.Ytldmjpnldgekaaa.A
theorem Jo.congr {s : Int} {T T' : List Pr} {l : List Int} {J : Nat} {r : Nat → Nat} (h : Jo s T l J r) (hT : ∀ x y, Conn s T x y ↔ Conn s T' x y) : Jo s T' l J r := ⟨h.uf, fun x y hx hy => (hT x y).symm.trans (h.conn x y hx hy)⟩
/-- The words of the trails lie ahead of the one at hand. -/
structure Inv (a b : Mac) (at_ : Nat) (k : Int) (ts : List Tr) (W : Nat → List Int) : Prop where
  tra : Tra a b ts W
  lt : at_ < ts.length
  bef : ∀ i (h : i < ts.length), 0 < i → ∀ m : Nat, ts[i].before = (m : Int) → m < at_ ∨ (m = at_ ∧ ts[i].letter < k)
  ex : ∀ i j, 0 ≤ j → j < a.letters → (i < at_ ∨ (i = at_ ∧ j < k)) → Exd a b ts W i j
theorem Inv.ahead {a b : Mac} {at_ : Nat} {k : Int} {ts : List Tr} {W : Nat → List Int} (h : Inv a b at_ k ts W) {i : Nat} (hi : i < ts.length) : sl (W i) (W at_ ++ [k]) := by
  rcases Nat.lt_trichotomy i at_ with e | e | e
  · exact sl_trans (h.tra.inc i at_ e h.lt) (sl_long _ (by simp))
  · rw [e]; exact sl_long _ (by simp)
  · obtain ⟨m, h1, h2, h3⟩ := h.tra.bk i hi (by omega)
    rw [h3]
    rcases h.bef i hi (by omega) m h1 with h4 | ⟨rfl, h4⟩
    · exact sl_app (h.tra.inc m at_ h4 h.lt) rfl
    · exact sl_snoc _ h4
def addW (W : Nat → List Int) (n : Nat) (x : List Int) : Nat → List Int := fun i => if i = n then x else W i
theorem Exd.more {a b : Mac} {ts : List Tr} {W : Nat → List Int} {i : Nat} {j : Int} (h : Exd a b ts W i j) (hi : i < ts.length) (t : Tr) (x : List Int) : Exd a b (ts ++ [t]) (addW W ts.length x) i j := by
  have hw : ∀ i, i < ts.length → addW W ts.length x i = W i := fun i hi => if_neg (by omega)
  rcases h with ⟨i', h1, h2⟩ | ⟨m, h1, h2, h3⟩
  · exact .inl ⟨i', by simp; omega, by rw [hw i' h1, hw i hi]; exact h2⟩
  · refine .inr ⟨m, by simp; omega, fun i' hi' => ?_, ?_⟩
    · rw [hw i' (by omega), hw i hi]; exact h2 i' hi'
    · rw [hw i hi, List.take_append_of_le_length h1]; exact h3
theorem Inv.skip {a b : Mac} {at_ : Nat} {k : Int} {ts : List Tr} {W : Nat → List Int} (h : Inv a b at_ k ts W) (hc : Conn a.next.length (ts.map Tr.p) (n1 (runP a b (a.start, b.start) (W at_ ++ [k]))) (n2 a.next.length (runP a b (a.start, b.start) (W at_ ++ [k])))) : Inv a b at_ (k + 1) ts W := by
  refine ⟨h.tra, h.lt, fun i hi h0 m hm => ?_, fun i j h0 h1 h2 => ?_⟩
  · rcases h.bef i hi h0 m hm with h | ⟨h, h'⟩
    · exact .inl h
    · exact .inr ⟨h, by omega⟩
  · by_cases e : i = at_ ∧ j = k
    · obtain ⟨rfl, rfl⟩ := e
      exact .inr ⟨ts.length, Nat.le_refl _, fun i' hi' => h.ahead hi', by rw [List.take_length]; exact hc⟩
    · exact h.ex i j h0 h1 (by
        rcases h2 with h2 | ⟨h2, h3⟩
        · exact .inl h2
        · exact .inr ⟨h2, by
            rcases Int.lt_or_eq_of_le (show j ≤ k by omega) with h4 | h4
            · exact h4
            · exact absurd ⟨h2, h4⟩ e⟩)
/-- The base of a list of trails with one more, which need not agree. -/
structure Base (a b : Mac) (ts : List Tr) (W : Nat → List Int) : Prop where
  zero : W 0 = []
  bk : ∀ i (h : i < ts.length), 0 < i → ∃ m : Nat, ts[i].before = (m : Int) ∧ m < i ∧ W i = W m ++ [ts[i].letter]
theorem Inv.base {a b : Mac} {at_ : Nat} {k : Int} {ts : List Tr} {W : Nat → List Int} (h : Inv a b at_ k ts W) (q : Pr) : Base a b (ts ++ [⟨q, at_, k⟩]) (addW W ts.length (W at_ ++ [k])) := by
  have hw : ∀ i, i < ts.length → addW W ts.length (W at_ ++ [k]) i = W i := fun i hi => if_neg (by omega)
  refine ⟨by rw [hw 0 h.tra.pos]; exact h.tra.zero, fun i hi h0 => ?_⟩
  by_cases e : i < ts.length
  · obtain ⟨m, h1, h2, h3⟩ := h.tra.bk i e h0
    refine ⟨m, by rw [List.getElem_append_left e]; exact h1, h2, ?_⟩
    rw [hw i e, hw m (by omega), List.getElem_append_left e]
    exact h3
  · have hi' : i = ts.length := by simp at hi; omega
    subst hi'
    refine ⟨at_, by rw [List.getElem_append_right (Nat.le_refl _)]; simp, h.lt, ?_⟩
    rw [hw at_ h.lt, List.getElem_append_right (Nat.le_refl _)]
    simp [addW]
theorem Inv.push {a b : Mac} {at_ : Nat} {k : Int} {ts : List Tr} {W : Nat → List Int} (h : Inv a b at_ k ts W) (h0 : 0 ≤ k) (hk : k < a.letters) (hag : agree a b (runP a b (a.start, b.start) (W at_ ++ [k])) = true) : Inv a b at_ (k + 1) (ts ++ [⟨runP a b (a.start, b.start) (W at_ ++ [k]), at_, k⟩]) (addW W ts.length (W at_ ++ [k])) := by
  have hw : ∀ i, i < ts.length → addW W ts.length (W at_ ++ [k]) i = W i := fun i hi => if_neg (by omega)
  have hwn : addW W ts.length (W at_ ++ [k]) ts.length = W at_ ++ [k] := if_pos rfl
  have hB := h.base (runP a b (a.start, b.start) (W at_ ++ [k]))
  have cas : ∀ i, i < (ts ++ [(⟨runP a b (a.start, b.start) (W at_ ++ [k]), at_, k⟩ : Tr)]).length → i < ts.length ∨ i = ts.length := fun i hi => by simp at hi; omega
  refine ⟨⟨by simp, hB.zero, fun i hi => ?_, fun i hi => ?_, fun i hi => ?_, fun i j hij hj => ?_, hB.bk⟩, by simp; have := h.lt; omega, fun i hi hp m hm => ?_, fun i j hj0 hj1 hij => ?_⟩
  · rcases cas i hi with e | rfl
    · rw [List.getElem_append_left e, hw i e]; exact h.tra.pr i e
    · rw [List.getElem_append_right (Nat.le_refl _), hwn]; simp
  · rcases cas i hi with e | rfl
    · rw [hw i e]; exact h.tra.ok i e
    · rw [hwn]
      exact (h.tra.ok at_ h.lt).app fun x hx => by rw [List.mem_singleton.1 hx]; exact ⟨h0, hk⟩
  · rcases cas i hi with e | rfl
    · rw [List.getElem_append_left e]; exact h.tra.ag i e
    · rw [List.getElem_append_right (Nat.le_refl _)]; simpa using hag
  · rcases cas j hj with e | rfl
    · rw [hw i (by omega), hw j e]; exact h.tra.inc i j hij e
    · rw [hw i hij, hwn]; exact h.ahead hij
  · rcases cas i hi with e | rfl
    · rw [List.getElem_append_left e] at hm ⊢
      rcases h.bef i e hp m hm with h | ⟨h, h'⟩
      · exact .inl h
      · exact .inr ⟨h, by omega⟩
    · rw [List.getElem_append_right (Nat.le_refl _)] at hm ⊢
      simp at hm ⊢
      exact .inr ⟨by omega, by omega⟩
  · by_cases e : i = at_ ∧ j = k
    · obtain ⟨rfl, rfl⟩ := e
      exact .inl ⟨ts.length, by simp, by rw [hwn, hw i h.lt]⟩
    · have hi : i < ts.length := by have := h.lt; omega
      exact (h.ex i j hj0 hj1 (by
        rcases hij with h2 | ⟨h2, h3⟩
        · exact .inl h2
        · exact .inr ⟨h2, by
            rcases Int.lt_or_eq_of_le (show j ≤ k by omega) with h4 | h4
            · exact h4
            · exact absurd ⟨h2, h4⟩ e⟩)).more hi _ _
theorem Inv.found {a b : Mac} (h2 : Two a b) {at_ : Nat} {k : Int} {ts : List Tr} {W : Nat → List Int} (h : Inv a b at_ k ts W) (h0 : 0 ≤ k) (hk : k < a.letters) (hag : agree a b (runP a b (a.start, b.start) (W at_ ++ [k])) = false) : Least0 a b (W at_ ++ [k]) := by
  have hd : Dist a b (W at_ ++ [k]) := ⟨(h.tra.ok at_ h.lt).app fun x hx => by rw [List.mem_singleton.1 hx]; exact ⟨h0, hk⟩, hag⟩
  refine ⟨hd, fun v hv hsl => ?_⟩
  obtain ⟨w0, hw0⟩ := least_dist ⟨v, hv⟩
  have hsl0 : sl w0 (W at_ ++ [k]) := by
    rcases sl_tri w0 v with rfl | e | e
    · exact hsl
    · exact sl_trans e hsl
    · exact absurd e (hw0.2 v hv)
  refine h.tra.none h2 hw0 fun i j v' hi e => ?_
  have hok := hw0.1.1
  rw [e] at hok
  have hj := hok.left j (by simp)
  refine h.ex i j hj.1 hj.2 ?_
  rcases Nat.lt_or_ge i at_ with e1 | e1
  · exact .inl e1
  · by_cases hjk : i = at_ ∧ j < k
    · exact .inr hjk
    exfalso
    have hle : w0 = W i ++ [j] ∨ sl (W i ++ [j]) w0 := by
      rcases v' with _ | ⟨c, v'⟩
      · exact .inl (by rw [e, List.append_nil])
      · right
        rw [e]
        exact sl_long _ (by simp)
    · have hge : W at_ ++ [k] = W i ++ [j] ∨ sl (W at_ ++ [k]) (W i ++ [j]) := by
        rcases Nat.lt_or_eq_of_le e1 with e2 | e2
        · exact .inr (sl_app (h.tra.inc at_ i e2 hi) rfl)
        · subst e2
          rcases Int.lt_or_eq_of_le (show k ≤ j by
            rcases Int.lt_or_le j k with h | h
            · exact absurd ⟨rfl, h⟩ hjk
            · exact h) with h4 | h4
          · exact .inr (sl_snoc _ h4)
          · exact .inl (by rw [h4])
      have h5 : w0 = W at_ ++ [k] ∨ sl (W at_ ++ [k]) w0 := by
        rcases hge with g | g <;> rcases hle with g' | g'
        · exact .inl (by rw [g', g])
        · exact .inr (by rw [g]; exact g')
        · exact .inr (by rw [g']; exact g)
        · exact .inr (sl_trans g g')
      rcases h5 with h5 | h5
      · rw [h5] at hsl0; exact sl_irr _ hsl0
      · exact sl_irr _ (sl_trans hsl0 h5)
theorem back_word {a b : Mac} {ts : List Tr} {W : Nat → List Int} (h : Base a b ts W) : ∀ (f i : Nat) (acc : List Int), i < f → i < ts.length → back f ts (i : Int) acc = some (acc ++ (W i).reverse)
  | 0, _, _, hf, _ => absurd hf (by omega)
  | f + 1, i, acc, hf, hi => by
    unfold back
    by_cases e : (i : Int) ≤ 0
    · rw [if_pos e]
      have : i = 0 := by omega
      subst this
      rw [h.zero]
      simp
    · rw [if_neg e, dif_pos (by simpa using hi)]
      obtain ⟨m, h1, h2, h3⟩ := h.bk i hi (by omega)
      have e1 : ts[((i : Int)).toNat]'(by simpa using hi) = ts[i] := by simp
      rw [e1, h1, back_word h f m _ (by omega) (by omega), h3]
      simp
theorem wordO_base {a b : Mac} {ts : List Tr} {W : Nat → List Int} (h : Base a b ts W) {f : Nat} (hp : 0 < ts.length) (hf : ts.length ≤ f) : wordO f ts = some (W (ts.length - 1)) := by
  unfold wordO
  rw [show ((ts.length : Int) - 1) = ((ts.length - 1 : Nat) : Int) by omega, back_word h f (ts.length - 1) [] (by omega) (by omega)]
  simp
theorem runP_snoc (a b : Mac) (p : Pr) (u : List Int) (k : Int) : runP a b p (u ++ [k]) = leadP a b (runP a b p u) k := by rw [runP_app]; rfl
theorem conn_cons {s : Int} {T : List Pr} {p : Pr} (h : Conn s T (n1 p) (n2 s p)) (x y : Nat) : Conn s (p :: T) x y ↔ Conn s T x y := by
  constructor
  · intro hc
    induction hc with
    | refl x => exact .refl x
    | pair h' =>
      rcases List.mem_cons.1 h' with rfl | h'
      · exact h
      · exact .pair h'
    | symm _ ih => exact .symm ih
    | trans _ _ ih1 ih2 => exact .trans ih1 ih2
  · exact fun h => h.mono fun _ h => List.mem_cons_of_mem _ h
theorem conn_snoc {s : Int} {T : List Pr} {p : Pr} (x y : Nat) : Conn s (p :: T) x y ↔ Conn s (T ++ [p]) x y :=
  ⟨fun h => h.mono fun q hq => by
    rcases List.mem_cons.1 hq with rfl | hq
    · exact List.mem_append.2 (.inr List.mem_cons_self)
    · exact List.mem_append.2 (.inl hq), fun h => h.mono fun q hq => by
    rcases List.mem_append.1 hq with hq | hq
    · exact List.mem_cons_of_mem _ hq
    · rw [List.mem_singleton.1 hq]; exact List.mem_cons_self⟩
/-- What the search hands back. -/
def Res (a b : Mac) (W : Nat → List Int) (at_ : Nat) (k : Int) (q : Pr) : Prop := Least0 a b (W at_ ++ [k]) ∧ q = runP a b (a.start, b.start) (W at_ ++ [k])
theorem inner_spec {a b : Mac} (h2 : Two a b) {f at_ : Nat} {p : Pr} : ∀ (ks : List Nat) (k : Nat) (j : List Int) (ts : List Tr) (W : Nat → List Int) (J : Nat) (r : Nat → Nat), ks = (List.range a.letters.toNat).drop k → k ≤ a.letters.toNat → Inv a b at_ k ts W → p = runP a b (a.start, b.start) (W at_) → Jo a.next.length (ts.map Tr.p) j J r → j.length = 1 + a.next.length + b.next.length → j.length < f → ts.length ≤ J + 1 →
    (∃ j' ts' W' J' r', innerO f a b at_ p ks j ts = some (j', ts', none) ∧ Inv a b at_ a.letters ts' W' ∧ Jo a.next.length (ts'.map Tr.p) j' J' r' ∧ j'.length = j.length ∧ ts'.length ≤ J' + 1) ∨
    (∃ j' ts' l q W', innerO f a b at_ p ks j ts = some (j', ts', some q) ∧ Least0 a b l ∧ q = runP a b (a.start, b.start) l ∧ Base a b ts' W' ∧ 0 < ts'.length ∧ W' (ts'.length - 1) = l ∧ ts'.length ≤ j.length + 1)
  | [], k, j, ts, W, J, r, hks, hk, hI, hp, hJ, hl, hf, hT => by
    have hkl : k = a.letters.toNat := by
      have := congrArg List.length hks
      simp at this
      omega
    refine .inl ⟨j, ts, W, J, r, rfl, ?_, hJ, rfl, hT⟩
    have : ((k : Nat) : Int) = a.letters := by have := h2.fa.letters; omega
    rw [← this]
    exact hI
  | k' :: ks, k, j, ts, W, J, r, hks, hk, hI, hp, hJ, hl, hf, hT => by
    have hlt : k < a.letters.toNat := by
      rcases Nat.lt_or_ge k a.letters.toNat with h | h
      · exact h
      · rw [List.drop_of_length_le (by simpa using h)] at hks
        cases hks
    have hks2 : (List.range a.letters.toNat).drop k = k :: (List.range a.letters.toNat).drop (k + 1) := by
      rw [List.drop_eq_getElem_cons (by simpa using hlt), List.getElem_range]
    rw [hks2] at hks
    injection hks with e1 e2
    subst e1
    have h0 : (0 : Int) ≤ (k' : Int) := by omega
    have hkl : (k' : Int) < a.letters := by omega
    have hst : InP a b (a.start, b.start) := ⟨h2.fa.start, h2.fb.start⟩
    have hq : leadP a b p k' = runP a b (a.start, b.start) (W at_ ++ [(k' : Int)]) := by rw [runP_snoc, hp]
    have hin : InP a b (leadP a b p k') := by
      rw [hp]
      exact h2.lead (h2.run (hI.tra.ok at_ hI.lt) hst) h0 hkl
    have hTin : ∀ q ∈ ts.map Tr.p, InP a b q := fun q hq => by
      obtain ⟨t, ht, rfl⟩ := List.mem_map.1 hq
      obtain ⟨i, hi, rfl⟩ := List.getElem_of_mem ht
      rw [hI.tra.pr i hi]
      exact h2.run (hI.tra.ok i hi) hst
    obtain ⟨j1, y, d1, d2, ⟨J1, r1, d3, d4⟩, d5⟩ := joinO_jo (f := f) hJ hl hTin hin (by have := hJ.uf.sum; omega)
    unfold innerO
    rw [d1]
    rcases y with _ | _
    · dsimp only
      have hc := d5.1 rfl
      have hI' := hI.skip (by rw [← hq]; exact hc)
      have hJ' := d3.congr (conn_cons hc)
      have ih := inner_spec h2 (f := f) (at_ := at_) (p := p) ks (k' + 1) j1 ts W J1 r1 e2 (by omega) (by simpa using hI') hp hJ' (by omega) (by omega) (by simp at d4; omega)
      rw [d2] at ih
      exact ih
    · dsimp only
      by_cases hag : agree a b (leadP a b p k') = true
      · rw [if_pos hag]
        have hI' := hI.push h0 hkl (by rw [← hq]; exact hag)
        rw [← hq] at hI'
        have hlen : (ts ++ [(⟨leadP a b p k', at_, k'⟩ : Tr)]).length = ts.length + 1 := by simp
        have hJ' : Jo a.next.length ((ts ++ [(⟨leadP a b p k', at_, k'⟩ : Tr)]).map Tr.p) j1 J1 r1 := by
          rw [List.map_append]
          exact d3.congr fun x y => conn_snoc x y
        have ih := inner_spec h2 (f := f) (at_ := at_) (p := p) ks (k' + 1) j1 (ts ++ [⟨leadP a b p k', at_, k'⟩]) (addW W ts.length (W at_ ++ [(k' : Int)])) J1 r1 e2 (by omega) (by simpa using hI') (by rw [hp]; unfold addW; rw [if_neg (by have := hI.lt; omega)]) hJ' (by omega) (by omega) (by simp at d4; omega)
        rw [d2] at ih
        exact ih
      · rw [if_neg hag]
        have hag' : agree a b (leadP a b p k') = false := by simpa using hag
        refine .inr ⟨j1, _, W at_ ++ [(k' : Int)], _, addW W ts.length (W at_ ++ [(k' : Int)]), rfl, hI.found h2 h0 hkl (by rw [← hq]; exact hag'), hq, hI.base _, by simp, ?_, ?_⟩
        · simp [addW]
        · have := d3.uf.sum
          simp at d4
          simp
          omega
theorem outer_spec {a b : Mac} (h2 : Two a b) {f : Nat} : ∀ (fuel at_ : Nat) (j : List Int) (ts : List Tr) (W : Nat → List Int) (J : Nat) (r : Nat → Nat), Tra a b ts W → at_ ≤ ts.length → (∀ i (h : i < ts.length), 0 < i → ∀ m : Nat, ts[i].before = (m : Int) → m < at_) → (∀ i j, 0 ≤ j → j < a.letters → i < at_ → Exd a b ts W i j) → Jo a.next.length (ts.map Tr.p) j J r → j.length = 1 + a.next.length + b.next.length → j.length < f → ts.length ≤ J + 1 → j.length + 1 ≤ fuel + at_ →
    (outerO f a b fuel at_ j ts = some none ∧ ¬ ∃ w, Dist a b w) ∨ (∃ ts' l q W', outerO f a b fuel at_ j ts = some (some (ts', q)) ∧ Least0 a b l ∧ q = runP a b (a.start, b.start) l ∧ Base a b ts' W' ∧ 0 < ts'.length ∧ W' (ts'.length - 1) = l ∧ ts'.length ≤ j.length + 1)
  | fuel, at_, j, ts, W, J, r, hT, hat, hbf, hex, hJ, hl, hf, hTJ, hg => by
    unfold outerO
    by_cases hlt : at_ < ts.length
    · rw [dif_pos hlt]
      match fuel, hg with
      | 0, hg => have := hJ.uf.sum; omega
      | fuel + 1, hg =>
        dsimp only
        have hI : Inv a b at_ (0 : Nat) ts W := ⟨hT, hlt, fun i hi h0 m hm => .inl (hbf i hi h0 m hm), fun i j h0 h1 h => hex i j h0 h1 (by omega)⟩
        rcases inner_spec h2 (f := f) (at_ := at_) (p := ts[at_].p) (List.range a.letters.toNat) 0 j ts W J r (by simp) (Nat.zero_le _) hI (hT.pr at_ hlt) hJ hl hf hTJ with ⟨j', ts', W', J', r', e1, e2, e3, e4, e5⟩ | ⟨j', ts', l, q, W', e1, e2, e3, e4, e5, e6, e7⟩
        · rw [e1]
          have ih := outer_spec h2 (f := f) fuel (at_ + 1) j' ts' W' J' r' e2.tra e2.lt (fun i hi h0 m hm => by rcases e2.bef i hi h0 m hm with h | ⟨h, _⟩ <;> omega) (fun i j h0 h1 h => e2.ex i j h0 h1 (by omega)) e3 (by omega) (by omega) e5 (by omega)
          rw [e4] at ih
          exact ih
        · rw [e1]
          exact .inr ⟨ts', l, q, W', rfl, e2, e3, e4, e5, e6, e7⟩
    · rw [dif_neg hlt]
      refine .inl ⟨rfl, fun hd => ?_⟩
      obtain ⟨w0, hw0⟩ := least_dist hd
      refine hT.none h2 hw0 fun i jj v hi e => ?_
      have hok := hw0.1.1
      rw [e] at hok
      have hj := hok.left jj (by simp)
      exact hex i jj hj.1 hj.2 (by omega)
theorem diffO_spec {a b : Mac} (h2 : Two a b) {f : Nat} (hf : 3 + a.next.length + b.next.length ≤ f) : (diffO f a b = some none ∧ ¬ ∃ w, Dist a b w) ∨ ∃ l, diffO f a b = some (some (l, runP a b (a.start, b.start) l)) ∧ Least0 a b l := by
  have hst : InP a b (a.start, b.start) := ⟨h2.fa.start, h2.fb.start⟩
  unfold diffO
  by_cases hag : agree a b (a.start, b.start) = true
  · rw [if_pos hag]
    have hl : (upTo (1 + a.next.length + b.next.length) (1 + a.next.length + b.next.length)).length = 1 + a.next.length + b.next.length := by simp [upTo]
    obtain ⟨j1, y, d1, d2, ⟨J1, r1, d3, d4⟩, _⟩ := joinO_jo (f := f) (jo0 a.next.length (1 + a.next.length + b.next.length)) hl (fun _ h => by cases h) hst (by omega)
    rw [d1]
    dsimp only
    have hT : Tra a b [⟨(a.start, b.start), 0, 0⟩] fun _ => [] := by
      refine ⟨by simp, rfl, fun i hi => ?_, fun i _ k hk => by simp at hk, fun i hi => ?_, fun i j hij hj => by simp at hj; omega, fun i hi h0 => by simp at hi; omega⟩
      · have : i = 0 := by simpa using hi
        subst this
        rfl
      · have : i = 0 := by simpa using hi
        subst this
        exact hag
    rcases outer_spec h2 (f := f) f 0 j1 [⟨(a.start, b.start), 0, 0⟩] (fun _ => []) J1 r1 hT (by simp) (fun i hi h0 => by simp at hi; omega) (fun i j _ _ h => by omega) d3 (by omega) (by omega) (by simp) (by omega) with ⟨e1, e2⟩ | ⟨ts', l, q, W', e1, e2, e3, e4, e5, e6, e7⟩
    · rw [e1]
      exact .inl ⟨rfl, e2⟩
    · rw [e1]
      dsimp only
      rw [wordO_base e4 e5 (by omega), e6, e3]
      exact .inr ⟨l, rfl, e2⟩
  · rw [if_neg hag]
    refine .inr ⟨[], rfl, ⟨fun k hk => by simp at hk, by simpa [runP] using hag⟩, fun v _ h => ?_⟩
    rcases h with h | ⟨h, h'⟩
    · simp at h
    · have : v = [] := List.eq_nil_of_length_eq_zero (by simpa using h)
      subst this
      exact h'
end Go.Proofs.Ytldmjpnldgekaaa.A
end
section
namespace Go.Proofs.Ytldmjpnldgekaaa.A
/-- How many words of a length are accepted from a state, as it is reckoned. -/
def valN (m : Mac) (n : Nat) (s : Int) : Int := if s = -1 then 0 else (longN m n (words0 m)).getD s.toNat 0
theorem longN_succ (m : Mac) : ∀ (n : Nat) (ws : List Int), longN m (n + 1) ws = longer m (longN m n ws)
  | 0, _ => rfl
  | n + 1, ws => longN_succ m n (longer m ws)
def foldN (L : Nat) (v : Nat → Int) : Int := (List.range L).foldl (fun c k => IntKind.u64.wrap (c + v k)) 0
theorem wrap_id {c : Int} (h : 0 ≤ c ∧ c < 18446744073709551616) : IntKind.u64.wrap c = c := IntWalk.u64_in c (by omega)
theorem wrap_in (c : Int) : 0 ≤ IntKind.u64.wrap c ∧ IntKind.u64.wrap c < 18446744073709551616 := by
  rw [IntKind.wrap_u64]
  omega
theorem fold_congr {g g' : Int → Nat → Int} (c : Int) : ∀ L : Nat, (∀ k, k < L → ∀ c, g c k = g' c k) → (List.range L).foldl g c = (List.range L).foldl g' c
  | 0, _ => rfl
  | L + 1, h => by
    rw [List.range_succ, List.foldl_append, List.foldl_append, fold_congr c L fun k hk => h k (by omega)]
    simp [h L (by omega)]
theorem sumRow_fold {m : Mac} {ws : List Int} : ∀ (row : List Int) (c : Int), 0 ≤ c ∧ c < 18446744073709551616 → row.foldl (addTo ws) c = row.foldl (fun c x => IntKind.u64.wrap (c + if x = -1 then 0 else ws.getD x.toNat 0)) c
  | [], _, _ => rfl
  | x :: row, c, hc => by
    rw [List.foldl_cons, List.foldl_cons]
    unfold addTo
    by_cases e : x = -1
    · rw [if_pos e, if_pos e, Int.add_zero, wrap_id hc]
      exact sumRow_fold (m := m) row c hc
    · rw [if_neg e, if_neg e]
      exact sumRow_fold (m := m) row _ (wrap_in _)
theorem foldl_range (row : List Int) (g : Int → Int → Int) (c : Int) : row.foldl g c = (List.range row.length).foldl (fun c k => g c (row.getD k 0)) c := by
  have gen : ∀ n, n ≤ row.length → (row.take n).foldl g c = (List.range n).foldl (fun c k => g c (row.getD k 0)) c := by
    intro n
    induction n with
    | zero => intro _; rfl
    | succ n ih =>
      intro hn
      rw [List.take_succ_eq_append_getElem (by omega), List.foldl_append, List.range_succ, List.foldl_append, ih (by omega)]
      simp [show n < row.length by omega]
  have := gen row.length (Nat.le_refl _)
  rwa [List.take_length] at this
theorem valN_succ {m : Mac} (h : Fits m) {n : Nat} {s : Int} (hs : In m s) : valN m (n + 1) s = foldN m.letters.toNat fun k => valN m n (lead m s k) := by
  by_cases e : s = -1
  · subst e
    unfold foldN
    have : ∀ L : Nat, (List.range L).foldl (fun (c : Int) (k : Nat) => IntKind.u64.wrap (c + valN m n (lead m (-1) k))) 0 = 0 := by
      intro L
      induction L with
      | zero => rfl
      | succ L ih =>
        rw [List.range_succ, List.foldl_append, ih]
        rfl
    rw [this]
    rfl
  · obtain ⟨h1, h2⟩ := hs
    have hlt : s.toNat < m.next.length := by omega
    unfold valN
    rw [if_neg e, longN_succ]
    have e1 : (longer m (longN m n (words0 m))).getD s.toNat 0 = sumRow (longN m n (words0 m)) m.next[s.toNat] := by
      unfold longer
      simp [hlt]
    rw [e1]
    unfold sumRow
    rw [sumRow_fold (m := m) _ 0 (by omega), foldl_range]
    obtain ⟨hr, _⟩ := h.rows _ (List.getElem_mem hlt)
    have hL : m.next[s.toNat].length = m.letters.toNat := by omega
    rw [hL]
    unfold foldN
    refine fold_congr 0 _ fun k hk c => ?_
    congr 2
    have hlead : lead m s k = m.next[s.toNat].getD k 0 := by
      unfold lead
      rw [if_neg e]
      simp [hlt]
    dsimp only
    rw [hlead]
theorem valN_zero {m : Mac} (h : Fits m) {s : Int} (hs : In m s) : valN m 0 s = if ends m s then 1 else 0 := by
  unfold valN ends
  by_cases e : s = -1
  · rw [if_pos e]; simp [e]
  · rw [if_neg e]
    obtain ⟨h1, h2⟩ := hs
    have := h.fin
    have hlt : s.toNat < m.fin.length := by omega
    simp [longN, words0, hlt, e]
theorem valN_eq {a b : Mac} (h : Two a b) : ∀ (n : Nat) (p : Pr), InP a b p → (∀ w : List Int, w.length = n → OkW a w → agree a b (runP a b p w) = true) → valN a n p.1 = valN b n p.2
  | 0, p, hp, hw => by
    have := hw [] rfl (fun k hk => by cases hk)
    simp only [runP, agree, beq_iff_eq] at this
    rw [valN_zero h.fa hp.1, valN_zero h.fb hp.2, this]
  | n + 1, p, hp, hw => by
    rw [valN_succ h.fa hp.1, valN_succ h.fb hp.2, ← h.ll]
    refine fold_congr 0 _ fun k hk c => ?_
    have hk' : (k : Int) < a.letters := by have := h.fa.letters; omega
    have ih := valN_eq h n (leadP a b p k) (h.lead hp (by omega) hk') fun w hl hok => hw (k :: w) (by simp [hl]) fun x hx => by
      rcases List.mem_cons.1 hx with rfl | hx
      · exact ⟨by omega, hk'⟩
      · exact hok x hx
    exact congrArg (fun y => IntKind.u64.wrap (c + y)) ih
theorem count_val {m : Mac} {n : Nat} (hv : valid m = 0) (hn : n ≤ 1000) : count m n = (valN m n m.start, 0) := by
  unfold count valN
  rw [if_pos ⟨hv, by omega, by omega⟩, Int.toNat_natCast]
  split <;> rfl
/-- Of a length below that of the least word that tells apart, both accept as many. -/
theorem count_eq {a b : Mac} (h : Two a b) (va : valid a = 0) (vb : valid b = 0) {l : List Int} (hl : Least0 a b l) {n : Nat} (hn : n < l.length) (h1 : n ≤ 1000) : count a n = count b n := by
  rw [count_val va h1, count_val vb h1, valN_eq h n (a.start, b.start) ⟨h.fa.start, h.fb.start⟩ fun w hw hok => ?_]
  rcases hag : agree a b (runP a b (a.start, b.start) w) with _ | _
  · exact absurd (.inl (by omega)) (hl.2 w ⟨hok, hag⟩)
  · rfl
/-- A least word that tells apart is accepted by one alone. -/
theorem from_run {m : Mac} : ∀ {w : List Int} {s : Int}, (∀ k ∈ w, 0 ≤ k ∧ k < m.letters) → from_ m s w = some (runS m s w)
  | [], _, _ => rfl
  | k :: w, s, h => by
    unfold from_
    rw [if_pos (h k List.mem_cons_self)]
    exact from_run fun x hx => h x (List.mem_cons_of_mem _ hx)
theorem accepts_run {m : Mac} (hv : valid m = 0) {w : List Int} (h : ∀ k ∈ w, 0 ≤ k ∧ k < m.letters) : accepts m w = ends m (runS m m.start w) := by
  unfold accepts
  rw [if_pos hv, from_run h]
/-- Where no word tells two machines apart, any word is accepted by both or by neither. -/
theorem same_accepts {a b : Mac} (h : Two a b) (va : valid a = 0) (vb : valid b = 0) (hd : ¬ ∃ w, Dist a b w) (w : List Int) : accepts a w = accepts b w := by
  by_cases hok : OkW a w
  · rw [accepts_run va hok, accepts_run vb (by rw [← h.ll]; exact hok)]
    rcases hag : agree a b (runP a b (a.start, b.start) w) with _ | _
    · exact absurd ⟨w, hok, hag⟩ hd
    · rw [runP_run] at hag
      simpa [agree] using hag
  · have none_ : ∀ (m : Mac) (hl : m.letters = a.letters) (w : List Int) (s : Int), ¬ OkW a w → from_ m s w = none := by
      intro m hl w
      induction w with
      | nil => intro s h; exact absurd (fun k hk => by cases hk) h
      | cons k w ih =>
        intro s hno
        unfold from_
        rw [hl]
        split
        · rename_i hk
          exact ih _ fun hw => hno fun x hx => by
            rcases List.mem_cons.1 hx with rfl | hx
            · exact hk
            · exact hw x hx
        · rfl
    unfold accepts
    rw [if_pos va, if_pos vb, none_ a rfl w _ hok, none_ b h.ll.symm w _ hok]
theorem least_one {a b : Mac} (h : Two a b) (va : valid a = 0) (vb : valid b = 0) {l : List Int} (hl : Least0 a b l) : accepts a l = ends a (runP a b (a.start, b.start) l).1 ∧ accepts b l = !ends a (runP a b (a.start, b.start) l).1 := by
  have hok := hl.1.1
  have hd := hl.1.2
  rw [accepts_run va hok, accepts_run vb (by rw [← h.ll]; exact hok)]
  rw [runP_run] at hd ⊢
  dsimp only at hd ⊢
  refine ⟨rfl, ?_⟩
  simp only [agree] at hd
  revert hd
  rcases ends a (runS a a.start l) <;> rcases ends b (runS b b.start l) <;> simp
/-- There is one least word. -/
theorem least_uniq {a b : Mac} {l l' : List Int} (h : Least0 a b l) (h' : Least0 a b l') : l = l' := by
  rcases sl_tri l l' with e | e | e
  · exact e
  · exact absurd e (h'.2 l h.1)
  · exact absurd e (h.2 l' h'.1)
theorem least_swap {a b : Mac} (hl : a.letters = b.letters) {l : List Int} (h : Least0 a b l) : Least0 b a l := by
  have sw : ∀ w, Dist a b w ↔ Dist b a w := fun w => by
    unfold Dist OkW
    rw [runP_run, runP_run, hl]
    simp only [agree]
    rw [Bool.beq_comm]
  exact ⟨(sw l).1 h.1, fun v hv => h.2 v ((sw v).2 hv)⟩
end Go.Proofs.Ytldmjpnldgekaaa.A
end
section
namespace Go.Proofs.Ytldmjpnldgekaaa
open Go.RowKit Go.Maps
theorem laid_out : laidOutB Try.prog = true := by kernel_rfl
theorem keytype_pair : Try.prog.keyType 57 = true := by kernel_rfl
theorem types_pos : 0 < Try.prog.types.size := of_decide_eq_true (by kernel_rfl)
theorem law_pair : Keyed Try.prog 57 := Keyed.of_law (deep_law_gate laid_out (of_decide_eq_true (by kernel_rfl)) (of_decide_eq_true (by kernel_rfl)) keytype_pair (by kernel_rfl))
def okP (p : A.Pr) : Prop := (Lit.int .i64 p.1).wf = true ∧ (Lit.int .i64 p.2).wf = true
def klP (p : A.Pr) : Lit := .string (keyBytes [.int .i64 p.1, .int .i64 p.2])
theorem cells_pair : Try.prog.cellsOf 57 = 2 := by kernel_rfl
theorem cells_int : Try.prog.cellsOf 3 = 1 := by kernel_rfl
theorem keyOf_pair {p : A.Pr} (h : okP p) : keyOf Try.prog 57 (pairV p) = some (klP p) := by
  have hl : ∀ d, Try.prog.keyLits (d + 2) 57 [.int .i64 p.1, .int .i64 p.2] = some [.int .i64 p.1, .int .i64 p.2] := fun d => by
    simp [Program.keyLits, Try.underlying57, Try.underlying3, cells_pair, cells_int, h.1, h.2]
  unfold keyOf
  rw [Try.underlying57]
  simp [keytype_pair, Value.formed, pairV, Try.underlying57, cells_pair, Value.cells, hl, klP]
theorem klP_key : ∀ x, okP x → WideAt.IsKeyLit (klP x) := fun _ hx => law_pair.key (keyOf_pair hx)
theorem klP_inj : ∀ x y, okP x → okP y → klP x = klP y → x = y := fun x y hx hy h => by
  have := law_pair.inj (keyOf_pair hx) (h ▸ keyOf_pair hy)
  obtain ⟨a, b⟩ := x
  obtain ⟨c, d⟩ := y
  simpa [pairV] using this
def pairC (p : A.Pr) : List Value := [.int .i64 p.1, .int .i64 p.2]
def fdPT : FT A.Pr := ⟨96, 57, 57, 2, pairC⟩
/-- What is found of pairs. -/
def FdP (w : World) (S : Nat → Prop) (fb : Nat) (none_ : A.Pr) (ts : List A.Pr) : Prop := ∃ mb v D, Fnd fdPT klP okP none_ w S fb mb v ts D
theorem info_pair_ : (Try.prog.info? 57).map (fun i => (i.zero, i.size, i.bytes)) = some (some (.agg #[.int .i64 0, .int .i64 0]), 2, 16) := by kernel_rfl
set_option maxRecDepth 100000 in
/-- The lookup at a pair, in whatever world with the same memory. -/
theorem look_pair {w : World} {mb n : Nat} {D : DataW Unit} {p : A.Pr} (h : w.ownsMap Try.prog 57 (plainElem Try.prog 3) mb n D) (hp : okP p) : ∃ c : Int, D.atKey (klP p) (.lit (.int .i64 0)) = .lit (.int .i64 c) ∧ ∀ W : World, W.heap = w.heap → (Instr.lookup 94 (.map (some mb)) (pairV p) true).run Try.prog W = .ok (.tuple #[.int .i64 c, .bool (Maps.has D (klP p))]) W := by
  have key : ∀ W : World, W.heap = w.heap → ∃ c : Int, D.atKey (klP p) (.lit (.int .i64 0)) = .lit (.int .i64 c) ∧ (Instr.lookup 94 (.map (some mb)) (pairV p) true).run Try.prog W = .ok (.tuple #[.int .i64 c, .bool (Maps.has D (klP p))]) W := fun W hW => by
    have hW2 : W.ownsMap Try.prog 57 (plainElem Try.prog 3) mb n D := ownsMap_heap h (by rw [hW])
    obtain ⟨v, ps, hrun, hv⟩ := hW2.look_ok law_pair Try.underlying94 (zero_int W) (plainElem_int (H := Unit) Try.underlying3 (by decide : (Lit.int .i64 0).wf = true)) (keyOf_pair hp)
    obtain ⟨c, rfl, hc, hwc⟩ := plainElem_int_inv Try.underlying3 hv
    exact ⟨c, congrArg Prod.fst hc, hrun⟩
  obtain ⟨c, hc, _⟩ := key w rfl
  refine ⟨c, hc, fun W hW => ?_⟩
  obtain ⟨c', hc', hr⟩ := key W hW
  have : c' = c := by
    have e : (DataW.lit (Lit.int .i64 c') : DataW Unit) = .lit (.int .i64 c) := hc'.symm.trans hc
    injection e with e
    injection e
  rw [this] at hr
  exact hr
set_option maxRecDepth 100000 in
set_option maxHeartbeats 16000000 in
theorem numberP_any {w : World} {S : Nat → Prop} {fb : Nat} {none_ x : A.Pr} {ts : List A.Pr} (h : FdP w S fb none_ ts) (hx : okP x) (hl : ts.length ≤ 1000000000) :
    Calls Try.prog 61 #[.pointer (some ⟨fb, 0, none⟩), pairV x] w fun e w' => e = .returned (.int .i64 (A.numO none_ x ts).1) ∧ FdP w' (fun b => S b ∨ w.heap.size ≤ b) fb none_ (A.numO none_ x ts).2 ∧ Frm S w w' := by
  obtain ⟨mb, v, D, h⟩ := h
  obtain ⟨A1, c1, rfl⟩ := own_form h.row
  have HF0 := Lib.hid h
  have HF : Hid (Fnd fdPT klP okP none_ (w.alloc (.cells #[.int .i64 x.1, .int .i64 x.2] 57)) S fb mb (.slice A1 ts.length c1) ts D) := h.frm (E := fun _ => False) ((Frm.refl _ w).alloc _) fun _ _ _ => id
  have x0 := HF.out.out.cell 0
  have x1 := HF.out.out.cell 1
  have f1 := HF.out.out.frozen 1
  obtain ⟨c, hat, hrun⟩ := look_pair HF.out.own hx
  have HH := Lib.hid (h.rd.has x hx)
  have HX := Lib.hid hx
  have HAT := Lib.hid hat
  clear h hx hat
  by_cases hin : x = none_ ∨ x ∈ ts
  · have hh : Maps.has D (klP x) = true := by rw [HH.out]; simp [hin]
    have HN : Hid (A.numO none_ x ts = (c, ts)) := show _ = _ by
      unfold A.numO
      by_cases hxn : x = none_
      · rw [if_pos hxn]
        have := HF.out.rd.non
        rw [← hxn] at this
        have e : (DataW.lit (Lit.int .i64 (-1)) : DataW Unit) = .lit (.int .i64 c) := this.symm.trans HAT.out
        injection e with e
        injection e with _ e
        rw [← e]
      · have hm : x ∈ ts := hin.resolve_left hxn
        rw [if_neg hxn, if_pos hm]
        have := HF.out.rd.at_ _ (A.idx_lt hm)
        rw [A.idx_get hm] at this
        have e : (DataW.lit (Lit.int .i64 (A.idx x ts : Int)) : DataW Unit) = .lit (.int .i64 c) := this.symm.trans HAT.out
        injection e with e
        injection e with _ e
        rw [← e]
    rw [hh] at hrun
    have hrq : ∀ n, (Instr.lookup 94 (.map (some mb)) (.agg #[.int .i64 x.1, .int .i64 x.2]) true).run Try.prog ((w.alloc (.cells #[.int .i64 x.1, .int .i64 x.2] 57)).drewN n) = .ok (.tuple #[.int .i64 c, .bool true]) ((w.alloc (.cells #[.int .i64 x.1, .int .i64 x.2] 57)).drewN n) := fun n => hrun _ rfl
    clear hin hrun hh
    simp only [pairV]
    go_enter Try.func61, Try.ntmps61
    go_wp2_with fail
    go_quiet (fail)
    go_wp2_with fail
    go_ret
    rw [HN.out]
    exact ⟨rfl, ⟨mb, _, D, Fnd.mono (Fnd.frm (E := fun _ => False) HF.out ((Frm.refl _ _).drewN nq) fun _ _ _ => id) fun _ _ h => .inl h⟩, ((Frm.refl _ w).alloc _).drewN nq⟩
  · have hh : Maps.has D (klP x) = false := by rw [HH.out]; simp [hin]
    obtain ⟨hxn, hxm⟩ : x ≠ none_ ∧ x ∉ ts := ⟨fun e => hin (.inl e), fun e => hin (.inr e)⟩
    have HN : Hid (A.numO none_ x ts = ((ts.length : Int), ts ++ [x])) := show _ = _ by unfold A.numO; rw [if_neg hxn, if_neg hxm]
    have HXN := Lib.hid hxn
    have HXM := Lib.hid hxm
    have HNM := Lib.hid HF.out.nm
    rw [hh] at hrun
    have hrq : ∀ n, (Instr.lookup 94 (.map (some mb)) (.agg #[.int .i64 x.1, .int .i64 x.2]) true).run Try.prog ((w.alloc (.cells #[.int .i64 x.1, .int .i64 x.2] 57)).drewN n) = .ok (.tuple #[.int .i64 c, .bool false]) ((w.alloc (.cells #[.int .i64 x.1, .int .i64 x.2] 57)).drewN n) := fun n => hrun _ rfl
    have hkey : keyOf Try.prog 57 (.agg #[.int .i64 x.1, .int .i64 x.2]) = some (klP x) := keyOf_pair HX.out
    obtain ⟨i0, hi0, hz0, hz1, hz2⟩ := info_parts info_pair_
    clear hin hrun hh hxn hxm
    simp only [pairV]
    go_enter Try.func61, Try.ntmps61
    go_wp2_with fail
    go_quiet (fail)
    go_wp2_with fail
    have HFQ : Hid (Fnd fdPT klP okP none_ ((w.alloc (.cells #[.int .i64 x.1, .int .i64 x.2] 57)).drewN nq) S fb mb (.slice A1 ts.length c1) ts D) := Fnd.frm (E := fun _ => False) HF.out ((Frm.refl _ _).drewN nq) fun _ _ _ => id
    have HBQ : Hid (Blk ((w.alloc (.cells #[.int .i64 x.1, .int .i64 x.2] 57)).drewN nq) w.heap.size 57 #[.int .i64 x.1, .int .i64 x.2]) := (Blk.new w _ _).drewN nq
    have HFR : Hid (Frm (fun _ => False) w ((w.alloc (.cells #[.int .i64 x.1, .int .i64 x.2] 57)).drewN nq)) := ((Frm.refl _ w).alloc _).drewN nq
    have HSB : Hid (∀ b, b ≠ w.heap.size → S b → S b) := fun _ _ h => h
    have HSL : Hid (w.heap.size ≠ mb ∧ w.heap.size ≠ fb ∧ (Value.slice A1 ts.length c1).ownBlock ≠ some w.heap.size) := ⟨by have := ownsMap_lt HF0.out.own; omega, by have := HF0.out.out.lt; omega, fun e => by have := (World.ownsRow.lt HF0.out.row _ e).2; omega⟩
    clear x0 x1 f1 hrq HF HSB
    generalize ((w.alloc (.cells #[.int .i64 x.1, .int .i64 x.2] 57)).drewN nq) = WQ at HFQ HBQ HFR ⊢
    have x0 := HFQ.out.out.cell 0
    have q0 := HBQ.out.cell 0
    have q1 := HBQ.out.cell 1
    go_still_tail 6, (by kernel_rfl)
    go_wp2_with (at_mapUpdate; refine wpList_mapUpdate_own _ rfl _ _ _ 94 rfl 57 3 law_pair Try.underlying94 _ mb _ D rfl HFQ.out.own ?u1 _ _ _ rfl rfl hkey _ [] (plainElem_int Try.underlying3 ?u2) ?_)
    case u1 => unfold maxLen; omega
    case u2 => exact WalkArith.wf_i64 (by omega)
    intro w1 hown1 hgrow1
    have hgq : WQ.grownBy w1 (some mb) := ⟨hgrow1.os, hgrow1.tape, hgrow1.output, hgrow1.size, hgrow1.block⟩
    have hb1 : Blk w1 fb 96 #[.map (some mb), .slice A1 ts.length c1] := HFQ.out.out.grown hgq fun e => by injection e with e; exact HNM.out e
    have hq1 : Blk w1 w.heap.size 57 #[.int .i64 x.1, .int .i64 x.2] := HBQ.out.grown hgq fun e => by injection e with e; exact HSL.out.1 e
    have hr1 : w1.ownsRow 0 57 2 (.slice A1 ts.length c1) ts.length (ts.flatMap pairC) := World.ownsRow.kept HFQ.out.row hgq (by
      cases hv : (Value.slice A1 ts.length c1).ownBlock with
      | none => exact .inl rfl
      | some g => exact .inr fun e => (HFQ.out.sv g hv).2.2 (by injection e))
    have HO1 := Lib.hid hown1
    have HG1 := Lib.hid hgq
    have HR1 := Lib.hid hr1
    have y1 := hb1.cell 1
    have p0 := hq1.cell 0
    have p1 := hq1.cell 1
    have y1' := fun o => (hb1.alloc o).cell 1
    have HFA : Hid (∀ W : World, W = (w1.alloc (.cells #[.int .i64 x.1, .int .i64 x.2] 57)).drew → W.ownsRow 0 57 2 (.slice A1 ts.length c1) ts.length (ts.flatMap pairC) ∧ (∀ (j : Nat) (u : Value), [Value.int .i64 x.1, Value.int .i64 x.2][j]? = some u → W.cell? ((⟨w1.heap.size, 0, none⟩ : Addr).add j) = some u) ∧ W.heap.size = w1.heap.size + 1 ∧ ∀ g' cap' w2, w2.ownsRow 0 57 2 (.slice (some ⟨g', 0, none⟩) (ts.length + 1) cap') (ts.length + 1) (ts.flatMap pairC ++ [.int .i64 x.1, .int .i64 x.2]) → W.grownBy w2 (Value.slice A1 ts.length c1).ownBlock → ((Value.slice A1 ts.length c1).ownBlock = some g' ∨ g' = w1.heap.size + 1) → FdP (w2.setCell ⟨fb, 1, none⟩ (.slice (some ⟨g', 0, none⟩) (ts.length + 1) cap')) (fun b => S b ∨ WQ.heap.size ≤ b) fb none_ (ts ++ [x]) ∧ Frm S WQ (w2.setCell ⟨fb, 1, none⟩ (.slice (some ⟨g', 0, none⟩) (ts.length + 1) cap')) ∧ w2.cell? ⟨fb, 1, none⟩ = some (.slice A1 ts.length c1) ∧ w2.frozen? ⟨fb, 1, none⟩ = false) := fun W hW => by
      subst hW
      refine ⟨HR1.out.alloc _, cell_two_at rfl, by simp [World.drew], fun g' cap' w2 h1 h2 h3 => ?_⟩
      have hw := World.grownBy_alloc w1 (.cells #[.int .i64 x.1, .int .i64 x.2] 57) none
      have hsz := HG1.out.size
      have hloc : ∃ p, (Value.slice (some ⟨g', 0, none⟩) (ts.length + 1) cap').ownBlock = (Value.slice A1 ts.length c1).ownBlock ∧ p = w1.heap.size + 1 ∨ (Value.slice (some ⟨g', 0, none⟩) (ts.length + 1) cap').ownBlock = some p ∧ p = w1.heap.size + 1 := by
        rcases h3 with h3 | h3
        · exact ⟨_, .inl ⟨h3.symm, rfl⟩⟩
        · exact ⟨_, .inr ⟨by rw [h3]; rfl, rfl⟩⟩
      obtain ⟨p, hloc⟩ := hloc
      obtain ⟨q1, q2, q3, q4⟩ := HFQ.out.add klP_key klP_inj HX.out HXN.out HXM.out HO1.out HG1.out (W := (w1.alloc (.cells #[.int .i64 x.1, .int .i64 x.2] 57)).drew) (w2 := w2) (v' := (.slice (some ⟨g', 0, none⟩) (ts.length + 1) cap')) (p := p) ⟨hw.os, hw.tape, hw.output, hw.size, hw.block⟩ h1 h2 (hloc.imp And.left And.left) (by rcases hloc with h | h <;> omega)
      exact ⟨⟨mb, _, _, q1⟩, q2, q3, q4⟩
    clear hown1 hgrow1 hgq hb1 hr1 hq1 x0 q0 q1
    have HSZ : Hid (w.heap.size ≤ WQ.heap.size) := HFR.out.1
    go_wp2_with fail
    go_region_law (refine step_append_lies _ rfl (.tmp 33) (.tmp 35) 44 rfl 0 57 i0 (.agg #[.int .i64 0, .int .i64 0]) 2 16 Try.underlying44 hi0 hz0 hz1 hz2 rfl (by decide) (.slice A1 ts.length c1) ts.length (ts.flatMap pairC) (by simp [Act.eval]) (HFA.out _ rfl).1 ⟨w1.heap.size, 0, none⟩ 1 1 [.int .i64 x.1, .int .i64 x.2] (by simp [Act.eval]) rfl (HFA.out _ rfl).2.1 (by simp [Value.oneCell']) (by decide) (by unfold maxLen; omega) (by omega) (Nat.zero_le _) (w1.heap.size + 1) (HFA.out _ rfl).2.2.1 ?_; intro g' cap' w2 hown1 hgrow hat hlt1; obtain ⟨q1, q2, p5, f5⟩ := (HFA.out _ rfl).2.2.2 g' cap' w2 hown1 hgrow hat; have HQ1 := Lib.hid q1; have HQ2 := Lib.hid q2; clear q1 q2 hown1 hgrow hat)
    all_goals (
      go_wp2_with fail
      go_ret
      rw [HN.out]
      refine ⟨rfl, ?_, ?_⟩
      · obtain ⟨mb', v', D', h⟩ := HQ1.out
        exact ⟨mb', v', D', h.mono fun b _ hs => hs.imp id fun h => Nat.le_trans HSZ.out h⟩
      · exact Frm.mono (E := S) ((HFR.out.mono fun _ _ h => h.elim).trans HQ2.out) fun _ _ h => h)
end Go.Proofs.Ytldmjpnldgekaaa
end
section
namespace Go.Proofs.Ytldmjpnldgekaaa
open Go.RowKit Go.Maps
def ts2_flat (ts : List A.Pr) : List Value := ts.flatMap fdPT.f
theorem flat_at : ∀ {ts : List A.Pr} {i : Nat} {x : A.Pr}, ts[i]? = some x → (ts2_flat ts)[i * 2]? = some (.int .i64 x.1) ∧ (ts2_flat ts)[i * 2 + 1]? = some (.int .i64 x.2)
  | y :: ts, 0, x, h => by
    simp at h
    subst h
    exact ⟨rfl, rfl⟩
  | y :: ts, i + 1, x, h => by
    have := flat_at (ts := ts) (i := i) (x := x) (by simpa using h)
    rw [show (i + 1) * 2 = i * 2 + 1 + 1 by omega]
    exact this
set_option maxRecDepth 100000 in
set_option maxHeartbeats 16000000 in
theorem searchP_any {w : World} {nx : A.Pr → Int → Option A.Pr} {p1 p2 : Value} {f L : Nat} {first none_ : A.Pr} {most : Int} {ts : List A.Pr} {rows : List (List Int)} (hnx : ∀ (x : A.Pr) (k : Int) (y : A.Pr) (W : World), nx x k = some y → Frm (fun _ => False) w W → okP y ∧ Calls Try.prog 38 #[pairV x, .int .i64 k, p1, p2] W fun e w' => e = .returned (pairV y) ∧ Frm (fun _ => False) W w') (hf : okP first) (hn : okP none_) (hL : L ≤ 300) (hfl : f ≤ 100000000) (hmost : most ≤ 1000000) (hs : A.searchO nx f first none_ L most = some (ts, rows)) :
    Calls Try.prog 37 #[pairV first, pairV none_, .int .i64 L, .int .i64 most, .func (.func 38) #[] #[p1, p2]] w fun e w' => ∃ uT uR, e = .returned (.tuple #[uT, uR, .bool true]) ∧ w'.ownsRow w.heap.size 57 2 uT ts.length (ts.flatMap pairC) ∧ Rows2 w' (fun b => w.heap.size ≤ b) uR rows ∧ Frm (fun _ => False) w w' := by
  have HNX := Lib.hid hnx
  have HS := Lib.hid hs
  have HF := Lib.hid hf
  have HN := Lib.hid hn
  have hmm := @run_makeMap Try.prog
  clear hnx hs hf hn
  simp only [pairV]
  go_enter Try.func37, Try.ntmps37
  obtain ⟨W0, hW0⟩ : ∃ W0, W0 = (w.alloc (.cells #[.int .i64 first.1, .int .i64 first.2] 57)).alloc (.cells #[.int .i64 none_.1, .int .i64 none_.2] 57) := ⟨_, rfl⟩
  have hkey0 : keyOf Try.prog 57 (.agg #[.int .i64 none_.1, .int .i64 none_.2]) = some (klP none_) := keyOf_pair HN.out
  have hs00 : W0.heap.size = w.heap.size + 2 := by rw [hW0]; simp
  have F00 : Frm (fun _ => False) w W0 := by rw [hW0]; exact ((Frm.refl _ w).alloc _).alloc _
  have b5 : Blk W0 w.heap.size 57 #[.int .i64 first.1, .int .i64 first.2] := by rw [hW0]; exact (Blk.new w _ _).alloc _
  have hm0 : (W0.alloc (.map #[] 0)).ownsMap (H := Unit) Try.prog 57 (plainElem Try.prog 3) (w.heap.size + 2) 0 (.map []) := by rw [← hs00]; exact World.ownsMap_made _ _ _ _
  have b5m := b5.alloc (.map #[] 0)
  rw [hW0] at hm0 b5m
  go_wp2_with fail
  try go_step3
  go_wp2_with (refine wpList_insert_own _ rfl _ _ _ 94 rfl 57 3 law_pair Try.underlying94 _ (w.heap.size + 2) _ _ rfl hm0 (by decide) _ _ _ rfl rfl hkey0 _ [] (plainElem_int Try.underlying3 (by decide)) ?_; intro w1 hown1 hgrow1; have c5 := ((Blk.grown b5m hgrow1 (by simp)).alloc (.cells #[.map (some (w.heap.size + 1 + 1)), .slice none 0 0] 96)).cell 0; have c6 := ((Blk.grown b5m hgrow1 (by simp)).alloc (.cells #[.map (some (w.heap.size + 1 + 1)), .slice none 0 0] 96)).cell 1)
  have HB5 := Lib.hid (Blk.grown b5m hgrow1 (by simp))
  rw [← hW0] at hgrow1
  have F1 : Frm (fun _ => False) w w1 := (F00.alloc (.map #[] 0)).grown hgrow1 fun g e hlt => by injection e with e; omega
  have hsz1 := hgrow1.size
  rw [World.size_alloc, hs00] at hsz1
  have HFD0 : Hid (FdP (w1.alloc (.cells #[.map (some (w.heap.size + 1 + 1)), .slice none 0 0] 96)) (fun b => w.heap.size ≤ b ∧ b < w1.heap.size + 1) w1.heap.size none_ []) := by
    refine ⟨w.heap.size + 1 + 1, _, _, Blk.new w1 _ _, ownsMap_heap hown1 (Below.heap_alloc w1 _ _ (by omega)), Reads.new klP_key klP_inj HN.out, World.ownsRow_nil _ _ _ _, ⟨by omega, by omega⟩, ⟨by omega, by omega⟩, fun g hg => (by cases hg), by omega⟩
  have HF0 : Hid (Frm (fun _ => False) w (w1.alloc (.cells #[.map (some (w.heap.size + 1 + 1)), .slice none 0 0] 96))) := F1.alloc _
  obtain ⟨fb, hfb⟩ : ∃ fb, fb = w1.heap.size := ⟨_, rfl⟩
  have HSZ1 : Hid (w.heap.size ≤ fb) := show _ ≤ _ by omega
  rw [← hfb] at HFD0 ⊢
  clear F00 b5 b5m F1 hsz1 hs00 hown1 hgrow1 hm0 hmm hkey0 hW0 c5 c6
  refine (numberP_any HFD0.out HF.out (by simp)).mono ?_
  rintro _ w2 ⟨rfl, q2, f2⟩
  have hF2 : Frm (fun _ => False) w w2 := Frm.mono (E := fun b => w.heap.size ≤ b) ((HF0.out.mono fun _ _ h => h.elim).trans (f2.mono fun b _ h => h.1)) fun b hb h => by omega
  have HF2 := Lib.hid hF2
  have HFD2 : Hid (FdP w2 (fun b => w.heap.size ≤ b ∧ b < w2.heap.size) fb none_ (A.numO none_ first []).2) := by
    obtain ⟨mb, v, D, h⟩ := q2
    exact ⟨mb, v, D, h.mono fun b hb hs => ⟨by rcases hs with hs | hs; exact hs.1; exact Nat.le_trans HF0.out.1 hs, hb⟩⟩
  have HSR : Hid (A.srchO nx none_ L most f 0 (A.numO none_ first []).2 [] = some (ts, rows)) := HS
  have HTL2 : Hid ((A.numO none_ first []).2.length ≤ 1000001) := show _ ≤ _ by unfold A.numO; split <;> simp
  generalize (A.numO none_ first []).1 = n1 at *
  generalize (A.numO none_ first []).2 = ts1 at *
  clear q2 f2 hF2 HS HF0 HFD0 hfb
  go_wp2_with fail
  try go_step3
  go_wp2_with fail
  obtain ⟨S0, hS0⟩ : ∃ S0 : Nat → Prop, S0 = fun b => w.heap.size ≤ b ∧ b < w2.heap.size := ⟨_, rfl⟩
  rw [← hS0] at HFD2
  have HSS0 : Hid (∀ b, S0 b → w.heap.size ≤ b ∧ b < w2.heap.size) := by rw [hS0]; exact fun b h => h
  have HRW0 : Hid (RowsOwn w2 w.heap.size L S0 (.slice none 0 0) []) := ⟨[], rfl, World.ownsRow_nil _ _ _ _, fun g hg => (by cases hg), fun i hi => by simp at hi⟩
  clear hS0
  go_loopg [14, 15] f (fun n u i wr => ∃ (at_ : Nat) (tk : List A.Pr) (rk : List (List Int)) (Sk : Nat → Prop), i = .int .i64 (at_ : Int) ∧ at_ + n ≤ f ∧ rk.length = at_ ∧ Hid (at_ ≤ tk.length) ∧ Hid (tk.length ≤ 1000001) ∧ Hid (A.srchO nx none_ L most n at_ tk rk = some (ts, rows)) ∧ Hid (FdP wr Sk fb none_ tk) ∧ Hid (RowsOwn wr w.heap.size L Sk u rk) ∧ Hid (∀ b, Sk b → w.heap.size ≤ b ∧ b < wr.heap.size) ∧ Hid (Frm (fun _ => False) w wr))
  case atStart => exact ⟨0, ts1, [], S0, rfl, by omega, rfl, Nat.zero_le _, HTL2, HSR, HFD2, HRW0, HSS0, HF2⟩
  case round =>
    clear HTL2 HSR HFD2 HRW0 HSS0 HF2
    obtain ⟨at_, tk, rk, Sk, rfl, hat, hrk, HLE, HTL, HSR, HFD, HRW, HSS, HF⟩ := hrel
    obtain ⟨mb, vT, D, hFd⟩ := HFD.out
    obtain ⟨AT, cT, rfl⟩ := own_form hFd.row
    have x1 := hFd.out.cell 1
    have hrow := hFd.row
    have hsr := HSR.out
    unfold A.srchO at hsr
    by_cases hlt : at_ < tk.length
    · rw [dif_pos hlt] at hsr
      have hlt' : (at_ : Int) < (tk.length : Int) := by omega
      cases gk with
      | zero => cases hsr
      | succ n =>
      dsimp only at hsr
      cases hrs : A.rowS nx none_ most (tk[at_]'hlt) (List.range L) tk [] with
      | none => rw [hrs] at hsr; cases hsr
      | some rr =>
      obtain ⟨ts2, row⟩ := rr
      rw [hrs] at hsr
      dsimp only at hsr
      have HS2 := Lib.hid hsr
      obtain ⟨x, hx⟩ : ∃ x, x = tk[at_]'hlt := ⟨_, rfl⟩
      rw [← hx] at hrs
      have HRS : Hid (A.rowS nx none_ most x ((List.range L).drop 0) tk [] = some (ts2, row)) := hrs
      have HXA : Hid (tk[at_]? = some x) := by rw [hx]; exact List.getElem?_eq_getElem hlt
      have hmk := run_make_row' (P := Try.prog) 37 3 (.int .i64 0) 8 Try.underlying37 info_int rfl .i64 .i64 L (by omega) (by omega)
      clear hsr hrs hx hFd hrow HSR
      go_wp2_with fail
      have HXT := Lib.hid hlt
      obtain ⟨rb, hrb⟩ : ∃ rb, rb = wr.heap.size := ⟨_, rfl⟩
      have HB0 : Hid (Blk (wr.alloc (.cells (madeCells #[.int .i64 0] L) 3)) rb 3 (intCs ([] ++ List.replicate (L - 0) 0))) := by
        rw [List.nil_append, Nat.sub_zero, ← intCs_made, hrb]; exact Blk.new wr _ _
      have HFD0 : Hid (FdP (wr.alloc (.cells (madeCells #[.int .i64 0] L) 3)) Sk fb none_ tk) := by
        obtain ⟨a1, a2, a3, a4⟩ := HFD.out
        exact ⟨a1, a2, a3, a4.frm ((Frm.refl (fun _ => False) wr).alloc _) fun _ _ _ h => h⟩
      have HRW0 : Hid (RowsOwn (wr.alloc (.cells (madeCells #[.int .i64 0] L) 3)) w.heap.size L (fun b => Sk b ∨ b = rb) u14 rk) := HRW.out.frm ((Frm.refl (fun _ => False) wr).alloc _) (fun _ _ h => h.elim) fun b hb h => by
        rcases h with h | h
        · exact h
        · omega
      have HSS0 : Hid (∀ b, Sk b → w.heap.size ≤ b ∧ b < (wr.alloc (.cells (madeCells #[.int .i64 0] L) 3)).heap.size) := fun b h => by
        have := HSS.out b h
        simp; omega
      have HNS : Hid (¬ Sk rb) := fun h => by have := HSS.out rb h; omega
      have HRB : Hid (w.heap.size ≤ rb) := show _ ≤ _ by rw [hrb]; exact HF.out.1
      have HF0 : Hid (Frm (fun _ => False) w (wr.alloc (.cells (madeCells #[.int .i64 0] L) 3))) := HF.out.alloc _
      have HUB : Hid (u14.ownBlock ≠ some rb) := fun e => by
        obtain ⟨gs, h1, h2, _⟩ := HRW.out
        have := (World.ownsRow.lt h2 rb e).2
        omega
      rw [← hrb]
      clear hrb HFD HRW HSS HF hmk x1
      generalize (wr.alloc (.cells (madeCells #[.int .i64 0] L) 3)) = wo at *
      clear wr
      go_loopg [38] L (fun n u wr => ∃ (j : Nat) (tj : List A.Pr) (rj : List Int) (Sj : Nat → Prop), u = .int .i64 (j : Int) ∧ j + n = L ∧ Hid (rj.length = j) ∧ Hid (tj.length ≤ 1000001) ∧ Hid (A.rowS nx none_ most x ((List.range L).drop j) tj rj = some (ts2, row)) ∧ Hid (tj[at_]? = some x) ∧ Hid (Blk wr rb 3 (intCs (rj ++ List.replicate (L - j) 0))) ∧ Hid (FdP wr Sj fb none_ tj) ∧ Hid (RowsOwn wr w.heap.size L (fun b => Sj b ∨ b = rb) u14 rk) ∧ Hid (∀ b, Sj b → w.heap.size ≤ b ∧ b < wr.heap.size) ∧ Hid (¬ Sj rb) ∧ Hid (Frm (fun _ => False) w wr))
      case atStart => exact ⟨0, tk, [], Sk, rfl, by omega, rfl, HTL, HRS, HXA, HB0, HFD0, HRW0, HSS0, HNS, HF0⟩
      case round =>
        clear HTL HRS HXA HB0 HFD0 HRW0 HSS0 HNS HF0
        obtain ⟨j, tj, rj, Sj, rfl, hjn, HJL, HTL, HRS, HXA, HB, HFD, HRW, HSS, HNS, HF⟩ := hrel
        obtain ⟨mb2, vT2, D2, hFd⟩ := HFD.out
        obtain ⟨A2, c2, rfl⟩ := own_form hFd.row
        by_cases hj : j < L
        · have hj' : (j : Int) < (L : Int) := by omega
          have hlt2 : at_ < tj.length := by
            obtain ⟨h, _⟩ := List.getElem?_eq_some_iff.1 HXA.out
            exact h
          have hlt3 : (at_ : Int) < (tj.length : Int) := by omega
          have x1 := hFd.out.cell 1
          obtain ⟨g, hA2, hc, hc2⟩ : ∃ g, A2 = some ⟨g, 0, none⟩ ∧ wr.cell? ⟨g, at_ * 2, none⟩ = some (.int .i64 x.1) ∧ wr.cell? ⟨g, at_ * 2 + 1, none⟩ = some (.int .i64 x.2) := by
            rcases hFd.row.2 with ⟨_, hn⟩ | ⟨g, cap, cur, e, hb, _⟩
            · exact absurd hn (by omega)
            · injection e with e1 e2 e3
              subst e1
              have e2 : (ts2_flat tj)[at_ * 2]? = some (.int .i64 x.1) ∧ (ts2_flat tj)[at_ * 2 + 1]? = some (.int .i64 x.2) := flat_at HXA.out
              refine ⟨g, rfl, ?_, ?_⟩
              · have hc := @World.ownsRow.cells _ _ _ _ _ _ _ hFd.row g rfl (at_ * 2) (.int .i64 x.1) e2.1
                rw [add_zero_off] at hc
                exact hc
              · have hc := @World.ownsRow.cells _ _ _ _ _ _ _ hFd.row g rfl (at_ * 2 + 1) (.int .i64 x.2) e2.2
                rw [add_zero_off] at hc
                exact hc
          subst hA2
          have hd : (List.range L).drop j = j :: (List.range L).drop (j + 1) := by
            rw [List.drop_eq_getElem_cons (by simp; omega)]; simp
          have hrs := HRS.out
          rw [hd] at hrs
          unfold A.rowS at hrs
          cases hy : nx x (j : Int) with
          | none => rw [hy] at hrs; cases hrs
          | some y =>
          rw [hy] at hrs
          dsimp only at hrs
          by_cases hmo : most < ((A.numO none_ y tj).2.length : Int)
          · rw [if_pos hmo] at hrs; cases hrs
          rw [if_neg hmo] at hrs
          have HR2 := Lib.hid hrs
          obtain ⟨hoky, hcall⟩ := HNX.out x j y wr hy HF.out
          have HY := Lib.hid hoky
          have HC := Lib.hid hcall
          have HD := Lib.hid hd
          have HM := Lib.hid hmo
          clear hd hrs hoky hcall hmo HRS
          have cb := HB.out.cell j
          go_wp2_with fail
          refine (show Calls Try.prog 38 #[.agg #[.int .i64 x.1, .int .i64 x.2], .int .i64 (j : Int), p1, p2] wr _ from HC.out).mono ?_
          rintro _ w3 ⟨rfl, f3⟩
          have HF3 : Hid (Frm (fun _ => False) w w3) := HF.out.trans f3
          have HFD3 : Hid (FdP w3 Sj fb none_ tj) := ⟨mb2, _, D2, hFd.frm f3 fun _ _ _ h => h⟩
          have HB3 : Hid (Blk w3 rb 3 (intCs (rj ++ List.replicate (L - j) 0))) := f3.blk HB.out id
          have HRW3 : Hid (RowsOwn w3 w.heap.size L (fun b => Sj b ∨ b = rb) u14 rk) := HRW.out.frm f3 (fun _ _ h => h.elim) fun _ _ h => h
          have HSS3 : Hid (∀ b, Sj b → w.heap.size ≤ b ∧ b < w3.heap.size) := fun b h => ⟨(HSS.out b h).1, Nat.lt_of_lt_of_le (HSS.out b h).2 f3.1⟩
          have HRB3 : Hid (rb < w3.heap.size) := HB3.out.lt
          clear f3 HF HFD HB HRW HSS HC hFd x1 cb hc hc2
          simp only [pairV]
          go_wp2_with fail
          refine (numberP_any HFD3.out HY.out (by have := HTL.out; omega)).mono ?_
          rintro _ w4 ⟨rfl, q4, f4⟩
          have HF4 : Hid (Frm (fun _ => False) w w4) := Frm.mono (E := fun b => w.heap.size ≤ b) ((HF3.out.mono fun _ _ h => h.elim).trans (f4.mono fun b _ h => (HSS3.out b h).1)) fun b hb h => by omega
          have HB4 : Hid (Blk w4 rb 3 (intCs (rj ++ List.replicate (L - j) 0))) := f4.blk HB3.out HNS.out
          have HFD4 : Hid (FdP w4 (fun b => Sj b ∨ w3.heap.size ≤ b) fb none_ (A.numO none_ y tj).2) := q4
          have HRW4 : Hid (RowsOwn w4 w.heap.size L (fun b => (Sj b ∨ w3.heap.size ≤ b) ∨ b = rb) u14 rk) := HRW3.out.frm f4 (fun _ _ h => .inl h) fun b hb h => by
            rcases h with (h | h) | h
            · exact .inl h
            · omega
            · exact .inr h
          have HTL4 : Hid ((A.numO none_ y tj).2.length ≤ 1000001) := show _ ≤ _ by have := HM.out; omega
          have HXA4 : Hid ((A.numO none_ y tj).2[at_]? = some x) := show _ = _ by
            have h1 := HXA.out
            unfold A.numO
            split
            · exact h1
            · split
              · exact h1
              · rw [List.getElem?_append_left hlt2]; exact h1
          generalize (A.numO none_ y tj).1 = n2 at *
          generalize (A.numO none_ y tj).2 = t2 at *
          clear f4 q4 HF3 HFD3 HB3 HRW3 HTL HXA hlt3
          have cb := HB4.out.cell j
          have fb4 := HB4.out.frozen j
          have HIJ : (intCs (rj ++ List.replicate (L - j) 0))[j]? = some (.int .i64 0) := by
            have hl := HJL.out
            rw [intCs_getD (by simp; omega)]
            simp [List.getD, hl, List.getElem?_append, List.getElem?_replicate]
            rw [if_pos (by omega)]; rfl
          rw [HIJ] at cb
          clear HIJ
          have HNS4 : Hid (¬ (Sj rb ∨ w3.heap.size ≤ rb)) := fun h => by
            have := HRB3.out
            rcases h with h | h
            · exact HNS.out h
            · omega
          obtain ⟨mb4, v4, D4, hF4⟩ := HFD4.out
          obtain ⟨A4, c4, rfl⟩ := own_form hF4.row
          have hne : fb ≠ rb := fun e => HNS4.out (e ▸ hF4.sf)
          have x4 := (hF4.out.far (p := ⟨rb, j, none⟩) hne (.int .i64 n2)).cell 1
          have HF5 : Hid (Frm (fun _ => False) w (w4.setCell ⟨rb, j, none⟩ (.int .i64 n2))) := HF4.out.set_ (p := ⟨rb, j, none⟩) (fun h => by have := HRB.out; simp at h; omega) _
          have f5 : Frm (fun b => b = rb) w4 (w4.setCell ⟨rb, j, none⟩ (.int .i64 n2)) := (Frm.refl (fun b => b = rb) w4).set_ (p := ⟨rb, j, none⟩) (fun _ => rfl) _
          have HFD5 : Hid (FdP (w4.setCell ⟨rb, j, none⟩ (.int .i64 n2)) (fun b => (Sj b ∨ w3.heap.size ≤ b) ∧ b < w4.heap.size) fb none_ t2) := ⟨mb4, _, D4, (hF4.mono (S' := fun b => (Sj b ∨ w3.heap.size ≤ b) ∧ b < w4.heap.size) fun b hb h => ⟨h, hb⟩).frm f5 fun b _ h e => HNS4.out (e ▸ h.1)⟩
          have HRW5 : Hid (RowsOwn (w4.setCell ⟨rb, j, none⟩ (.int .i64 n2)) w.heap.size L (fun b => ((Sj b ∨ w3.heap.size ≤ b) ∧ b < w4.heap.size) ∨ b = rb) u14 rk) := HRW4.out.frm f5 (fun _ _ h => .inr h) fun b _ h => h.imp (·.1) id
          have HB5 : Hid (Blk (w4.setCell ⟨rb, j, none⟩ (.int .i64 n2)) rb 3 (intCs ((rj ++ [n2]) ++ List.replicate (L - (j + 1)) 0))) := show Blk _ _ _ _ by
            have := HB4.out.set_ j (.int .i64 n2)
            rw [intCs_set] at this
            have e : (rj ++ List.replicate (L - j) 0).set j n2 = (rj ++ [n2]) ++ List.replicate (L - (j + 1)) 0 := by
              have hl := HJL.out
              rw [List.set_append, if_neg (by omega), hl, Nat.sub_self, show L - j = (L - (j + 1)) + 1 by omega, List.replicate_succ]
              simp
            rw [e] at this
            exact this
          have HS5 : Hid ((w4.setCell ⟨rb, j, none⟩ (.int .i64 n2)).heap.size = w4.heap.size) := show _ = _ by simp [World.setCell]
          have hmo : ¬ most < (t2.length : Int) := by have := HM.out; omega
          have HW3 : Hid (w.heap.size ≤ w3.heap.size) := show _ ≤ _ by have := HRB3.out; have := HRB.out; omega
          clear HF4 HFD4 HRW4 HB4 hF4 f5
          cases gk with
          | zero => omega
          | succ m =>
          go_wp2_with fail
          go_roundg m
          refine ⟨j + 1, t2, rj ++ [n2], _, rfl, by omega, (show _ = _ by simp [HJL.out]), HTL4, HR2, HXA4, HB5, HFD5, HRW5, ?_, ?_, HF5⟩
          · refine fun b h => ?_
            have := HS5.out
            have := HW3.out
            rcases h with ⟨h | h, h2⟩
            · have := HSS3.out b h; omega
            · omega
          · exact fun h => HNS4.out h.1
          all_goals omega
        · have e : L = j := by omega
          subst e
          have hrs := HRS.out
          rw [show (List.range L).drop L = [] by simp] at hrs
          obtain ⟨e1, e2⟩ : ts2 = tj ∧ row = rj := by
            unfold A.rowS at hrs
            injection hrs with hrs
            exact ⟨(congrArg Prod.fst hrs).symm, (congrArg Prod.snd hrs).symm⟩
          subst e1 e2
          have HRN : Hid (row.length = L) := HJL
          have HBB : Hid (Blk wr rb 3 (intCs row)) := show Blk _ _ _ _ by have := HB.out; rw [Nat.sub_self] at this; simpa using this
          clear HB hrs HRS
          obtain ⟨A14, c14, rfl⟩ := own_form HRW.out.choose_spec.2.1
          obtain ⟨gs, hgs⟩ : ∃ gs, gs = HRW.out.choose := ⟨_, rfl⟩
          have HO := Lib.hid HRW.out.choose_spec.2.1
          rw [← hgs] at HO
          have HGS := Lib.hid hgs
          clear hgs
          have HRK : Hid (rk.length + 1 ≤ 100000000) := show _ ≤ _ by omega
          have HKL := Lib.hid hrk
          clear hrk
          obtain ⟨i0, hi0, hz0, hz1, hz2⟩ := info_parts info_sInt
          go_wp2_with (at_builtin; refine wpList_append_own_at _ rfl _ _ 22 rfl w.heap.size 37 i0 (.slice none 0 0) 1 24 Try.underlying22 hi0 hz0 hz1 hz2 rfl (by decide) _ _ _ rfl (HO.out.alloc _) ⟨wr.heap.size, 0, none⟩ 1 1 [.slice (some ⟨rb, 0, none⟩) L L] rfl rfl (cell_one_at rfl) (by simp [Value.oneCell']) (by have := HRK.out; unfold maxLen; omega) (by have := HRK.out; omega) (by have := HF.out.1; simp; omega) ?_)
          intro v' w4 hown1 hgrow _ hat4
          have f4 : Frm (fun b => (Value.slice A14 rk.length c14).ownBlock = some b) wr w4 := ((Frm.refl _ wr).alloc _).grown hgrow fun g hg _ => hg
          have HR4 : Hid (RowsOwn w4 w.heap.size L Sj v' (rk ++ [row])) := HRW.out.push HBB.out HRN.out HRB.out HNS.out f4 (HGS.out ▸ hown1) hat4 (by simp) fun b hb => (HSS.out b hb).2
          have HFD4 : Hid (FdP w4 Sj fb none_ ts2) := ⟨mb2, _, D2, hFd.frm f4 fun b _ hs e => by
            obtain ⟨gs, _, _, h3, _⟩ := HRW.out
            exact h3 b e (.inl hs)⟩
          have HSS4 : Hid (∀ b, Sj b → w.heap.size ≤ b ∧ b < w4.heap.size) := fun b hb => ⟨(HSS.out b hb).1, Nat.lt_of_lt_of_le (HSS.out b hb).2 f4.1⟩
          have HF4 : Hid (Frm (fun _ => False) w w4) := Frm.mono (E := fun b => w.heap.size ≤ b) ((HF.out.mono fun _ _ h => h.elim).trans (f4.mono fun b _ h => (World.ownsRow.lt HO.out b h).1)) fun b hb h => by omega
          obtain ⟨A5, c5, rfl⟩ := own_form hown1
          clear f4 hown1 hgrow hat4 hi0 hz0 hz1 hz2 HO hFd HGS HRW HFD
          have HLE4 : Hid (at_ + 1 ≤ ts2.length) := (List.getElem?_eq_some_iff.1 HXA.out).1
          go_wp2_with fail
          go_roundg n
          refine ⟨at_ + 1, ts2, rk ++ [row], Sj, by go_num, by omega, by simp [HKL.out], HLE4, HTL, HS2, HFD4, ?_, HSS4, HF4⟩
          all_goals (first | omega | exact HR4 | skip)
    · rw [dif_neg hlt] at hsr
      injection hsr with hsr
      obtain ⟨e1, e2⟩ : ts = tk ∧ rows = rk := ⟨(congrArg Prod.fst hsr).symm, (congrArg Prod.snd hsr).symm⟩
      subst e1 e2
      have hlt' : ¬ (at_ : Int) < (ts.length : Int) := by omega
      have hrl : rows.length = ts.length := by have := HLE.out; omega
      have hal : at_ = ts.length := by have := HLE.out; omega
      have HR := HRW.out
      obtain ⟨A14, c14, rfl⟩ := own_form HR.choose_spec.2.1
      have HRR : Hid (RowsOwn wr w.heap.size L Sk (.slice A14 ts.length c14) rows) := by rw [← hrl]; exact HRW.out
      rw [hrl]
      have HFF := Lib.hid hFd
      clear HR HRW hsr hrow hFd hrk hrl HSR
      subst hal
      go_wp2_with fail
      clear hlt hlt' hat HLE HFD HNX
      go_quiet (fail)
      go_wp2
      try rw [Exit.noGoto_ret]
      refine bodyPost_ret (v := .tuple #[.slice AT ts.length cT, .slice A14 ts.length c14, .bool true]) (by simp [results, Try.results37, go_sem]) rfl ?_
      refine ⟨_, _, rfl, ?_, HRR.out.rows2, HF.out⟩
      have h := HFF.out.row
      refine ⟨h.1, ?_⟩
      rcases h.2 with h2 | ⟨g, cap, cur, e, _, h3, h4, h5, h6, h7⟩
      · exact .inl h2
      · refine .inr ⟨g, cap, cur, e, ?_, h3, h4, h5, h6, ?_⟩
        · have := (HFF.out.sv g (by rw [e]; rfl)).1
          exact (HSS.out g this).1
        · exact h7
end Go.Proofs.Ytldmjpnldgekaaa
end
section
namespace Go.Proofs.Ytldmjpnldgekaaa
open Go.RowKit Go.Shelf
open Go.Sort (flatK putCells onCells mapBlock)
/-- A pair of states within bounds. -/
def BPr (p : A.Pr) : Prop := -1 ≤ p.1 ∧ p.1 ≤ 100000 ∧ -1 ≤ p.2 ∧ p.2 ≤ 100000
abbrev DP := {p : A.Pr // BPr p}
def encP (z : DP) : List Value := pairC z.1
instance : Inhabited DP := ⟨⟨(0, 0), by unfold BPr; decide⟩⟩
theorem flatP_at : ∀ (zs : List DP) (t : Nat), t < zs.length * 2 → (zs.flatMap encP)[t]? = some ((encP zs[t / 2]!)[t % 2]!)
  | [], t, h => by simp at h
  | z :: zs, t, h => by
    by_cases ht : t < 2
    · rw [Nat.div_eq_of_lt ht, Nat.mod_eq_of_lt ht, List.flatMap_cons, List.getElem?_append_left (by simpa [encP, pairC] using ht)]
      match t, ht with
      | 0, _ => rfl
      | 1, _ => rfl
    · obtain ⟨s, rfl⟩ : ∃ s, t = s + 2 := ⟨t - 2, by omega⟩
      have hs : s < zs.length * 2 := by simp at h; omega
      rw [List.flatMap_cons, List.getElem?_append_right (by simp [encP, pairC])]
      have e : s + 2 - (encP z).length = s := by simp [encP, pairC]
      rw [e, flatP_at zs s hs, Nat.add_div_right s (by omega), Nat.add_mod_right]
      rfl
theorem flatP_len (zs : List DP) : (zs.flatMap encP).length = zs.length * 2 := by
  induction zs with
  | nil => rfl
  | cons z zs ih => rw [List.flatMap_cons, List.length_append, ih]; simp [encP, pairC]; omega
theorem flatPK_eq (d : Array DP) : (flatK encP 2 d).toList = d.toList.flatMap encP := by
  apply List.ext_getElem?
  intro t
  by_cases h : t < d.size * 2
  · have hd : t / 2 < d.size := by omega
    rw [flatP_at _ _ (by simpa using h)]
    simp [flatK, h, hd]
  · rw [List.getElem?_eq_none (by simp; omega), List.getElem?_eq_none (by rw [flatP_len]; simp; omega)]
theorem sortP_frm {w : World} {g n : Nat} {d : Array DP} {os : Array Obj} : Frm (· = g) w (sortWorldK encP 2 w g 0 n d os) := by
  refine ⟨?_, fun b hb he => ?_, rfl, rfl⟩
  · show w.heap.size ≤ (w.heap.modify g (onCells (putCells id 0 (flatK encP 2 d))) ++ os).size
    simp
  · show (w.heap.modify g (onCells (putCells id 0 (flatK encP 2 d))) ++ os)[b]? = w.heap[b]?
    rw [Array.getElem?_append_left (by simpa using hb), Array.getElem?_modify, if_neg (fun h => he h.symm)]
theorem sortP_block {w : World} {g n : Nat} {cur : Array Value} {t : TypeId} {fr : Nat × Nat} {d : Array DP} {os : Array Obj} (h : w.heap[g]? = some (.cells cur t fr)) :
    (sortWorldK encP 2 w g 0 n d os).heap[g]? = some (.cells (putCells id 0 (flatK encP 2 d) cur) t fr) := by
  show (w.heap.modify g (onCells (putCells id 0 (flatK encP 2 d))) ++ os)[g]? = _
  rw [Array.getElem?_append_left (by simpa using lt_of_heap h), Array.getElem?_modify, if_pos rfl, h]
  rfl
theorem putP_take {cur : Array Value} {d : Array DP} (h : d.size * 2 ≤ cur.size) : (putCells id 0 (flatK encP 2 d) cur).toList.take (d.size * 2) = d.toList.flatMap encP := by
  rw [← flatPK_eq]
  apply List.ext_getElem?
  intro t
  by_cases ht : t < d.size * 2
  · rw [List.getElem?_take_of_lt ht]
    have hc : t < cur.size := by omega
    simp [putCells, ht, hc, getElem!_pos]
  · rw [List.getElem?_eq_none (by simp; omega), List.getElem?_eq_none (by simp; omega)]
theorem sizeP {α : Type} {l : List α} : l.toArray.size = l.length := by simp
def cfP (x y : DP) : Int := A.ord x.1 y.1
theorem ltP_eq (x y : DP) : ltOf cfP x y = decide (cfP x y < 0) := rfl
theorem swoP : Sort.SWO (ltOf cfP) := by
  refine ⟨fun x => by rw [ltP_eq]; simp [cfP, A.ord], fun x y z h1 h2 => ?_, fun x y z h1 h2 => ?_⟩
  · rw [ltP_eq] at h1 h2 ⊢
    have k1 := of_decide_eq_true h1
    have k2 := of_decide_eq_true h2
    refine decide_eq_true ?_
    clear h1 h2
    unfold cfP A.ord at *
    split at k1 <;> split at k2 <;> split <;> omega
  · rw [ltP_eq] at h1 h2 ⊢
    have k1 := of_decide_eq_false h1
    have k2 := of_decide_eq_false h2
    refine decide_eq_false ?_
    clear h1 h2
    unfold cfP A.ord at *
    split at k1 <;> split at k2 <;> split <;> omega
set_option maxHeartbeats 1000000 in
theorem cmpP_any (x y : DP) (W : World) : Calls Try.prog 41 #[.agg (encP x).toArray, .agg (encP y).toArray] W fun e w' => e = .returned (.int .i64 (cfP x y)) ∧ ∃ q os', w' = Sort.grow (W.drewN q) os' := by
  obtain ⟨⟨p1, p2⟩, h1, h2, h3, h4⟩ := x
  obtain ⟨⟨q1, q2⟩, h5, h6, h7, h8⟩ := y
  dsimp only at h1 h2 h3 h4 h5 h6 h7 h8
  show Calls Try.prog 41 #[.agg #[.int .i64 p1, .int .i64 p2], .agg #[.int .i64 q1, .int .i64 q2]] W fun e w' => e = .returned (.int .i64 (A.ord (p1, p2) (q1, q2))) ∧ _
  have HX : Hid (A.ord (p1, p2) (q1, q2) = if p1 ≠ q1 then p1 - q1 else p2 - q2) := rfl
  have x0 := ((Blk.new W 57 #[.int .i64 p1, .int .i64 p2]).alloc (.cells #[.int .i64 q1, .int .i64 q2] 57)).cell 0
  have x1 := ((Blk.new W 57 #[.int .i64 p1, .int .i64 p2]).alloc (.cells #[.int .i64 q1, .int .i64 q2] 57)).cell 1
  have by' := blk_at (w := W.alloc (.cells #[.int .i64 p1, .int .i64 p2] 57)) (t := 57) (cs := #[.int .i64 q1, .int .i64 q2]) (n := W.heap.size + 1) (by simp)
  have y0 := by'.cell 0
  have y1 := by'.cell 1
  clear by'
  by_cases h : p1 = q1
  · subst h
    have hb : (p1 != p1) = false := by simp
    go_enter Try.func41, Try.ntmps41
    go_wp2_with fail
    go_ret
    exact ⟨ret_int (by rw [HX.out]; simp), 0, _, by rw [Sort.alloc_eq_grow, Sort.alloc_eq_grow, Sort.grow_grow]; rfl⟩
  · have hb : (p1 != q1) = true := by rw [bne_iff_ne]; exact h
    have HH := Lib.hid h
    clear h
    go_enter Try.func41, Try.ntmps41
    go_wp2_with fail
    go_ret
    exact ⟨ret_int (by rw [HX.out, if_pos HH.out]), 0, _, by rw [Sort.alloc_eq_grow, Sort.alloc_eq_grow, Sort.grow_grow]; rfl⟩
theorem lenP (n : Nat) (W : World) (h : n ≤ 12) : Calls Try.prog 63 #[.int .u64 n] W fun e w' => (∃ l : Int, e = .returned (.int .i64 l)) ∧ w' = W :=
  (Try.bits_Len n W (by omega) (by omega)).mono fun _ _ ⟨he, hw⟩ => ⟨⟨_, he⟩, hw⟩
set_option maxHeartbeats 1000000 in
theorem sortP_any {w : World} {base g cap : Nat} {zs : List DP} (ho : w.ownsRow base 57 2 (.slice (some ⟨g, 0, none⟩) zs.length cap) zs.length (zs.flatMap encP)) (h4 : zs.length ≤ 4) :
    Calls Try.prog 40 #[.slice (some ⟨g, 0, none⟩) zs.length cap, .func (.func 41) #[] #[]] w fun e w' => e = .returned (.tuple #[]) ∧ ∃ zs' : List DP, zs'.Perm zs ∧ zs'.Pairwise (fun x y => ltOf cfP y x = false) ∧ w'.ownsRow base 57 2 (.slice (some ⟨g, 0, none⟩) zs.length cap) zs.length (zs'.flatMap encP) ∧ Frm (· = g) w w' := by
  have eg : ∀ args w, (callFunc 41 args).run Try.prog w = .ok (.enter 41 args) w := enters_of Try.func41 (by kernel_rfl) rfl
  have hc := @World.ownsRow.cells _ _ _ _ _ _ _ ho g rfl
  have hH : Sort.HoldsK encP 2 w g 0 zs.toArray := fun j hj => by
    have hj' : j < zs.length * 2 := by simpa using hj
    refine ⟨?_, by rw [Nat.zero_add]; exact ho.frozenAt j⟩
    have := hc j _ (flatP_at zs j hj')
    rw [add_zero_off] at this
    rw [Nat.zero_add, this]
    simp only [id]
    rw [Sort.get_flatK _ _ _ _ (by simpa using hj')]
    simp
  have hblk : g < w.heap.size := (ho.lt g rfl).2
  have hcon := AnyQ.slices_SortFunc_small_sorted Try.sortPair 2 (fun w => by kernel_rfl) (fun w => by kernel_rfl) encP (fun _ => rfl) (fun x v hv => by simp [encP, pairC] at hv; rcases hv with rfl | rfl <;> rfl) cfP 41 #[] swoP g 0 cap zs.toArray w eg (fun _ _ _ _ x y => cmpP_any x y _) hH hblk (by simp; omega) lenP
  refine Calls.mono (show Calls Try.prog 40 #[.slice (some ⟨g, 0, none⟩) zs.length cap, .func (.func 41) #[] #[]] w _ from hcon) ?_
  rintro e w' ⟨rfl, d', n, os, hp, hs, rfl⟩
  obtain ⟨hsz, -, hperm⟩ := hp
  have hsz' : d'.size = zs.length := by simpa using hsz
  have hz0 : (zs.toArray.size) = zs.length := by simp
  have hperm' : d'.toList.Perm zs := by
    have e1 : (d'.extract 0 zs.toArray.size).toList = d'.toList := by rw [hz0, ← hsz']; simp
    have e2 : (zs.toArray.extract 0 zs.toArray.size).toList = zs := by simp
    rw [e1, e2] at hperm
    exact hperm
  have hF : Frm (· = g) w (sortWorldK encP 2 w g 0 n d' os) := sortP_frm
  rcases ho.2 with ⟨hv, _⟩ | ⟨g', cap', cur, hv, h1, hg, h3, h4', h5, h6⟩
  · cases hv
  injection hv with hv1 _ hv2
  injection hv1 with hv1
  injection hv1 with hv1
  subst hv1 hv2
  have hcur : d'.size * 2 ≤ cur.size := by
    have := congrArg List.length h6
    rw [List.length_take, flatP_len] at this
    simp at this
    omega
  refine ⟨rfl, d'.toList, hperm', ?_, ⟨by rw [flatP_len]; simp [hsz'], .inr ⟨g, cap, _, rfl, h1, sortP_block hg, h3, h4', by simp [putCells]; omega, ?_⟩⟩, hF⟩
  · rw [List.pairwise_iff_getElem]
    intro i j hi hj hij
    simp only [Array.length_toList] at hi hj
    have h1 := hs i j (Nat.zero_le _) hij (by omega)
    rw [getElem!_pos d' i hi, getElem!_pos d' j hj] at h1
    simpa using h1
  · have := putP_take hcur
    rw [hsz'] at this
    simpa using this
end Go.Proofs.Ytldmjpnldgekaaa
end
