/- Plain facts of pairs that a check takes: both machines accept the same words, and the search for a difference finds none. small. AutoTrusts: the law's walk. AutoTrusts returns true whatever machines, pairs and words come in, and leaves them as they are. No condition. Contracts of the program's functions, with no condition beyond what each theorem states. -/
import Derived.Test.YtbgbkapomklalaaC03
import Derived.Test.YtbgbkapomklalaaC02
import Derived.Test.YtbgbkapomklalaaC07
import Derived.Test.YtbgbkapomklalaaRows
import Derived.WalkKit
import Derived.ProofKit
import Derived.OpenShut
import Derived.WideKeyArgs
section
namespace Go.Proofs.Ytbgbkapomklalaa.A
/-- The pairs are a relation that shows it. -/
structure Shown (a b : Mac) (l : List Pr) : Prop where
  two : Two a b
  va : valid a = 0
  vb : valid b = 0
  st : among l (a.start, b.start) = true
  ag : ∀ p, among l p = true → agree a b p = true
  ld : ∀ p, among l p = true → ∀ k : Int, 0 ≤ k → k < a.letters → among l (leadP a b p k) = true
  inn : ∀ p, among l p = true → InP a b p
theorem among_iff {l : List Pr} {p : Pr} : among l p = true ↔ p = (-1, -1) ∨ p ∈ l := by simp [among]
theorem Shown.of {a b : Mac} {l : List Pr} (h : check a b l = 0) : Shown a b l := by
  unfold check at h
  split at h
  · rename_i hf
    split at h
    · rename_i hr
      split at h
      · rename_i hs
        have hv : valid a = 0 ∧ valid b = 0 := by
          unfold fit at hf
          split at hf
          · assumption
          · cases hf
        unfold shows at hs
        rw [Bool.and_eq_true, List.all_eq_true] at hs
        obtain ⟨h1, h2⟩ := hs
        refine ⟨fit_two hf, hv.1, hv.2, h1, fun p hp => ?_, fun p hp k h0 hk => ?_, fun p hp => ?_⟩
        · rcases among_iff.1 hp with rfl | hp
          · rfl
          · have := h2 p hp
            rw [Bool.and_eq_true] at this
            exact this.1
        · rcases among_iff.1 hp with rfl | hp
          · exact among_iff.2 (.inl rfl)
          · have := h2 p hp
            rw [Bool.and_eq_true, List.all_eq_true] at this
            have := this.2 k.toNat (List.mem_range.2 (by omega))
            rwa [Int.toNat_of_nonneg h0] at this
        · rcases among_iff.1 hp with rfl | hp
          · exact ⟨⟨by decide, by dsimp only; omega⟩, by decide, by dsimp only; omega⟩
          · exact relFrom_in hr p hp
      · cases h
    · cases h
  · rename_i hf
    exact absurd h hf
theorem Shown.word {a b : Mac} {l : List Pr} (h : Shown a b l) : ∀ (w : List Int) (p : Pr), among l p = true → (match from_ a p.1 w with | none => false | some s => ends a s) = (match from_ b p.2 w with | none => false | some s => ends b s)
  | [], p, hp => by
    have := h.ag p hp
    simp only [agree, beq_iff_eq] at this
    exact this
  | k :: w, p, hp => by
    unfold from_
    rw [← h.two.ll]
    by_cases hk : 0 ≤ k ∧ k < a.letters
    · rw [if_pos hk, if_pos hk]
      exact h.word w (leadP a b p k) (h.ld p hp k hk.1 hk.2)
    · rw [if_neg hk, if_neg hk]
theorem Shown.accepts {a b : Mac} {l : List Pr} (h : Shown a b l) (w : List Int) : accepts a w = accepts b w := by
  unfold A.accepts
  rw [if_pos h.va, if_pos h.vb]
  exact h.word w (a.start, b.start) h.st
/-! ### The states that are joined -/
def roots (l : List Int) : Nat := (List.range l.length).countP fun i => decide (l.getD i 0 = (i : Int))
/-- J joins were made; r grows along the row. -/
structure Uf (l : List Int) (J : Nat) (r : Nat → Nat) : Prop where
  inn : ∀ i < l.length, 0 ≤ l.getD i 0 ∧ l.getD i 0 < l.length ∧ (l.getD i 0 ≠ i → r i < r (l.getD i 0).toNat)
  le : ∀ i, r i ≤ J
  sum : roots l + J = l.length
theorem getD_setI {l : List Int} {i j : Nat} {v d : Int} (h : i < l.length) : (l.set i v).getD j d = if i = j then v else l.getD j d := by
  simp only [List.getD_eq_getElem?_getD, List.getElem?_set, h, if_true]
  split <;> simp
theorem roots_congr {l l' : List Int} (hl : l'.length = l.length) (h : ∀ i < l.length, (l'.getD i 0 = (i : Int) ↔ l.getD i 0 = (i : Int))) : roots l' = roots l := by
  unfold roots
  rw [hl]
  apply List.countP_congr
  intro i hi
  simp only [decide_eq_true_eq]
  exact h i (List.mem_range.1 hi)
theorem Uf.short {l : List Int} {J : Nat} {r : Nat → Nat} (h : Uf l J r) {m : Nat} (hm : m < l.length) (hne : l.getD m 0 ≠ m) : Uf (l.set m (l.getD (l.getD m 0).toNat 0)) J r ∧ (∀ i, i < l.length → ((l.set m (l.getD (l.getD m 0).toNat 0)).getD i 0 = (i : Int) ↔ l.getD i 0 = (i : Int))) ∧ r m < r (l.getD (l.getD m 0).toNat 0).toNat ∧ 0 ≤ l.getD (l.getD m 0).toNat 0 ∧ l.getD (l.getD m 0).toNat 0 < l.length := by
  obtain ⟨h1, h2, h3⟩ := h.inn m hm
  have h3 := h3 hne
  obtain ⟨p, hp⟩ : ∃ p : Nat, l.getD m 0 = p := ⟨(l.getD m 0).toNat, by omega⟩
  rw [hp] at h2 h3 hne ⊢
  rw [Int.toNat_natCast] at h3 ⊢
  obtain ⟨h4, h5, h6⟩ := h.inn p (by omega)
  obtain ⟨g, hg⟩ : ∃ g : Nat, l.getD p 0 = g := ⟨(l.getD p 0).toNat, by omega⟩
  rw [hg] at h4 h5 h6 ⊢
  rw [Int.toNat_natCast] at h6 ⊢
  have h7 : r m < r g := by
    by_cases e : (g : Int) = p
    · have : g = p := by omega
      rw [this]; exact h3
    · exact Nat.lt_trans h3 (h6 e)
  have h8 : (g : Int) ≠ m := fun e => by
    have : g = m := by omega
    rw [this] at h7
    omega
  have hroot : ∀ i, i < l.length → ((l.set m (g : Int)).getD i 0 = (i : Int) ↔ l.getD i 0 = (i : Int)) := fun i hi => by
    rw [getD_setI hm]
    by_cases e : m = i
    · subst e
      rw [if_pos rfl, hp]
      exact ⟨fun h => absurd h h8, fun h => absurd h hne⟩
    · rw [if_neg e]
  refine ⟨⟨fun i hi => ?_, h.le, ?_⟩, hroot, h7, h4, h5⟩
  · rw [List.length_set] at hi ⊢
    rw [getD_setI hm]
    by_cases e : m = i
    · subst e
      rw [if_pos rfl]
      exact ⟨h4, h5, fun _ => by rw [Int.toNat_natCast]; exact h7⟩
    · rw [if_neg e]
      exact h.inn i hi
  · rw [List.length_set, roots_congr (by simp) hroot]
    exact h.sum
theorem endO_some {J : Nat} {r : Nat → Nat} : ∀ (f : Nat) (l : List Int) (m : Nat), Uf l J r → m < l.length → J < f + r m → ∃ (l' : List Int) (x : Nat), endO f l m = some (l', (x : Int)) ∧ Uf l' J r ∧ l'.length = l.length ∧ x < l.length ∧ l.getD x 0 = x ∧ ∀ i, i < l.length → (l'.getD i 0 = (i : Int) ↔ l.getD i 0 = (i : Int))
  | 0, l, m, h, hm, hf => by have := h.le m; omega
  | f + 1, l, m, h, hm, hf => by
    unfold endO
    rw [if_pos ⟨by omega, by omega⟩, Int.toNat_natCast]
    by_cases e : l.getD m 0 = m
    · rw [if_pos e]
      exact ⟨l, m, rfl, h, rfl, hm, e, fun _ _ => Iff.rfl⟩
    · rw [if_neg e]
      obtain ⟨h1, h2, _⟩ := h.inn m hm
      rw [if_pos ⟨h1, h2⟩]
      obtain ⟨h3, h4, h5, h6, h7⟩ := h.short hm e
      obtain ⟨g, hg⟩ : ∃ g : Nat, l.getD (l.getD m 0).toNat 0 = g := ⟨(l.getD (l.getD m 0).toNat 0).toNat, by omega⟩
      rw [hg] at h3 h4 h5 h7 ⊢
      rw [Int.toNat_natCast] at h5
      obtain ⟨l', x, e1, e2, e3, e4, e5, e6⟩ := endO_some f _ g h3 (by rw [List.length_set]; omega) (by omega)
      rw [List.length_set] at e3 e4 e6
      refine ⟨l', x, e1, e2, e3, e4, (h4 x e4).1 e5, fun i hi => (e6 i hi).trans (h4 i hi)⟩
theorem countP_less {p q : Nat → Bool} {x : Nat} (hp : p x = true) (hq : q x = false) (h : ∀ i, i ≠ x → p i = q i) : ∀ n, x < n → (List.range n).countP p = (List.range n).countP q + 1
  | 0, hn => absurd hn (by omega)
  | n + 1, hn => by
    rw [List.range_succ, List.countP_append, List.countP_append]
    by_cases e : n = x
    · subst e
      have : (List.range n).countP p = (List.range n).countP q := List.countP_congr fun i hi => by rw [h i (by have := List.mem_range.1 hi; omega)]
      simp [this, hp, hq]
    · have := countP_less hp hq h n (by omega)
      have h1 := h n e
      simp only [List.countP_cons, List.countP_nil, h1]
      omega
theorem joinO_some {a b : Mac} {l : List Int} {J f : Nat} {r : Nat → Nat} {p : Pr} (h : Uf l J r) (hl : l.length = 1 + a.next.length + b.next.length) (hp : InP a b p) (hf : J < f) :
    ∃ l' y, joinO f a.next.length l p = some (l', y) ∧ l'.length = l.length ∧ ∃ J' r', Uf l' J' r' ∧ J' = (if y then J + 1 else J) := by
  obtain ⟨⟨p1, p2⟩, p3, p4⟩ := hp
  unfold joinO
  obtain ⟨m, hm⟩ : ∃ m : Nat, 1 + p.1 = m := ⟨(1 + p.1).toNat, by omega⟩
  obtain ⟨m', hm'⟩ : ∃ m : Nat, other a.next.length p = m := ⟨(other a.next.length p).toNat, by unfold other; split <;> omega⟩
  have hb : m' < l.length := by
    have : other a.next.length p < (l.length : Int) := by unfold other; split <;> omega
    omega
  rw [hm, hm']
  obtain ⟨l1, x, e1, e2, e3, e4, e5, e6⟩ := endO_some f l m h (by omega) (by omega)
  obtain ⟨l2, y, d1, d2, d3, d4, d5, d6⟩ := endO_some f l1 m' e2 (by omega) (by omega)
  rw [e1]
  dsimp only
  rw [d1]
  dsimp only
  rw [Int.toNat_natCast]
  refine ⟨_, _, rfl, by rw [List.length_set, d3, e3], ?_⟩
  have hx : x < l2.length := by omega
  have hx2 : l2.getD x 0 = x := (d6 x (by omega)).2 ((e6 x e4).2 e5)
  have hy2 : l2.getD y 0 = y := (d6 y (by omega)).2 d5
  by_cases e : x = y
  · subst e
    refine ⟨J, r, ?_, by simp⟩
    have hset : ∀ i, (l2.set x (x : Int)).getD i 0 = l2.getD i 0 := fun i => by
      rw [getD_setI hx]
      by_cases e : x = i
      · rw [if_pos e, ← e, hx2]
      · rw [if_neg e]
    refine ⟨fun i hi => ?_, d2.le, ?_⟩
    · rw [List.length_set] at hi ⊢
      rw [hset]
      exact d2.inn i hi
    · rw [List.length_set, roots_congr (l := l2) (by simp) (fun i _ => by rw [hset])]
      exact d2.sum
  · have hne : (x : Int) ≠ y := by omega
    refine ⟨J + 1, fun i => if i = y then J + 1 else r i, ?_, by simp [hne]⟩
    refine ⟨fun i hi => ?_, fun i => ?_, ?_⟩
    · rw [List.length_set] at hi ⊢
      rw [getD_setI hx]
      by_cases e' : x = i
      · subst e'
        rw [if_pos rfl]
        refine ⟨by omega, by omega, fun _ => ?_⟩
        rw [Int.toNat_natCast, if_neg e, if_pos rfl]
        have := d2.le x
        omega
      · rw [if_neg e']
        obtain ⟨c1, c2, c3⟩ := d2.inn i hi
        refine ⟨c1, c2, fun hn => ?_⟩
        have c3 := c3 hn
        have hiy : i ≠ y := fun e'' => by subst e''; exact hn hy2
        rw [if_neg hiy]
        split
        · have := d2.le i; omega
        · exact c3
    · split
      · omega
      · have := d2.le i; omega
    · rw [List.length_set]
      have hs := d2.sum
      have hc : roots l2 = roots (l2.set x (y : Int)) + 1 := by
        unfold roots
        rw [List.length_set]
        refine countP_less (x := x) ?_ ?_ (fun i hi => ?_) _ hx
        · simpa using hx2
        · rw [getD_setI hx, if_pos rfl]
          simpa using fun h => hne h.symm
        · rw [getD_setI hx, if_neg (Ne.symm hi)]
      omega
theorem innerO_some {a b : Mac} {l : List Pr} (h : Shown a b l) {f : Nat} {at_ : Int} {p : Pr} (hp : among l p = true) : ∀ (ks : List Nat) (j : List Int) (ts : List Tr) (J : Nat) (r : Nat → Nat), (∀ k ∈ ks, (k : Int) < a.letters) → Uf j J r → j.length = 1 + a.next.length + b.next.length → j.length < f → (∀ t ∈ ts, among l t.p = true) →
    ∃ j' ts' J' r', innerO f a b at_ p ks j ts = some (j', ts', none) ∧ Uf j' J' r' ∧ j'.length = j.length ∧ (∀ t ∈ ts', among l t.p = true) ∧ ts'.length + J = ts.length + J'
  | [], j, ts, J, r, hk, hu, hl, hf, ht => ⟨j, ts, J, r, rfl, hu, rfl, ht, rfl⟩
  | k :: ks, j, ts, J, r, hk, hu, hl, hf, ht => by
    have hkk := hk k List.mem_cons_self
    have hq := h.ld p hp k (by omega) hkk
    obtain ⟨j1, y, e1, e2, J1, r1, e3, e4⟩ := joinO_some (f := f) hu hl (h.inn _ hq) (by have := hu.sum; omega)
    unfold innerO
    rw [e1]
    rcases y with _ | _
    · dsimp only
      obtain ⟨j', ts', J', r', d1, d2, d3, d4, d5⟩ := innerO_some h (f := f) (at_ := at_) hp ks j1 ts J1 r1 (fun k hk' => hk k (List.mem_cons_of_mem _ hk')) e3 (by omega) (by omega) ht
      exact ⟨j', ts', J', r', d1, d2, by omega, d4, by simp at e4; omega⟩
    · dsimp only
      rw [if_pos (h.ag _ hq)]
      obtain ⟨j', ts', J', r', d1, d2, d3, d4, d5⟩ := innerO_some h (f := f) (at_ := at_) hp ks j1 (ts ++ [⟨leadP a b p k, at_, k⟩]) J1 r1 (fun k hk' => hk k (List.mem_cons_of_mem _ hk')) e3 (by omega) (by omega) (fun t ht' => by
        rcases List.mem_append.1 ht' with h' | h'
        · exact ht t h'
        · rw [List.mem_singleton.1 h']; exact hq)
      refine ⟨j', ts', J', r', d1, d2, by omega, d4, ?_⟩
      simp at e4 d5
      omega
theorem outerO_none {a b : Mac} {l : List Pr} (h : Shown a b l) {f : Nat} : ∀ (fuel at_ : Nat) (j : List Int) (ts : List Tr) (J : Nat) (r : Nat → Nat), Uf j J r → j.length = 1 + a.next.length + b.next.length → j.length < f → (∀ t ∈ ts, among l t.p = true) → ts.length ≤ J + 1 → j.length + 1 ≤ fuel + at_ → outerO f a b fuel at_ j ts = some none
  | 0, at_, j, ts, J, r, hu, hl, hf, ht, hJ, hg => by
    have := hu.sum
    unfold outerO
    rw [dif_neg (by omega)]
  | fuel + 1, at_, j, ts, J, r, hu, hl, hf, ht, hJ, hg => by
    unfold outerO
    split
    · rename_i hat
      dsimp only
      obtain ⟨j', ts', J', r', e1, e2, e3, e4, e5⟩ := innerO_some h (f := f) (at_ := at_) (ht _ (List.getElem_mem hat)) (List.range a.letters.toNat) j ts J r (fun k hk => by have := List.mem_range.1 hk; omega) hu hl hf ht
      rw [e1]
      exact outerO_none h fuel (at_ + 1) j' ts' J' r' e2 (by omega) (by omega) e4 (by omega) (by omega)
    · rfl
theorem upTo_get {n i : Nat} (hi : i < n) : (upTo n n).getD i 0 = i := by
  simp [upTo, hi]
theorem uf0 (n : Nat) : Uf (upTo n n) 0 fun _ => 0 := by
  have hl : (upTo n n).length = n := by simp [upTo]
  refine ⟨fun i hi => ?_, fun _ => Nat.le_refl _, ?_⟩
  · rw [hl] at hi ⊢
    rw [upTo_get hi]
    exact ⟨by omega, by omega, fun h => absurd rfl h⟩
  · unfold roots
    rw [hl]
    have : (List.range n).countP (fun i => decide ((upTo n n).getD i 0 = (i : Int))) = (List.range n).length := List.countP_eq_length.2 fun i hi => by simpa using upTo_get (List.mem_range.1 hi)
    rw [this]
    simp
theorem Shown.diff {a b : Mac} {l : List Pr} (h : Shown a b l) {f : Nat} (hf : 3 + a.next.length + b.next.length ≤ f) : diffO f a b = some none := by
  unfold diffO
  rw [if_pos (h.ag _ h.st)]
  have hl : (upTo (1 + a.next.length + b.next.length) (1 + a.next.length + b.next.length)).length = 1 + a.next.length + b.next.length := by simp [upTo]
  obtain ⟨j, y, e1, e2, J, r, e3, e4⟩ := joinO_some (f := f) (uf0 _) hl (h.inn _ h.st) (by omega)
  rw [e1]
  dsimp only
  rw [outerO_none h f 0 j _ J r e3 (by omega) (by omega) (fun t ht => by rw [List.mem_singleton.1 ht]; exact h.st) (by simp) (by omega)]
end Go.Proofs.Ytbgbkapomklalaa.A
namespace Go.Proofs.Ytbgbkapomklalaa.A
theorem Shown.fit {a b : Mac} {l : List Pr} (h : Shown a b l) : fit a b = 0 := by
  unfold A.fit
  rw [if_pos ⟨h.va, h.vb⟩, if_pos h.two.ll]
end Go.Proofs.Ytbgbkapomklalaa.A
end
section
namespace Go.Proofs.Ytbgbkapomklalaa
open Go.RowKit
namespace A
def small (m : Mac) : Bool := decide (m.next.length ≤ 30) && decide (m.fin.length ≤ 40) && decide (m.letters ≤ 8)
end A
set_option maxRecDepth 100000 in
set_option maxHeartbeats 4000000 in
theorem small_any {w : World} {P : Nat → Prop} {v : Value} {m : A.Mac} (h : MachAt w P v m) (hs : Sized m) : Calls Try.prog 11 #[v] w fun e w' => e = .returned (.bool (A.small m)) ∧ Frm (fun _ => False) w w' := by
  obtain ⟨A1, c1, A2, c2, rfl⟩ := h.form
  obtain ⟨s1, s2, _⟩ := hs
  obtain ⟨lt, st, nx, fn⟩ := m
  simp only at *
  unfold maxLen at s1 s2
  have bx := Blk.new w 25 #[.int .i64 lt, .int .i64 st, .slice A1 nx.length c1, .slice A2 fn.length c2]
  have x0 := bx.cell 0
  have x1 := bx.cell 1
  have x2 := bx.cell 2
  have x3 := bx.cell 3
  have F0 : Hid (Frm (fun _ => False) w (w.alloc (.cells #[.int .i64 lt, .int .i64 st, .slice A1 nx.length c1, .slice A2 fn.length c2] 25))) := (Frm.refl _ w).alloc _
  clear bx h
  have HX : Hid (A.small ⟨lt, st, nx, fn⟩ = (decide (nx.length ≤ 30) && decide (fn.length ≤ 40) && decide (lt ≤ 8))) := rfl
  by_cases a1 : nx.length ≤ 30
  · by_cases a2 : fn.length ≤ 40
    · by_cases a3 : lt ≤ 8
      · go_enter Try.func11, Try.ntmps11
        go_wp2_with fail
        go_ret
        exact ⟨ret_bool (by rw [HX.out]; simp [a1, a2, a3]), F0.out⟩
      · go_enter Try.func11, Try.ntmps11
        go_wp2_with fail
        go_ret
        exact ⟨ret_bool (by rw [HX.out]; simp [a1, a2, a3]), F0.out⟩
    · go_enter Try.func11, Try.ntmps11
      go_wp2_with fail
      go_ret
      exact ⟨ret_bool (by rw [HX.out]; simp [a1, a2]), F0.out⟩
  · go_enter Try.func11, Try.ntmps11
    go_wp2_with fail
    go_ret
    exact ⟨ret_bool (by rw [HX.out]; simp [a1]), F0.out⟩
end Go.Proofs.Ytbgbkapomklalaa
end
section
namespace Go.Proofs.Ytbgbkapomklalaa
open Go.RowKit
set_option maxRecDepth 100000 in
set_option maxHeartbeats 16000000 in
theorem trusts_any {w : World} {P Q R S : Nat → Prop} {va vb vp vw : Value} {a b : A.Mac} {l : List A.Pr} {ws : List (List Int)} (ha : MachAt w P va a) (hb : MachAt w Q vb b) (hl : Prs2 w R vp l) (hw : Rows2 w S vw ws) (sa : Sized a) (sb : Sized b) (sl : l.length ≤ maxLen) (sw : ws.length ≤ maxLen) (sr : ∀ r ∈ ws, r.length ≤ maxLen) :
    Calls Try.prog 4 #[va, vb, vp, vw] w fun e w' => e = .returned (.bool true) ∧ Frm (fun _ => False) w w' := by
  obtain ⟨A1, c1, A2, c2, rfl⟩ := ha.form
  obtain ⟨B1, d1, B2, d2, rfl⟩ := hb.form
  obtain ⟨AL, cl, rfl, hL⟩ := id hl
  obtain ⟨AW, cw, rfl, hW⟩ := id hw
  have HWE := Lib.hid hW
  have HF0 : Hid (Bx w _ (macC a A1 c1 A2 c2) (macC b B1 d1 B2 d2)) := Bx.new w _ _
  have HM := Lib.hid ha
  have HM' := Lib.hid hb
  have HL := Lib.hid hl
  have HW := Lib.hid hw
  have HS := Lib.hid sa
  have HS' := Lib.hid sb
  have HLL := Lib.hid sl
  have HSW := Lib.hid sw
  have HSR := Lib.hid sr
  clear ha hb hl hw sa sb sl sw sr hL hW
  have e0 := HF0.out.ba.cell 0
  have e1 := HF0.out.ba.cell 1
  have e2 := HF0.out.ba.cell 2
  have e3 := HF0.out.ba.cell 3
  have g0 := HF0.out.bb.cell 0
  have g1 := HF0.out.bb.cell 1
  have g2 := HF0.out.bb.cell 2
  have g3 := HF0.out.bb.cell 3
  simp only [macC] at e0 e1 e2 e3 g0 g1 g2 g3
  go_enter Try.func4, Try.ntmps4
  go_wp2_with fail
  clear e0 e1 e2 e3 g0 g1 g2 g3
  refine (small_any (HM.out.keep0 HF0.out.fr) HS.out).mono ?_
  rintro _ w1 ⟨rfl, f1⟩
  have HF1 := Lib.hid (HF0.out.call f1)
  clear f1 HF0
  rcases hsa : A.small a with _ | _
  · have HX := Lib.hid hsa
    clear hsa
    go_wp2_with fail
    refine (awake_any _).mono ?_
    rintro _ w2 ⟨rfl, f2⟩
    have HF2 := Lib.hid (HF1.out.call f2)
    clear f2 HF1
    go_wp2_with fail
    go_ret
    exact ⟨rfl, HF2.out.fr⟩
  have HX := Lib.hid hsa
  clear hsa
  have e0 := HF1.out.bb.cell 0
  have e1 := HF1.out.bb.cell 1
  have e2 := HF1.out.bb.cell 2
  have e3 := HF1.out.bb.cell 3
  simp only [macC] at e0 e1 e2 e3
  go_wp2_with fail
  clear e0 e1 e2 e3
  refine (small_any (HM'.out.keep0 HF1.out.fr) HS'.out).mono ?_
  rintro _ w2 ⟨rfl, f2⟩
  have HF2 := Lib.hid (HF1.out.call f2)
  clear f2 HF1
  rcases hsb : A.small b with _ | _
  · have HX' := Lib.hid hsb
    clear hsb
    go_wp2_with fail
    refine (awake_any _).mono ?_
    rintro _ w3 ⟨rfl, f3⟩
    have HF3 := Lib.hid (HF2.out.call f3)
    clear f3 HF2
    go_wp2_with fail
    go_ret
    exact ⟨rfl, HF3.out.fr⟩
  have HX' := Lib.hid hsb
  clear hsb
  have hlm := HLL.out
  unfold maxLen at hlm
  by_cases hll : l.length ≤ 1000
  case neg =>
    go_wp2_with fail
    refine (awake_any _).mono ?_
    rintro _ w3 ⟨rfl, f3⟩
    have HF3 := Lib.hid (HF2.out.call f3)
    clear f3 HF2
    go_wp2_with fail
    go_ret
    exact ⟨rfl, HF3.out.fr⟩
  have e0 := HF2.out.ba.cell 0
  have e1 := HF2.out.ba.cell 1
  have e2 := HF2.out.ba.cell 2
  have e3 := HF2.out.ba.cell 3
  have g0 := HF2.out.bb.cell 0
  have g1 := HF2.out.bb.cell 1
  have g2 := HF2.out.bb.cell 2
  have g3 := HF2.out.bb.cell 3
  simp only [macC] at e0 e1 e2 e3 g0 g1 g2 g3
  go_wp2_with fail
  clear e0 e1 e2 e3 g0 g1 g2 g3
  refine (check_any (HM.out.keep0 HF2.out.fr) (HM'.out.keep0 HF2.out.fr) (HL.out.keep HF2.out.fr fun _ _ => id) HS.out HS'.out HLL.out).mono ?_
  rintro _ w3 ⟨rfl, f3⟩
  have HF3 := Lib.hid (HF2.out.call f3)
  clear f3 HF2
  have HSH : Hid (A.check a b l = 0 → A.Shown a b l) := A.Shown.of
  generalize A.check a b l = ck at *
  by_cases hc : ck = 0
  case neg =>
    have hck : (ck != 0) = true := by simp [hc]
    have HC := Lib.hid hc
    clear hc
    go_wp2_with fail
    refine (awake_any _).mono ?_
    rintro _ w4 ⟨rfl, f4⟩
    have HF4 := Lib.hid (HF3.out.call f4)
    clear f4 HF3
    go_wp2_with fail
    go_ret
    exact ⟨rfl, HF4.out.fr⟩
  subst hc
  have HSN := Lib.hid (HSH.out rfl)
  clear HSH
  have e0 := HF3.out.ba.cell 0
  have e1 := HF3.out.ba.cell 1
  have e2 := HF3.out.ba.cell 2
  have e3 := HF3.out.ba.cell 3
  have g0 := HF3.out.bb.cell 0
  have g1 := HF3.out.bb.cell 1
  have g2 := HF3.out.bb.cell 2
  have g3 := HF3.out.bb.cell 3
  simp only [macC] at e0 e1 e2 e3 g0 g1 g2 g3
  go_wp2_with fail
  clear e0 e1 e2 e3 g0 g1 g2 g3
  refine (differ_any (f := 9000) (r := none) (HM.out.keep0 HF3.out.fr) (HM'.out.keep0 HF3.out.fr) HS.out HS'.out (fun _ => ⟨HSN.out.diff (by have := HSN.out.two.na; have := HSN.out.two.nb; omega), fun _ _ h => by cases h⟩) (by decide)).mono ?_
  rintro e w4 ⟨f4, hd⟩
  rw [if_pos HSN.out.fit] at hd
  dsimp only at hd
  subst hd
  have HF4 := Lib.hid (HF3.out.call f4)
  clear f4 HF3
  go_wp2_with fail
  go_loopg [12] (ws.length + 1) (fun n i wr => ∃ k : Nat, k ≤ ws.length ∧ n = ws.length + 1 - k ∧ i = .int .i64 (k : Int) ∧ Hid (Bx w wr (macC a A1 c1 A2 c2) (macC b B1 d1 B2 d2)))
  case atStart => exact ⟨0, Nat.zero_le _, rfl, rfl, by first | exact HF4 | exact HF4.out.drew⟩
  case round =>
    obtain ⟨k, hk, rfl, rfl, HF⟩ := hrel
    have hsw := HSW.out
    unfold maxLen at hsw
    by_cases hlt : k < ws.length
    · have hlt' : (k : Int) < (ws.length : Int) := by omega
      go_wp2_with fail
      obtain ⟨g, o, rv, rfl, _, hcw, hin⟩ := HWE.out k hlt
      have hcw := HF.out.fr.cell id hcw
      have HIN := Lib.hid hin
      have HLW := Lib.hid (HSR.out _ (List.getElem_mem hlt))
      clear hin
      refine wp_region_list [49, 50, 51, 52, 53, 54, 55, 56, 57, 58, 59, 60, 61] [vV (.agg #[.int .i64 a.letters, .int .i64 a.start, .slice A1 a.next.length c1, .slice A2 a.fin.length c2]), vV (.slice (some ⟨g, o, none⟩) ws.length cw), vV (.int .i64 (k : Int)), vV (.pointer (some ⟨g, o + k, none⟩)), vV rv, vV (.bool (A.accepts a ws[k])), vV (.agg #[.int .i64 b.letters, .int .i64 b.start, .slice B1 b.next.length d1, .slice B2 b.fin.length d2]), vV (.slice (some ⟨g, o, none⟩) ws.length cw), vV (.int .i64 (k : Int)), vV (.pointer (some ⟨g, o + k, none⟩)), vV rv, vV (.bool (A.accepts a ws[k])), vV (.bool false)] (Frm (fun _ => False)) [] [(4, .pointer (some ⟨w.heap.size, 0, none⟩)), (5, .pointer (some ⟨w.heap.size + 1, 0, none⟩)), (3, .slice (some ⟨g, o, none⟩) ws.length cw), (12, .int .i64 (k : Int))] (by kernel_rfl) (by kernel_rfl) (fun _ _ _ => Frm.trans) ?_ (fun _ h => by cases h) (Frm.refl _ _).drew ?_ ?_ ?_
      · intro f hf v w w' h F
        simp only [List.mem_cons, List.not_mem_nil, or_false] at hf
        rcases hf with rfl | rfl | rfl | rfl | rfl | rfl | rfl | rfl | rfl | rfl | rfl | rfl | rfl <;> exact h
      · intro x hx
        simp only [List.mem_cons, List.not_mem_nil, or_false] at hx
        rcases hx with rfl | rfl | rfl | rfl <;> exact ⟨by simp, rfl⟩
      · refine ⟨?_, ?_, ?_, ?_, ?_, ?_, ?_, ?_, ?_, ?_, ?_, ?_, ?_, trivial⟩
        · intro Q tm df V hR hu hd
          have u1 : tm[4]?.getD undef = .pointer (some ⟨w.heap.size, 0, none⟩) := hu (4, _) (by simp)
          have hb := hR.blk HF.out.ba id
          have y0 := hb.cell 0
          have y1 := hb.cell 1
          have y2 := hb.cell 2
          have y3 := hb.cell 3
          simp only [macC] at y0 y1 y2 y3
          clear hu hd hb
          go_simp
          exact ⟨_, rfl, rfl, Frm.refl _ V⟩
        · intro Q tm df V hR hu hd
          have u1 : tm[3]?.getD undef = .slice (some ⟨g, o, none⟩) ws.length cw := hu (3, _) (by simp)
          clear hu hd
          go_simp
          exact ⟨_, rfl, rfl, Frm.refl _ V⟩
        · intro Q tm df V hR hu hd
          have u1 : tm[12]?.getD undef = .int .i64 (k : Int) := hu (12, _) (by simp)
          clear hu hd
          go_simp
          exact ⟨_, rfl, rfl, Frm.refl _ V⟩
        · intro Q tm df V hR hu hd
          have e0 : tm[50]?.getD undef = .slice (some ⟨g, o, none⟩) ws.length cw := hd 1 (by simp)
          have e1 : tm[51]?.getD undef = .int .i64 (k : Int) := hd 2 (by simp)
          clear hu hd
          go_simp
          exact ⟨_, rfl, rfl, Frm.refl _ V⟩
        · intro Q tm df V hR hu hd
          have e0 : tm[52]?.getD undef = .pointer (some ⟨g, o + k, none⟩) := hd 3 (by simp)
          have y0 := hR.cell id hcw
          clear hu hd
          go_simp
          exact ⟨_, rfl, rfl, Frm.refl _ V⟩
        · intro Q tm df V hR hu hd
          have e0 : tm[49]?.getD undef = .agg #[.int .i64 a.letters, .int .i64 a.start, .slice A1 a.next.length c1, .slice A2 a.fin.length c2] := hd 0 (by simp)
          have e1 : tm[53]?.getD undef = rv := hd 4 (by simp)
          clear hu hd
          go_simp
          refine (accepts_any (HM.out.keep0 (HF.out.fr.trans hR)) HS.out (HIN.out.keep (HF.out.fr.trans hR) fun _ _ => id) HLW.out).mono ?_
          rintro e w' ⟨rfl, f⟩
          exact ⟨_, rfl, rfl, f⟩
        · intro Q tm df V hR hu hd
          have u1 : tm[5]?.getD undef = .pointer (some ⟨w.heap.size + 1, 0, none⟩) := hu (5, _) (by simp)
          have hb := hR.blk HF.out.bb id
          have y0 := hb.cell 0
          have y1 := hb.cell 1
          have y2 := hb.cell 2
          have y3 := hb.cell 3
          simp only [macC] at y0 y1 y2 y3
          clear hu hd hb
          go_simp
          exact ⟨_, rfl, rfl, Frm.refl _ V⟩
        · intro Q tm df V hR hu hd
          have u1 : tm[3]?.getD undef = .slice (some ⟨g, o, none⟩) ws.length cw := hu (3, _) (by simp)
          clear hu hd
          go_simp
          exact ⟨_, rfl, rfl, Frm.refl _ V⟩
        · intro Q tm df V hR hu hd
          have u1 : tm[12]?.getD undef = .int .i64 (k : Int) := hu (12, _) (by simp)
          clear hu hd
          go_simp
          exact ⟨_, rfl, rfl, Frm.refl _ V⟩
        · intro Q tm df V hR hu hd
          have e0 : tm[56]?.getD undef = .slice (some ⟨g, o, none⟩) ws.length cw := hd 7 (by simp)
          have e1 : tm[57]?.getD undef = .int .i64 (k : Int) := hd 8 (by simp)
          clear hu hd
          go_simp
          exact ⟨_, rfl, rfl, Frm.refl _ V⟩
        · intro Q tm df V hR hu hd
          have e0 : tm[58]?.getD undef = .pointer (some ⟨g, o + k, none⟩) := hd 9 (by simp)
          have y0 := hR.cell id hcw
          clear hu hd
          go_simp
          exact ⟨_, rfl, rfl, Frm.refl _ V⟩
        · intro Q tm df V hR hu hd
          have e0 : tm[55]?.getD undef = .agg #[.int .i64 b.letters, .int .i64 b.start, .slice B1 b.next.length d1, .slice B2 b.fin.length d2] := hd 6 (by simp)
          have e1 : tm[59]?.getD undef = rv := hd 10 (by simp)
          clear hu hd
          go_simp
          refine (accepts_any (HM'.out.keep0 (HF.out.fr.trans hR)) HS'.out (HIN.out.keep (HF.out.fr.trans hR) fun _ _ => id) HLW.out).mono ?_
          rintro e w' ⟨rfl, f⟩
          rw [← HSN.out.accepts]
          exact ⟨_, rfl, rfl, f⟩
        · intro Q tm df V hR hu hd
          have e0 : tm[54]?.getD undef = .bool (A.accepts a ws[k]) := hd 5 (by simp)
          have e1 : tm[60]?.getD undef = .bool (A.accepts a ws[k]) := hd 11 (by simp)
          clear hu hd
          go_simp
          exact ⟨_, rfl, by simp [vV], Frm.refl _ V⟩
      · intro vs V hR hf
        have e12 : vs 12 = .bool false := hf 12 (by decide)
        clear hf
        simp only [putAll, List.size_toArray, List.length_cons, List.length_nil, Nat.zero_add, Nat.reduceAdd, show List.range 13 = [0, 1, 2, 3, 4, 5, 6, 7, 8, 9, 10, 11, 12] from rfl, List.foldl_cons, List.foldl_nil, List.getD_cons_zero, List.getD_cons_succ, List.setIfInBounds_toArray, List.set_cons_zero, List.set_cons_succ, e12]
        go_wp2_with fail
        go_roundg (ws.length + 1 - (k + 1))
        case measure => omega
        case rel => exact ⟨k + 1, by omega, rfl, by go_num, Lib.hid (HF.out.call hR)⟩
    · have hlt' : ¬ (k : Int) < (ws.length : Int) := by omega
      go_wp2_with fail
      refine (awake_any _).mono ?_
      rintro _ w5 ⟨rfl, f5⟩
      have HF5 := Lib.hid (HF.out.call f5)
      clear f5
      go_wp2_with fail
      go_ret
      exact ⟨rfl, HF5.out.fr⟩
end Go.Proofs.Ytbgbkapomklalaa
end
section
namespace Go.Proofs.Ytbgbkapomklalaa.TrustsP
open Go.ChangeShapes Go.WideShapes Go.ChangeAt Go.RowKit
theorem own : ownKnob Try.prog.godebug = none := by kernel_rfl
theorem laidOut : laidOutB Try.prog = true := by kernel_rfl
theorem kept {w w' : World} (h : Frm (fun _ => False) w w') (may : MemPlace → Prop) : w.keptBut w' may := by
  refine ⟨h.3.1, h.3.2, fun i hi => ?_⟩
  rw [h.2 i hi id]
  split <;> simp_all
/-- An argument reads behind the call as it did. -/
theorem stays {H : Type} {enc : TypeId × Value → H} {t : TypeId} (hr : Try.prog.readableRec t = true) (hrow : t < Try.prog.types.size) {W W' : World} {v : Value} {d : DataW H} {ps : List MemPlace}
    (h : DataW.Trod enc Try.prog W 0 (fun _ => true) true t v d ps) (F : Frm (fun _ => False) W W') (hlt : ∀ x ∈ ps, x.block < W.heap.size) : DataW.Trod enc Try.prog W' 0 (fun b => decide (b < W.heap.size)) true t v d ps :=
  WideElems.Trod_stays laidOut hr hrow h (fun x hx => by
    have h1 := F.2 x.block (hlt x hx) id
    cases x with
    | cell b off => exact World.cell?_of_block (w := W) (w' := W') (a := ⟨b, off, none⟩) h1
    | map b => exact h1) fun x hx => by simpa using hlt x hx
set_option maxRecDepth 100000 in
theorem lifted (os : Os) (started : os.Started) (H : Type) (enc : TypeId × Value → H) :
    ReturnsInHanded {} Try.checked os 4 .any (Rows.autoTrustsSpec.pre6 enc Try.prog Try.f4 Rows.autoTrustsRow.domain false) (Rows.autoTrustsSpec.post enc Try.prog Try.f4 false true false false) := by
  refine returnsInHanded_of_change (C := Try.checked) own started (by kernel_rfl) Try.func4
    (ChangeSpec.witness6 (enc := enc) (C := Try.checked) false ⟨#[], #[.agg #[.int .i64 0, .int .i64 0, .slice none 0 0, .slice none 0 0], .agg #[.int .i64 0, .int .i64 0, .slice none 0 0, .slice none 0 0], .slice none 0 0, .slice none 0 0], []⟩ 8 (by kernel_rfl) (by kernel_rfl) (by kernel_rfl) (by kernel_rfl)) ?_
  intro W base args ds gs before hval0 hW hcnd _
  have hval : ∀ (j : Nat) t v, Try.f4.params[j]? = some t → args[j]? = some v → Value.okWide Try.prog W .any base t v := hval0
  have hW' := hW
  obtain ⟨p, q, hA0, hV, rfl, hfz, hnd⟩ := hW
  have hA : DataW.TrodAll enc Try.prog W 0 (fun _ => true) true Try.f4.params.toList args.toList ds p := hA0
  rw [Try.params4] at hA hval
  obtain ⟨v0, vs0, d0, ds0, p0, q0, hargs, rfl, rfl, h0, r0⟩ := trodAll_cons hA
  obtain ⟨v1, vs1, d1, ds1, p1, q1, rfl, rfl, rfl, h1, r1⟩ := trodAll_cons r0
  obtain ⟨v2, vs2, d2, ds2, p2, q2, rfl, rfl, rfl, h2, r2⟩ := trodAll_cons r1
  obtain ⟨v3, vs3, d3, ds3, p3, q3, rfl, rfl, rfl, h3, r3⟩ := trodAll_cons r2
  obtain ⟨rfl, rfl, rfl⟩ := trodAll_nil r3
  obtain rfl : args = #[v0, v1, v2, v3] := by cases args; simp_all
  obtain ⟨rfl, rfl⟩ := trodVars_none hV
  clear hA0 hval0
  simp only [List.append_nil] at hW'
  have hlt : ∀ x ∈ p0 ++ (p1 ++ (p2 ++ p3)), x.block < W.heap.size := fun x hx => hW'.lt x (by simpa using hx)
  obtain ⟨a, ma, sa, _⟩ := mach_of (hval 0 25 v0 rfl rfl) h0
  obtain ⟨b, mb, sb, _⟩ := mach_of (hval 1 25 v1 rfl rfl) h1
  obtain ⟨l, hl, sl⟩ : ∃ l, Prs2 W (fun _ => True) v2 l ∧ l.length ≤ maxLen := by
    obtain ⟨A2, n2, c2, rfl⟩ := okWide_slice Try.underlying32 (hval 2 32 v2 rfl rfl)
    obtain ⟨f2, hf2⟩ := h2
    exact pairs_of hf2
  obtain ⟨ws, hw, sw, sr⟩ : ∃ l, Rows2 W (fun _ => True) v3 l ∧ l.length ≤ maxLen ∧ ∀ r ∈ l, r.length ≤ maxLen := by
    obtain ⟨A3, n3, c3, rfl⟩ := okWide_slice Try.underlying22 (hval 3 22 v3 rfl rfl)
    obtain ⟨f3, hf3⟩ := h3
    exact rows_of hf3
  refine (trusts_any ma mb hl hw sa sb sl sw sr).mono fun e W' ⟨he, F⟩ => ?_
  subst he
  exact ⟨_, rfl, _, _, _, _, _, _, hW', trodAll_cons_mk (shut_bool Try.underlying4 _) trodAll_mk0, trodAll_cons_mk (stays (by kernel_rfl) (of_decide_eq_true (by kernel_rfl)) h0 F fun x hx => hlt x (by simp [hx])) (trodAll_cons_mk (stays (by kernel_rfl) (of_decide_eq_true (by kernel_rfl)) h1 F fun x hx => hlt x (by simp [hx])) (trodAll_cons_mk (stays (by kernel_rfl) (of_decide_eq_true (by kernel_rfl)) h2 F fun x hx => hlt x (by simp [hx])) (trodAll_cons_mk (stays (by kernel_rfl) (of_decide_eq_true (by kernel_rfl)) h3 F fun x hx => hlt x (by simp [hx])) trodAll_mk0))), rfl, kept F _, fun h => by cases h⟩
theorem proved : Rows.AutoTrustsSaid :=
  OpenClaim.holds_of_wide 4 Try.f4 rfl rfl rfl rfl rfl rfl rfl ⟨rfl, rfl, rfl, rfl, rfl⟩ rfl rfl rfl rfl rfl (by kernel_rfl) Try.func4 (by kernel_rfl)
    (of_decide_eq_true (by kernel_rfl)) (by unfold Func.isWrapper; first | (rw [if_pos (by decide +kernel)]; kernel_rfl) | (rw [if_neg (by decide +kernel)]; exact ⟨rfl, rfl⟩))
    (fun os started H enc _ => lifted os started H enc)
end Go.Proofs.Ytbgbkapomklalaa.TrustsP
namespace Go.Proofs.Ytbgbkapomklalaa
/-- AutoTrusts. -/
theorem autoTrusts_holds : Rows.AutoTrustsSaid := TrustsP.proved
end Go.Proofs.Ytbgbkapomklalaa
end
