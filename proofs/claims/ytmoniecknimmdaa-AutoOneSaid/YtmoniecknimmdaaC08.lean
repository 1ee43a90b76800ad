/- The partition told by plain functions; marking; plain. Splitting a class; plain. Dividing by a set of states: touch, splits, divideO; plain. The sources of a class, letter by letter; plain. Hopcroft's partition: one letter of a class; plain. Hopcroft's partition: it ends, and its classes are the states that no word tells apart; plain. Hopcroft's partition: it ends; plain. The first partition: by ends; plain. The first partition: by ends; its rounds; plain. The classes at the end: two states are in one class just when no word tells them apart; plain. What a search finds, in which order, and its rows; plain. The machine that a search comes to; plain. auto's least machine: leastO gives an answer with fuel n, and it is the least one; plain. Contracts of the program's functions, with no condition beyond what each theorem states. -/
import Derived.Test.YtmoniecknimmdaaC07
import Derived.Test.YtmoniecknimmdaaC05
import Derived.Test.YtmoniecknimmdaaC01
section
namespace Go.Proofs.Ytmoniecknimmdaa.A
/-- What the rows of a partition hold, as numbers: row, place, class, begin, end, marked. -/
structure Gh where
  r : Nat → Nat
  p : Nat → Nat
  c : Nat → Nat
  b : Nat → Nat
  e : Nat → Nat
  m : Nat → Nat
/-- A partition of the states that are in A (of n), of which those in M are marked. -/
structure Part (n N K : Nat) (A M : Nat → Prop) (g : Gh) (d : Pd) : Prop where
  rl : d.row.length = N
  pl : d.place.length = n
  cl : d.cls.length = n
  bl : d.beg.length = K
  fl : d.fin.length = K
  ml : d.mkd.length = K
  er : ∀ i, i < N → d.row.getD i 0 = (g.r i : Int)
  ep : ∀ s, s < n → A s → d.place.getD s 0 = (g.p s : Int)
  ec : ∀ s, s < n → A s → d.cls.getD s 0 = (g.c s : Int)
  ed : ∀ s, s < n → ¬ A s → d.cls.getD s 0 = -1
  eb : ∀ k, k < K → d.beg.getD k 0 = (g.b k : Int)
  ef : ∀ k, k < K → d.fin.getD k 0 = (g.e k : Int)
  em : ∀ k, k < K → d.mkd.getD k 0 = (g.m k : Int)
  rp : ∀ i, i < N → g.r i < n ∧ A (g.r i) ∧ g.p (g.r i) = i
  pr : ∀ s, s < n → A s → g.p s < N ∧ g.r (g.p s) = s ∧ g.c s < K
  be : ∀ k, k < K → g.b k < g.e k ∧ g.e k ≤ N ∧ g.b k + g.m k ≤ g.e k
  io : ∀ s, s < n → A s → ∀ k, k < K → (g.c s = k ↔ g.b k ≤ g.p s ∧ g.p s < g.e k)
  mm : ∀ s, s < n → A s → (M s ↔ g.p s < g.b (g.c s) + g.m (g.c s))
theorem getD_setH {l : List Int} {i j : Nat} {x : Int} (hi : i < l.length) : (l.set i x).getD j 0 = if i = j then x else l.getD j 0 := by
  simp only [List.getD_eq_getElem?_getD, List.getElem?_set, hi, if_true]
  split <;> simp
theorem natO_is {l : List Int} {i n : Nat} (hi : i < l.length) (h : l.getD i 0 = (n : Int)) : natO l i = some n := by
  unfold natO
  rw [if_pos ⟨hi, by omega⟩, h]
  simp
/-- The numbers behind a mark. -/
def Gh.mark (g : Gh) (s : Nat) : Gh :=
  { g with
    r := fun i => if i = g.b (g.c s) + g.m (g.c s) then s else if i = g.p s then g.r (g.b (g.c s) + g.m (g.c s)) else g.r i
    p := fun t => if t = s then g.b (g.c s) + g.m (g.c s) else if t = g.r (g.b (g.c s) + g.m (g.c s)) then g.p s else g.p t
    m := fun k => if k = g.c s then g.m k + 1 else g.m k }
theorem Part.mark {n N K : Nat} {A M : Nat → Prop} {g : Gh} {d : Pd} (h : Part n N K A M g d) (hN : N ≤ big) {s : Nat} (hs : s < n) (hA : A s) (hM : ¬ M s) :
    ∃ d', markO d s = some (d', decide (g.m (g.c s) = 0)) ∧ Part n N K A (fun t => t = s ∨ M t) (g.mark s) d' ∧ d'.cls = d.cls := by
  obtain ⟨p1, p2, p3⟩ := h.pr s hs hA
  obtain ⟨b1, b2, b3⟩ := h.be _ p3
  obtain ⟨i1, i2⟩ := (h.io s hs hA _ p3).1 rfl
  have m1 : ¬ g.p s < g.b (g.c s) + g.m (g.c s) := fun h2 => hM ((h.mm s hs hA).2 h2)
  have hbm : g.b (g.c s) + g.m (g.c s) < N := by omega
  obtain ⟨o1, o2, o3⟩ := h.rp _ hbm
  have hoc : g.c (g.r (g.b (g.c s) + g.m (g.c s))) = g.c s := (h.io _ o1 o2 _ p3).2 (by rw [o3]; omega)
  have hoM : ¬ M (g.r (g.b (g.c s) + g.m (g.c s))) := by
    rw [h.mm _ o1 o2, o3, hoc]
    omega
  refine ⟨d.marked s (g.c s) (g.p s) (g.b (g.c s)) (g.m (g.c s)) (g.r (g.b (g.c s) + g.m (g.c s))), ?_, ?_, rfl⟩
  · unfold markO
    rw [natO_is (by rw [h.cl]; exact hs) (h.ec s hs hA), Option.bind_some, natO_is (by rw [h.pl]; exact hs) (h.ep s hs hA), Option.bind_some, natO_is (by rw [h.bl]; exact p3) (h.eb _ p3), Option.bind_some, natO_is (by rw [h.ml]; exact p3) (h.em _ p3), Option.bind_some, natO_is (by rw [h.rl]; exact hbm) (h.er _ hbm), Option.bind_some, if_pos ⟨by rw [h.rl]; exact p1, by rw [h.pl]; exact o1, by rw [h.rl]; exact hN⟩]
  · generalize ho : g.r (g.b (g.c s) + g.m (g.c s)) = ot at *
    generalize hB : g.b (g.c s) + g.m (g.c s) = B at *
    have hB' : (g.b (g.c s) : Int) + (g.m (g.c s) : Int) = (B : Int) := by omega
    have er' : ∀ i, (g.mark s).r i = if i = B then s else if i = g.p s then ot else g.r i := by
      intro i; simp only [Gh.mark, hB, ho]
    have ep' : ∀ t, (g.mark s).p t = if t = s then B else if t = ot then g.p s else g.p t := by
      intro t; simp only [Gh.mark, hB, ho]
    have em' : ∀ k, (g.mark s).m k = if k = g.c s then g.m k + 1 else g.m k := fun k => rfl
    have hso : s = ot ↔ g.p s = B := by
      constructor
      · intro e; rw [e]; exact o3
      · intro e; rw [← p2, e]; exact ho
    have hc' : ∀ i, i < N → g.c ((g.mark s).r i) = g.c (g.r i) := by
      intro i hi
      rw [er']
      split
      · rename_i e; rw [e, ho, hoc]
      · split
        · rename_i e; rw [e, p2, hoc]
        · rfl
    have hrl : (d.row.set (g.p s) (ot : Int)).length = N := by simpa using h.rl
    have hpl : (d.place.set ot (g.p s : Int)).length = n := by simpa using h.pl
    refine ⟨by simpa [Pd.marked] using h.rl, by simpa [Pd.marked] using h.pl, h.cl, h.bl, h.fl, by simpa [Pd.marked] using h.ml, ?_, ?_, h.ec, h.ed, h.eb, h.ef, ?_, ?_, ?_, ?_, ?_, ?_⟩
    · intro i hi
      rw [er']
      simp only [Pd.marked, hB]
      rw [getD_setH (by rw [hrl]; exact hbm), getD_setH (by rw [h.rl]; exact p1)]
      by_cases e1 : i = B
      · rw [if_pos e1.symm, if_pos e1]
      · rw [if_neg (fun e => e1 e.symm), if_neg e1]
        by_cases e2 : i = g.p s
        · rw [if_pos e2.symm, if_pos e2]
        · rw [if_neg (fun e => e2 e.symm), if_neg e2]
          exact h.er i hi
    · intro t ht hAt
      rw [ep']
      simp only [Pd.marked, hB']
      rw [getD_setH (by rw [hpl]; exact hs), getD_setH (by rw [h.pl]; exact o1)]
      by_cases e1 : t = s
      · rw [if_pos e1.symm, if_pos e1]
      · rw [if_neg (fun e => e1 e.symm), if_neg e1]
        by_cases e2 : t = ot
        · rw [if_pos e2.symm, if_pos e2]
        · rw [if_neg (fun e => e2 e.symm), if_neg e2]
          exact h.ep t ht hAt
    · intro k hk
      rw [em']
      simp only [Pd.marked]
      rw [getD_setH (by rw [h.ml]; exact p3)]
      by_cases e1 : k = g.c s
      · rw [if_pos e1.symm, if_pos e1, e1]; omega
      · rw [if_neg (fun e => e1 e.symm), if_neg e1]
        exact h.em k hk
    · intro i hi
      obtain ⟨k1, k2, k3⟩ := h.rp i hi
      rw [er']
      split
      · rename_i e
        exact ⟨hs, hA, by rw [ep', if_pos rfl, e]⟩
      · split
        · rename_i e1 e2
          refine ⟨o1, o2, ?_⟩
          rw [ep', if_neg (fun e => e1 (by rw [e2]; exact hso.1 e.symm)), if_pos rfl, e2]
        · rename_i e1 e2
          refine ⟨k1, k2, ?_⟩
          rw [ep', if_neg (fun e => e2 (by rw [← e]; exact k3.symm)), if_neg (fun e => e1 (by rw [← o3, ← e]; exact k3.symm))]
          exact k3
    · intro t ht hAt
      obtain ⟨k1, k2, k3⟩ := h.pr t ht hAt
      rw [ep']
      split
      · rename_i e
        exact ⟨hbm, by rw [er', if_pos rfl, e], k3⟩
      · split
        · rename_i e1 e2
          refine ⟨p1, ?_, k3⟩
          rw [er', if_neg (fun e => e1 (by rw [e2]; exact (hso.2 e).symm)), if_pos rfl, e2]
        · rename_i e1 e2
          refine ⟨k1, ?_, k3⟩
          rw [er', if_neg (fun e => e2 (by rw [← k2, e]; exact ho)), if_neg (fun e => e1 (by rw [← k2, e, p2]))]
          exact k2
    · intro k hk
      obtain ⟨k1, k2, k3⟩ := h.be k hk
      refine ⟨k1, k2, ?_⟩
      rw [em']
      show g.b k + _ ≤ g.e k
      split
      · rename_i e
        subst e
        omega
      · exact k3
    · intro t ht hAt k hk
      rw [ep']
      show g.c t = k ↔ g.b k ≤ _ ∧ _ < g.e k
      have key := h.io t ht hAt k hk
      have keys := h.io s hs hA k hk
      have keyo := h.io ot o1 o2 k hk
      rw [hoc, o3] at keyo
      split
      · rename_i e
        rw [e]
        exact keyo
      · split
        · rename_i e
          rw [e, hoc]
          exact keys
        · exact key
    · intro t ht hAt
      rw [ep', em']
      show _ ↔ _ < g.b (g.c t) + (if g.c t = g.c s then g.m (g.c t) + 1 else g.m (g.c t))
      have key := h.mm t ht hAt
      by_cases e1 : t = s
      · subst e1
        simp; omega
      · rw [if_neg e1]
        by_cases e2 : t = ot
        · subst e2
          rw [if_pos rfl, hoc, if_pos rfl]
          have : g.p s ≠ B := fun e => e1 (hso.2 e).symm
          constructor
          · rintro (h1 | h1)
            · exact absurd h1 e1
            · exact absurd h1 hoM
          · intro h1; omega
        · rw [if_neg e2]
          have hne : g.p t ≠ B := by
            intro e
            have := (h.pr t ht hAt).2.1
            rw [e, ho] at this
            exact e2 this.symm
          rw [show (t = s ∨ M t) ↔ M t from ⟨fun h => h.resolve_left e1, .inr⟩, key]
          split
          · rename_i e; rw [e]; omega
          · rfl
end Go.Proofs.Ytmoniecknimmdaa.A
end
section
namespace Go.Proofs.Ytmoniecknimmdaa.A
theorem clsTo_get {row cls : List Int} {r : Nat → Nat} {b n : Nat} (s : Nat) : ∀ k, (∀ i, i < k → row.getD (b + i) 0 = (r (b + i) : Int) ∧ r (b + i) < cls.length) →
    (clsTo row b n k cls).getD s 0 = if (∃ i, i < k ∧ r (b + i) = s) then (n : Int) else cls.getD s 0
  | 0, _ => by
    rw [if_neg (fun ⟨i, hi, _⟩ => absurd hi (Nat.not_lt_zero i))]
    rfl
  | k + 1, h => by
    rw [clsTo_succ, (h k (Nat.lt_succ_self k)).1, Int.toNat_natCast, getD_setH (by rw [clsTo_len]; exact (h k (Nat.lt_succ_self k)).2), clsTo_get s k (fun i hi => h i (by omega))]
    by_cases e : r (b + k) = s
    · rw [if_pos e, if_pos ⟨k, Nat.lt_succ_self k, e⟩]
    · rw [if_neg e]
      by_cases e2 : ∃ i, i < k ∧ r (b + i) = s
      · obtain ⟨i, hi, e3⟩ := e2
        rw [if_pos ⟨i, hi, e3⟩, if_pos ⟨i, by omega, e3⟩]
      · rw [if_neg e2, if_neg]
        rintro ⟨i, hi, e3⟩
        by_cases hk : i = k
        · exact e (hk ▸ e3)
        · exact e2 ⟨i, by omega, e3⟩
theorem set_self {l : List Int} {k : Nat} {x : Int} (h : k < l.length) (e : l.getD k 0 = x) : l.set k x = l := by
  subst e
  have : l.getD k 0 = l[k] := by simp [h]
  rw [this]
  exact List.set_getElem_self h
theorem getD_app1 {l : List Int} {x : Int} {n j : Nat} (h : l.length = n) : (l ++ [x]).getD j 0 = if j = n then x else l.getD j 0 := by
  subst h
  by_cases e : j = l.length
  · subst e; simp
  · rw [if_neg e]
    rcases Nat.lt_or_ge j l.length with hj | hj
    · simp [List.getElem?_append, hj]
    · have h1 : l.length + 1 ≤ j := by omega
      simp [h1, hj]
/-- The numbers behind a cut: the class k keeps [u, v), the new class takes [x, y). -/
def Gh.cut (g : Gh) (K k u v x y : Nat) : Gh :=
  { g with
    c := fun t => if x ≤ g.p t ∧ g.p t < y then K else g.c t
    b := fun j => if j = K then x else if j = k then u else g.b j
    e := fun j => if j = K then y else if j = k then v else g.e j
    m := fun j => if j = K then 0 else if j = k then 0 else g.m j }
def Pd.cut (d : Pd) (K k u v x y : Nat) : Pd := { d with cls := clsTo d.row x K (y - x) d.cls, beg := d.beg.set k (u : Int) ++ [(x : Int)], fin := d.fin.set k (v : Int) ++ [(y : Int)], mkd := d.mkd.set k 0 ++ [0] }
theorem Part.cut {n N K : Nat} {A M : Nat → Prop} {g : Gh} {d : Pd} (h : Part n N K A M g d) {k u v x y : Nat} (hk : k < K) (hxy : x < y) (huv : u < v) (hd : v ≤ x ∨ y ≤ u)
    (hall : ∀ i, (g.b k ≤ i ∧ i < g.e k) ↔ (x ≤ i ∧ i < y) ∨ (u ≤ i ∧ i < v)) : Part n N (K + 1) A (fun t => M t ∧ g.c t ≠ k) (g.cut K k u v x y) (d.cut K k u v x y) := by
  obtain ⟨b1, b2, b3⟩ := h.be k hk
  have hyN : y ≤ N := by have := (hall (y - 1)).2 (.inl ⟨by omega, by omega⟩); omega
  have hvN : v ≤ N := by have := (hall (v - 1)).2 (.inr ⟨by omega, by omega⟩); omega
  have hrow : ∀ i, i < y - x → d.row.getD (x + i) 0 = (g.r (x + i) : Int) ∧ g.r (x + i) < d.cls.length := by
    intro i hi
    exact ⟨h.er _ (by omega), by rw [h.cl]; exact (h.rp _ (by omega)).1⟩
  have hex : ∀ t, t < n → A t → ((∃ i, i < y - x ∧ g.r (x + i) = t) ↔ x ≤ g.p t ∧ g.p t < y) := by
    intro t ht hA
    constructor
    · rintro ⟨i, hi, rfl⟩
      rw [(h.rp _ (by omega)).2.2]
      omega
    · rintro ⟨h1, h2⟩
      exact ⟨g.p t - x, by omega, by rw [show x + (g.p t - x) = g.p t by omega]; exact (h.pr t ht hA).2.1⟩
  have hin : ∀ t, t < n → A t → x ≤ g.p t → g.p t < y → g.c t = k := fun t ht hA h1 h2 => (h.io t ht hA k hk).2 ((hall _).2 (.inl ⟨h1, h2⟩))
  refine ⟨h.rl, h.pl, by simp only [Pd.cut]; rw [clsTo_len]; exact h.cl, by simp [Pd.cut, h.bl], by simp [Pd.cut, h.fl], by simp [Pd.cut, h.ml], h.er, h.ep, ?_, ?_, ?_, ?_, ?_, h.rp, ?_, ?_, ?_, ?_⟩
  · intro t ht hA
    simp only [Pd.cut, Gh.cut]
    rw [clsTo_get (r := g.r) t _ hrow]
    by_cases e : x ≤ g.p t ∧ g.p t < y
    · rw [if_pos ((hex t ht hA).2 e), if_pos e]
    · rw [if_neg (fun e2 => e ((hex t ht hA).1 e2)), if_neg e]
      exact h.ec t ht hA
  · intro t ht hA
    simp only [Pd.cut]
    rw [clsTo_get (r := g.r) t _ hrow, if_neg]
    · exact h.ed t ht hA
    · rintro ⟨i, hi, rfl⟩
      exact hA (h.rp _ (by omega)).2.1
  · intro j hj
    simp only [Pd.cut, Gh.cut]
    rw [getD_app1 (n := K) (by simp [h.bl])]
    split
    · rfl
    · rw [getD_setH (by rw [h.bl]; exact hk)]
      by_cases e : j = k
      · rw [if_pos e.symm, if_pos e]
      · rw [if_neg (fun e2 => e e2.symm), if_neg e]
        exact h.eb j (by omega)
  · intro j hj
    simp only [Pd.cut, Gh.cut]
    rw [getD_app1 (n := K) (by simp [h.fl])]
    split
    · rfl
    · rw [getD_setH (by rw [h.fl]; exact hk)]
      by_cases e : j = k
      · rw [if_pos e.symm, if_pos e]
      · rw [if_neg (fun e2 => e e2.symm), if_neg e]
        exact h.ef j (by omega)
  · intro j hj
    simp only [Pd.cut, Gh.cut]
    rw [getD_app1 (n := K) (by simp [h.ml])]
    split
    · rfl
    · rw [getD_setH (by rw [h.ml]; exact hk)]
      by_cases e : j = k
      · rw [if_pos e.symm, if_pos e]; rfl
      · rw [if_neg (fun e2 => e e2.symm), if_neg e]
        exact h.em j (by omega)
  · intro t ht hA
    obtain ⟨k1, k2, k3⟩ := h.pr t ht hA
    refine ⟨k1, k2, ?_⟩
    simp only [Gh.cut]
    split <;> omega
  · intro j hj
    simp only [Gh.cut]
    by_cases e1 : j = K
    · simp only [e1, if_true]; omega
    · simp only [e1, if_false]
      by_cases e2 : j = k
      · simp only [e2, if_true]; omega
      · simp only [e2, if_false]
        exact h.be j (by omega)
  · intro t ht hA j hj
    simp only [Gh.cut]
    obtain ⟨k1, k2, k3⟩ := h.pr t ht hA
    have hik := h.io t ht hA k hk
    have hal := hall (g.p t)
    by_cases e0 : x ≤ g.p t ∧ g.p t < y
    · rw [if_pos e0]
      by_cases e1 : j = K
      · simp only [e1, if_true]; exact ⟨fun _ => e0, fun _ => trivial⟩
      · simp only [e1, if_false]
        have hck := hin t ht hA e0.1 e0.2
        by_cases e2 : j = k
        · simp only [e2, if_true]; omega
        · simp only [e2, if_false]
          have := h.io t ht hA j (by omega)
          omega
    · rw [if_neg e0]
      by_cases e1 : j = K
      · simp only [e1, if_true]; omega
      · simp only [e1, if_false]
        by_cases e2 : j = k
        · simp only [e2, if_true]; omega
        · simp only [e2, if_false]
          exact h.io t ht hA j (by omega)
  · intro t ht hA
    simp only [Gh.cut]
    obtain ⟨k1, k2, k3⟩ := h.pr t ht hA
    have hmm := h.mm t ht hA
    by_cases e0 : x ≤ g.p t ∧ g.p t < y
    · rw [if_pos e0]
      have hck := hin t ht hA e0.1 e0.2
      simp only [if_true]
      constructor
      · rintro ⟨_, h2⟩; exact absurd hck h2
      · intro h2; omega
    · rw [if_neg e0]
      have e1 : g.c t ≠ K := by omega
      simp only [e1, if_false]
      by_cases e2 : g.c t = k
      · simp only [e2, if_true]
        have hik := (h.io t ht hA k hk).1 e2
        have hal := (hall (g.p t)).1 hik
        constructor
        · rintro ⟨_, h2⟩; exact absurd rfl h2
        · intro h2; omega
      · simp only [e2, if_false]
        rw [hmm]
        exact ⟨fun h => h.1, fun h => ⟨h, e2⟩⟩
/-- The numbers behind a class that is wholly marked: its marks go. -/
theorem Part.unmark {n N K : Nat} {A M : Nat → Prop} {g : Gh} {d : Pd} (h : Part n N K A M g d) {k : Nat} (hk : k < K) (he : g.b k + g.m k = g.e k) : Part n N K A (fun t => M t ∧ g.c t ≠ k) { g with m := fun j => if j = k then 0 else g.m j } { d with mkd := d.mkd.set k 0 } := by
  refine ⟨h.rl, h.pl, h.cl, h.bl, h.fl, by simp [h.ml], h.er, h.ep, h.ec, h.ed, h.eb, h.ef, ?_, h.rp, h.pr, ?_, h.io, ?_⟩
  · intro j hj
    show (d.mkd.set k 0).getD j 0 = ((if j = k then 0 else g.m j : Nat) : Int)
    rw [getD_setH (by rw [h.ml]; exact hk)]
    by_cases e : j = k
    · rw [if_pos e.symm, if_pos e]; rfl
    · rw [if_neg (fun e2 => e e2.symm), if_neg e]
      exact h.em j hj
  · intro j hj
    have := h.be j hj
    refine ⟨this.1, this.2.1, ?_⟩
    show g.b j + (if j = k then 0 else g.m j) ≤ g.e j
    split <;> omega
  · intro t ht hA
    have hmm := h.mm t ht hA
    show _ ↔ g.p t < g.b (g.c t) + (if g.c t = k then 0 else g.m (g.c t))
    by_cases e2 : g.c t = k
    · have hik := (h.io t ht hA k hk).1 e2
      simp only [e2, if_true]
      constructor
      · rintro ⟨_, h2⟩; exact absurd rfl h2
      · intro h2; omega
    · simp only [e2, if_false]
      rw [hmm]
      exact ⟨fun h => h.1, fun h => ⟨h, e2⟩⟩
/-- What a split comes to. -/
structure Spl (n K : Nat) (A M : Nat → Prop) (g g' : Gh) (k K' : Nat) (r : Bool) : Prop where
  more : K' = if r then K + 1 else K
  off : ∀ t, t < n → A t → g.c t ≠ k → g'.c t = g.c t
  new : ∀ t, t < n → A t → g.c t = k → g'.c t = k ∨ g'.c t = K
  tell : ∀ s t, s < n → t < n → A s → A t → g.c s = k → g.c t = k → (g'.c s = g'.c t ↔ (M s ↔ M t))
  marks : ∀ j, j < K → j ≠ k → g'.m j = g.m j
  none : g'.m k = 0
theorem Part.split {n N K : Nat} {A M : Nat → Prop} {g : Gh} {d : Pd} (h : Part n N K A M g d) (hN : N ≤ big) (hK : K ≤ big) {k : Nat} (hk : k < K) (hm : 0 < g.m k) :
    ∃ d' g' r K', splitO d k = some (d', r) ∧ Part n N K' A (fun t => M t ∧ g.c t ≠ k) g' d' ∧ Spl n K A M g g' k K' r ∧ d'.row = d.row ∧ d'.place = d.place := by
  obtain ⟨b1, b2, b3⟩ := h.be k hk
  have hpo : partOk d (g.b k) (g.e k) = true := by
    unfold partOk
    rw [List.all_eq_true]
    intro i hi
    have hi' := List.mem_range.1 hi
    have := (h.rp i (by omega)).1
    rw [h.er i (by omega), h.cl]
    simp; omega
  have hsp : splitO d k = some (d.splitted k (g.b k) (g.e k) (g.m k)) := by
    unfold splitO
    rw [natO_is (by rw [h.bl]; exact hk) (h.eb k hk), Option.bind_some, natO_is (by rw [h.fl]; exact hk) (h.ef k hk), Option.bind_some, natO_is (by rw [h.ml]; exact hk) (h.em k hk), Option.bind_some,
      if_pos ⟨hm, b3, by rw [h.rl]; exact b2, hpo, by rw [h.rl]; exact hN, by rw [h.bl]; exact hK, by rw [h.fl]; exact hK, by rw [h.ml]; exact hK⟩]
  have hmk : ∀ t, t < n → A t → g.c t = k → (M t ↔ g.p t < g.b k + g.m k) ∧ g.b k ≤ g.p t ∧ g.p t < g.e k := by
    intro t ht hA e
    have h1 := h.mm t ht hA
    rw [e] at h1
    exact ⟨h1, (h.io t ht hA k hk).1 e⟩
  have hlt : ∀ t, t < n → A t → g.c t < K := fun t ht hA => (h.pr t ht hA).2.2
  have hout : ∀ t, t < n → A t → g.c t ≠ k → ¬ (g.b k ≤ g.p t ∧ g.p t < g.e k) := fun t ht hA e e2 => e ((h.io t ht hA k hk).2 e2)
  by_cases c1 : g.b k + g.m k = g.e k
  · refine ⟨_, _, false, K, ?_, h.unmark hk c1, ⟨rfl, fun _ _ _ _ => rfl, fun _ _ _ e => .inl e, ?_, ?_, ?_⟩, rfl, rfl⟩
    · rw [hsp]; unfold Pd.splitted; rw [if_pos c1]
    · intro s t hs ht hAs hAt es et
      show g.c s = g.c t ↔ _
      have h1 := hmk s hs hAs es
      have h2 := hmk t ht hAt et
      rw [es, et, h1.1, h2.1]
      simp; omega
    · intro j hj e
      show (if j = k then 0 else g.m j) = g.m j
      rw [if_neg e]
    · show (if k = k then 0 else g.m k) = 0
      rw [if_pos rfl]
  · have key : ∀ u v x y, x < y → u < v → (v ≤ x ∨ y ≤ u) → (∀ i, (g.b k ≤ i ∧ i < g.e k) ↔ (x ≤ i ∧ i < y) ∨ (u ≤ i ∧ i < v)) → (∀ i, g.b k ≤ i → i < g.e k → ∀ j, g.b k ≤ j → j < g.e k → (((x ≤ i ∧ i < y) ↔ (x ≤ j ∧ j < y)) ↔ (i < g.b k + g.m k ↔ j < g.b k + g.m k))) → Part n N (K + 1) A (fun t => M t ∧ g.c t ≠ k) (g.cut K k u v x y) (d.cut K k u v x y) ∧ Spl n K A M g (g.cut K k u v x y) k (K + 1) true := by
      intro u v x y hxy huv hd hall hsame
      refine ⟨h.cut hk hxy huv hd hall, rfl, ?_, ?_, ?_, ?_, ?_⟩
      · intro t ht hA e
        have := hout t ht hA e
        have h2 := hall (g.p t)
        show (if x ≤ g.p t ∧ g.p t < y then K else g.c t) = g.c t
        rw [if_neg]
        intro h3
        exact this (h2.2 (.inl h3))
      · intro t ht hA e
        show (if x ≤ g.p t ∧ g.p t < y then K else g.c t) = k ∨ (if x ≤ g.p t ∧ g.p t < y then K else g.c t) = K
        split
        · exact .inr rfl
        · exact .inl e
      · intro s t hs ht hAs hAt es et
        obtain ⟨s1, s2, s3⟩ := hmk s hs hAs es
        obtain ⟨t1, t2, t3⟩ := hmk t ht hAt et
        rw [s1, t1, ← hsame _ s2 s3 _ t2 t3]
        show (if x ≤ g.p s ∧ g.p s < y then K else g.c s) = (if x ≤ g.p t ∧ g.p t < y then K else g.c t) ↔ _
        rw [es, et]
        have hne : K ≠ k := by omega
        by_cases e1 : x ≤ g.p s ∧ g.p s < y
        · by_cases e2 : x ≤ g.p t ∧ g.p t < y
          · simp [e1, e2]
          · rw [if_pos e1, if_neg e2]
            exact ⟨fun h => absurd h hne, fun h => absurd (h.1 e1) e2⟩
        · by_cases e2 : x ≤ g.p t ∧ g.p t < y
          · rw [if_neg e1, if_pos e2]
            exact ⟨fun h => absurd h.symm hne, fun h => absurd (h.2 e2) e1⟩
          · rw [if_neg e1, if_neg e2]
            exact ⟨fun _ => ⟨fun h => absurd h e1, fun h => absurd h e2⟩, fun _ => rfl⟩
      · intro j hj e
        show (if j = K then 0 else if j = k then 0 else g.m j) = g.m j
        rw [if_neg (by omega), if_neg e]
      · show (if k = K then 0 else if k = k then 0 else g.m k) = 0
        split <;> simp
    by_cases c2 : g.m k ≤ g.e k - (g.b k + g.m k)
    · obtain ⟨k1, k2⟩ := key (g.b k + g.m k) (g.e k) (g.b k) (g.b k + g.m k) (by omega) (by omega) (.inr (by omega)) (by omega) (by omega)
      refine ⟨_, _, true, K + 1, ?_, k1, k2, rfl, rfl⟩
      rw [hsp]
      unfold Pd.splitted
      rw [if_neg c1, if_pos c2]
      simp only [Pd.added, Pd.cut, Option.some.injEq, Prod.mk.injEq, and_true]
      rw [List.length_set, h.bl, set_self (by rw [h.fl]; exact hk) (h.ef k hk)]
      rfl
    · obtain ⟨k1, k2⟩ := key (g.b k) (g.b k + g.m k) (g.b k + g.m k) (g.e k) (by omega) (by omega) (.inl (by omega)) (by omega) (by omega)
      refine ⟨_, _, true, K + 1, ?_, k1, k2, rfl, rfl⟩
      rw [hsp]
      unfold Pd.splitted
      rw [if_neg c1, if_neg c2]
      simp only [Pd.added, Pd.cut, Option.some.injEq, Prod.mk.injEq, and_true]
      rw [h.bl, set_self (by rw [h.bl]; exact hk) (h.eb k hk)]
      rfl
end Go.Proofs.Ytmoniecknimmdaa.A
end
section
namespace Go.Proofs.Ytmoniecknimmdaa.A
theorem Part.congrM {n N K : Nat} {A M M' : Nat → Prop} {g : Gh} {d : Pd} (h : Part n N K A M g d) (e : ∀ s, s < n → A s → (M' s ↔ M s)) : Part n N K A M' g d :=
  ⟨h.rl, h.pl, h.cl, h.bl, h.fl, h.ml, h.er, h.ep, h.ec, h.ed, h.eb, h.ef, h.em, h.rp, h.pr, h.be, h.io, fun s hs hA => (e s hs hA).trans (h.mm s hs hA)⟩
theorem Part.few {n N K : Nat} {A M : Nat → Prop} {g : Gh} {d : Pd} (h : Part n N K A M g d) : K ≤ N := by
  have h1 : ((List.range K).map g.b).Nodup := by
    unfold List.Nodup
    rw [List.pairwise_map]
    refine List.nodup_range.imp_of_mem fun {i j} hi hj hne e => hne ?_
    have hi' := List.mem_range.1 hi
    have hj' := List.mem_range.1 hj
    have bi := h.be i hi'
    have bj := h.be j hj'
    obtain ⟨r1, r2, r3⟩ := h.rp (g.b i) (by omega)
    have ei := (h.io _ r1 r2 i hi').2 (by rw [r3]; omega)
    have ej := (h.io _ r1 r2 j hj').2 (by rw [r3]; omega)
    exact ei.symm.trans ej
  have := nodup_nat N _ h1 (by
    intro x hx
    obtain ⟨i, hi, rfl⟩ := List.mem_map.1 hx
    have := h.be i (List.mem_range.1 hi)
    omega)
  simpa using this
/-- The classes with marks, in a list. -/
def Tch (K : Nat) (g : Gh) (ts : List Int) : Prop := ts.Nodup ∧ ∀ x, x ∈ ts ↔ ∃ k : Nat, k < K ∧ x = (k : Int) ∧ 0 < g.m k
theorem touch_ok {n N K : Nat} {A : Nat → Prop} (hN : N ≤ big) : ∀ (ws : List Int) (M : Nat → Prop) (g : Gh) (d : Pd) (ts : List Int), Part n N K A M g d → Tch K g ts → ws.Nodup → (∀ x ∈ ws, ∃ s : Nat, x = (s : Int) ∧ s < n ∧ A s ∧ ¬ M s) →
    ∃ d' g' ts', touch ws d ts = some (d', ts') ∧ Part n N K A (fun t => M t ∨ (t : Int) ∈ ws) g' d' ∧ Tch K g' ts' ∧ g'.c = g.c
  | [], M, g, d, ts, h, ht, _, _ => ⟨d, g, ts, rfl, h.congrM (by simp), ht, rfl⟩
  | x :: ws, M, g, d, ts, h, ht, hnd, hw => by
    obtain ⟨s, rfl, hs, hA, hM⟩ := hw x (.head _)
    obtain ⟨hx, hnd'⟩ := List.nodup_cons.1 hnd
    obtain ⟨d1, h1, h2, h3⟩ := h.mark hN hs hA hM
    have hc := (h.pr s hs hA).2.2
    have hw' : ∀ y ∈ ws, ∃ t : Nat, y = (t : Int) ∧ t < n ∧ A t ∧ ¬ (t = s ∨ M t) := by
      intro y hy
      obtain ⟨t, rfl, k1, k2, k3⟩ := hw y (.tail _ hy)
      refine ⟨t, rfl, k1, k2, ?_⟩
      rintro (e | e)
      · exact hx (e ▸ hy)
      · exact k3 e
    have step : ∀ ts1, Tch K (g.mark s) ts1 → ∃ d' g' ts', touch ws d1 ts1 = some (d', ts') ∧ Part n N K A (fun t => M t ∨ (t : Int) ∈ ((s : Int) :: ws)) g' d' ∧ Tch K g' ts' ∧ g'.c = g.c := by
      intro ts1 ht1
      obtain ⟨d', g', ts', e1, e2, e3, e4⟩ := touch_ok hN ws _ _ _ ts1 h2 ht1 hnd' hw'
      refine ⟨d', g', ts', e1, e2.congrM ?_, e3, e4⟩
      intro t _ _
      rw [List.mem_cons]
      constructor
      · rintro (h | h | h)
        · exact .inl (.inr h)
        · exact .inl (.inl (by omega))
        · exact .inr h
      · rintro ((h | h) | h)
        · exact .inr (.inl (by omega))
        · exact .inl h
        · exact .inr (.inr h)
    unfold touch
    rw [if_pos (by omega : (0 : Int) ≤ (s : Int)), Int.toNat_natCast, h1]
    have hmk : ∀ k, (g.mark s).m k = if k = g.c s then g.m k + 1 else g.m k := fun k => rfl
    by_cases e0 : g.m (g.c s) = 0
    · rw [decide_eq_true e0]
      simp only
      rw [h3, h.ec s hs hA]
      refine step _ ⟨?_, fun y => ?_⟩
      · rw [List.nodup_append]
        refine ⟨ht.1, by simp, ?_⟩
        intro a ha b hb e
        rw [List.mem_singleton.1 hb] at e
        obtain ⟨k, _, ek, hk⟩ := (ht.2 a).1 ha
        have : k = g.c s := by omega
        subst this
        omega
      · rw [List.mem_append, List.mem_singleton, ht.2]
        constructor
        · rintro (⟨k, h1, h2, h3⟩ | e)
          · exact ⟨k, h1, h2, by rw [hmk]; split <;> omega⟩
          · exact ⟨g.c s, hc, e, by rw [hmk, if_pos rfl]; omega⟩
        · rintro ⟨k, h1, h2, h3⟩
          rw [hmk] at h3
          by_cases e : k = g.c s
          · exact .inr (e ▸ h2)
          · rw [if_neg e] at h3; exact .inl ⟨k, h1, h2, h3⟩
    · rw [decide_eq_false e0]
      simp only
      refine step _ ⟨ht.1, fun y => ?_⟩
      rw [ht.2]
      constructor
      · rintro ⟨k, h1, h2, h3⟩
        exact ⟨k, h1, h2, by rw [hmk]; split <;> omega⟩
      · rintro ⟨k, h1, h2, h3⟩
        rw [hmk] at h3
        refine ⟨k, h1, h2, ?_⟩
        by_cases e : k = g.c s
        · subst e; omega
        · rw [if_neg e] at h3; exact h3
/-- The numbers from K up to K'. -/
def span (K K' : Nat) : List Int := (List.range (K' - K)).map fun (i : Nat) => ((K + i : Nat) : Int)
theorem span_self (K : Nat) : span K K = [] := by simp [span]
theorem span_cons {K K' : Nat} (h : K < K') : span K K' = (K : Int) :: span (K + 1) K' := by
  unfold span
  rw [show K' - K = (K' - (K + 1)) + 1 by omega, List.range_succ_eq_map, List.map_cons, List.map_map]
  congr 1
  apply List.map_congr_left
  intro i _
  simp; omega
theorem splits_ok {n N : Nat} {A : Nat → Prop} (hN : N ≤ big) : ∀ (ts : List Int) (K : Nat) (M : Nat → Prop) (g : Gh) (d : Pd) (fs : List Int), Part n N K A M g d → ts.Nodup → (∀ x ∈ ts, ∃ k : Nat, x = (k : Int) ∧ k < K ∧ 0 < g.m k) →
    ∃ d' g' K', splits ts d fs = some (d', fs ++ span K K') ∧ K ≤ K' ∧ Part n N K' A (fun t => M t ∧ (g.c t : Int) ∉ ts) g' d' ∧
      (∀ s t, s < n → t < n → A s → A t → (g'.c s = g'.c t ↔ g.c s = g.c t ∧ ((g.c s : Int) ∈ ts → (M s ↔ M t)))) ∧ ∀ t, t < n → A t → g'.c t = g.c t ∨ K ≤ g'.c t
  | [], K, M, g, d, fs, h, _, _ => ⟨d, g, K, by simp [splits, span_self], Nat.le_refl _, h.congrM (by simp), by simp, fun _ _ _ => .inl rfl⟩
  | x :: ts, K, M, g, d, fs, h, hnd, hw => by
    obtain ⟨k, rfl, hk, hm⟩ := hw x (.head _)
    obtain ⟨hx, hnd'⟩ := List.nodup_cons.1 hnd
    obtain ⟨d1, g1, r, K1, e1, e2, e3, _, _⟩ := h.split hN (Nat.le_trans h.few hN) hk hm
    have hK1 : K ≤ K1 := by rw [e3.more]; split <;> omega
    have hw' : ∀ y ∈ ts, ∃ j : Nat, y = (j : Int) ∧ j < K1 ∧ 0 < g1.m j := by
      intro y hy
      obtain ⟨j, rfl, k1, k2⟩ := hw y (.tail _ hy)
      refine ⟨j, rfl, by omega, ?_⟩
      rw [e3.marks j k1 (fun e => hx (e ▸ hy))]
      exact k2
    obtain ⟨d', g', K', f1, f2, f3, f4, f5⟩ := splits_ok hN ts K1 _ g1 d1 (if r then fs ++ [((K : Nat) : Int)] else fs) e2 hnd' hw'
    have hbig : ∀ y ∈ ts, ∃ j : Nat, y = (j : Int) ∧ j < K := fun y hy => by
      obtain ⟨j, e, k1, _⟩ := hw y (.tail _ hy)
      exact ⟨j, e, k1⟩
    have hcin : ∀ t, t < n → A t → ((g1.c t : Int) ∈ ts ↔ g.c t ≠ k ∧ (g.c t : Int) ∈ ts) := by
      intro t ht hA
      by_cases e : g.c t = k
      · constructor
        · intro h1
          rcases e3.new t ht hA e with h2 | h2
          · rw [h2] at h1; exact absurd h1 hx
          · obtain ⟨j, ej, hj⟩ := hbig _ h1
            omega
        · rintro ⟨h1, _⟩; exact absurd e h1
      · rw [e3.off t ht hA e]
        exact ⟨fun h => ⟨e, h⟩, fun h => h.2⟩
    refine ⟨d', g', K', ?_, Nat.le_trans hK1 f2, f3.congrM ?_, ?_, ?_⟩
    · unfold splits
      rw [if_pos (by omega : (0 : Int) ≤ (k : Int)), Int.toNat_natCast, e1]
      have hbl := e2.bl
      have hmore := e3.more
      cases r with
      | true =>
        simp only [if_true] at hmore f1 ⊢
        have hlen : ((d1.beg.length : Int) - 1) = ((K : Nat) : Int) := by rw [hbl, hmore]; omega
        rw [hlen, f1, span_cons (by omega : K < K'), hmore]
        simp
      | false =>
        simp at hmore f1 ⊢
        rw [f1, hmore]
    · intro t ht hA
      rw [List.mem_cons, hcin t ht hA]
      constructor
      · rintro ⟨h1, h2⟩
        exact ⟨⟨h1, fun e => h2 (.inl (by omega))⟩, fun h3 => h2 (.inr h3.2)⟩
      · rintro ⟨⟨h1, h2⟩, h3⟩
        refine ⟨h1, ?_⟩
        rintro (e | e)
        · omega
        · exact h3 ⟨h2, e⟩
    · intro s t hs ht hAs hAt
      rw [f4 s t hs ht hAs hAt, hcin s hs hAs, List.mem_cons]
      have hKs := (h.pr s hs hAs).2.2
      have hKt := (h.pr t ht hAt).2.2
      by_cases es : g.c s = k
      · by_cases et : g.c t = k
        · rw [e3.tell s t hs ht hAs hAt es et]
          constructor
          · rintro ⟨h1, _⟩; exact ⟨es.trans et.symm, fun _ => h1⟩
          · rintro ⟨_, h2⟩; exact ⟨h2 (.inl (by omega)), fun h3 => absurd es h3.1⟩
        · rw [e3.off t ht hAt et]
          constructor
          · rintro ⟨h1, _⟩
            rcases e3.new s hs hAs es with h2 | h2 <;> omega
          · rintro ⟨h1, _⟩; omega
      · rw [e3.off s hs hAs es]
        by_cases et : g.c t = k
        · constructor
          · rintro ⟨h1, _⟩
            rcases e3.new t ht hAt et with h2 | h2 <;> omega
          · rintro ⟨h1, _⟩; omega
        · rw [e3.off t ht hAt et]
          constructor
          · rintro ⟨h1, h2⟩
            refine ⟨h1, ?_⟩
            rintro (h3 | h3)
            · omega
            · have := h2 ⟨es, h3⟩
              constructor
              · intro h4; exact (this.1 ⟨h4, es⟩).1
              · intro h4; exact (this.2 ⟨h4, et⟩).1
          · rintro ⟨h1, h2⟩
            refine ⟨h1, fun h3 => ?_⟩
            have := h2 (.inr h3.2)
            constructor
            · rintro ⟨h4, _⟩; exact ⟨this.1 h4, et⟩
            · rintro ⟨h4, _⟩; exact ⟨this.2 h4, es⟩
    · intro t ht hA
      rcases f5 t ht hA with h1 | h1
      · by_cases et : g.c t = k
        · rcases e3.new t ht hA et with h2 | h2
          · exact .inl (by omega)
          · exact .inr (by omega)
        · exact .inl (by rw [h1, e3.off t ht hA et])
      · exact .inr (by omega)
/-- Dividing by a set: two states stay together just when they were and both or neither are in the set; a state keeps its class's number or gets a new one; the new ones are told. -/
theorem divide_ok {n N K : Nat} {A : Nat → Prop} {g : Gh} {d : Pd} (h : Part n N K A (fun _ => False) g d) (hN : N ≤ big) {ws : List Int} (hnd : ws.Nodup) (hw : ∀ x ∈ ws, ∃ s : Nat, x = (s : Int) ∧ s < n ∧ A s) :
    ∃ d' g' K', divideO d ws = some (d', span K K') ∧ K ≤ K' ∧ Part n N K' A (fun _ => False) g' d' ∧
      (∀ s t, s < n → t < n → A s → A t → (g'.c s = g'.c t ↔ g.c s = g.c t ∧ ((s : Int) ∈ ws ↔ (t : Int) ∈ ws))) ∧ ∀ t, t < n → A t → g'.c t = g.c t ∨ K ≤ g'.c t := by
  have h0 : ∀ k, k < K → g.m k = 0 := by
    intro k hk
    obtain ⟨b1, b2, b3⟩ := h.be k hk
    obtain ⟨r1, r2, r3⟩ := h.rp (g.b k) (by omega)
    have e := (h.io _ r1 r2 k hk).2 (by rw [r3]; omega)
    have := h.mm _ r1 r2
    rw [r3, e] at this
    simp at this
    exact this
  have ht0 : Tch K g [] := ⟨List.nodup_nil, fun x => ⟨fun h => absurd h (by simp), fun ⟨k, k1, _, k3⟩ => absurd (h0 k k1) (by omega)⟩⟩
  obtain ⟨d1, g1, ts, e1, e2, e3, e4⟩ := touch_ok hN ws _ g d [] h ht0 hnd (fun x hx => by
    obtain ⟨s, k1, k2, k3⟩ := hw x hx
    exact ⟨s, k1, k2, k3, fun f => f⟩)
  obtain ⟨d', g', K', f1, f2, f3, f4, f5⟩ := splits_ok hN ts K _ g1 d1 [] e2 e3.1 (fun x hx => by
    obtain ⟨k, k1, k2, k3⟩ := (e3.2 x).1 hx
    exact ⟨k, k2, k1, k3⟩)
  have hin : ∀ s, s < n → A s → (s : Int) ∈ ws → (g1.c s : Int) ∈ ts := by
    intro s hs hA hm
    have hk := (e2.pr s hs hA).2.2
    have := (e2.mm s hs hA).1 (.inr hm)
    have hi := (e2.io s hs hA _ hk).1 rfl
    exact (e3.2 _).2 ⟨g1.c s, hk, rfl, by omega⟩
  refine ⟨d', g', K', ?_, f2, f3.congrM ?_, ?_, ?_⟩
  · unfold divideO
    rw [e1]
    simp only
    rw [f1]
    simp
  · intro s hs hA
    constructor
    · exact fun f => f.elim
    · rintro ⟨h1 | h1, h2⟩
      · exact h1
      · exact h2 (hin s hs hA h1)
  · intro s t hs ht hAs hAt
    rw [f4 s t hs ht hAs hAt, e4]
    simp only [false_or]
    constructor
    · rintro ⟨h1, h2⟩
      refine ⟨h1, ?_⟩
      by_cases hc : (g.c s : Int) ∈ ts
      · exact h2 hc
      · constructor
        · intro h3
          have := hin s hs hAs h3
          rw [e4] at this
          exact absurd this hc
        · intro h3
          have := hin t ht hAt h3
          rw [e4, ← h1] at this
          exact absurd this hc
    · rintro ⟨h1, h2⟩
      exact ⟨h1, fun _ => h2⟩
  · intro t ht hA
    have := f5 t ht hA
    rw [e4] at this
    exact this
end Go.Proofs.Ytmoniecknimmdaa.A
end
section
namespace Go.Proofs.Ytmoniecknimmdaa.A
/-- All ways told so far come from before the state s, or from it by letters before k; none is told twice. -/
def Bef (s k : Int) (acc : List (List Ar)) : Prop := ∀ q, (acc.getD q []).Nodup ∧ ∀ a ∈ acc.getD q [], a.1 < s ∨ (a.1 = s ∧ a.2 < k)
theorem addAr_nd (s : Int) : ∀ (row : List Int) (k : Int) (acc : List (List Ar)), Bef s k acc → Bef s (k + row.length) (addAr s k row acc)
  | [], k, acc, h => by simpa [addAr] using h
  | x :: r, k, acc, h => by
    rw [addAr, show k + ((x :: r).length : Int) = (k + 1) + (r.length : Int) by rw [List.length_cons]; omega]
    refine addAr_nd s r (k + 1) _ ?_
    split
    · exact fun q => ⟨(h q).1, fun a ha => by rcases (h q).2 a ha with h1 | h1 <;> omega⟩
    · intro q
      by_cases hq : x.toNat = q ∧ x.toNat < acc.length
      · obtain ⟨h1, h2⟩ := hq
        subst h1
        have e : (acc.set x.toNat (acc.getD x.toNat [] ++ [(s, k)])).getD x.toNat [] = acc.getD x.toNat [] ++ [(s, k)] := by simp [h2]
        rw [e]
        refine ⟨?_, ?_⟩
        · rw [List.nodup_append]
          refine ⟨(h _).1, by simp, ?_⟩
          intro a ha b hb e2
          rw [List.mem_singleton.1 hb] at e2
          have := (h _).2 a ha
          rw [e2] at this
          simp at this
        · intro a ha
          rcases List.mem_append.1 ha with ha | ha
          · rcases (h _).2 a ha with h1 | h1 <;> omega
          · rw [List.mem_singleton.1 ha]
            right
            simp
            omega
      · have e : (acc.set x.toNat (acc.getD x.toNat [] ++ [(s, k)])).getD q [] = acc.getD q [] := by
          simp only [List.getD_eq_getElem?_getD, List.getElem?_set]
          split
          · rename_i e
            have : ¬ x.toNat < acc.length := fun h2 => hq ⟨e, h2⟩
            subst e
            simp [this]
          · rfl
        rw [e]
        exact ⟨(h q).1, fun a ha => by rcases (h q).2 a ha with h1 | h1 <;> omega⟩
theorem addRows_nd : ∀ (rows : List (List Int)) (s : Int) (acc : List (List Ar)), Bef s 0 acc → ∀ q, ((addRows s rows acc).getD q []).Nodup
  | [], s, acc, h => fun q => (h q).1
  | row :: r, s, acc, h => by
    rw [addRows]
    refine addRows_nd r (s + 1) _ ?_
    intro q
    have := addAr_nd s row 0 acc h q
    exact ⟨this.1, fun a ha => by rcases this.2 a ha with h1 | h1 <;> omega⟩
theorem arrive_nd (m : Mac) (q : Nat) : ((arrive m).getD q []).Nodup := by
  refine addRows_nd m.next 0 _ (fun q => ?_) q
  have e : (List.replicate m.next.length ([] : List Ar)).getD q [] = [] := by
    simp only [List.getD_eq_getElem?_getD, List.getElem?_replicate]
    split <;> rfl
  rw [e]
  simp
/-- The ways into the states of a list. -/
def into (m : Mac) (xs : List Int) : List Ar := xs.flatMap fun x => (arrive m).getD x.toNat []
theorem into_mem {m : Mac} (hf : Fits m) {xs : List Int} (hx : ∀ x ∈ xs, 0 ≤ x ∧ x < m.next.length) (a : Ar) : a ∈ into m xs ↔ ((0 ≤ a.1 ∧ a.1 < m.next.length) ∧ (0 ≤ a.2 ∧ a.2 < m.letters)) ∧ lead m a.1 a.2 ∈ xs := by
  unfold into
  rw [List.mem_flatMap]
  constructor
  · rintro ⟨x, h1, h2⟩
    have := hx x h1
    obtain ⟨k1, k2⟩ := (arrive_mem hf (by omega) a).1 h2
    refine ⟨k1, ?_⟩
    rw [k2, show ((x.toNat : Nat) : Int) = x by omega]
    exact h1
  · rintro ⟨h1, h2⟩
    have := hx _ h2
    exact ⟨_, h2, (arrive_mem hf (by omega) a).2 ⟨h1, by omega⟩⟩
theorem into_nd {m : Mac} (hf : Fits m) : ∀ {xs : List Int}, (∀ x ∈ xs, 0 ≤ x ∧ x < m.next.length) → xs.Nodup → (into m xs).Nodup
  | [], _, _ => by simp [into]
  | x :: xs, hx, hnd => by
    obtain ⟨h1, h2⟩ := List.nodup_cons.1 hnd
    have hx' : ∀ y ∈ xs, 0 ≤ y ∧ y < m.next.length := fun y hy => hx y (.tail _ hy)
    have hx0 := hx x (.head _)
    have e : into m (x :: xs) = (arrive m).getD x.toNat [] ++ into m xs := by simp [into]
    rw [e, List.nodup_append]
    refine ⟨arrive_nd m _, into_nd hf hx' h2, ?_⟩
    intro a ha b hb e2
    subst e2
    obtain ⟨_, k2⟩ := (arrive_mem hf (by omega) a).1 ha
    obtain ⟨_, k3⟩ := (into_mem hf hx' a).1 hb
    rw [k2, show ((x.toNat : Nat) : Int) = x by omega] at k3
    exact h1 k3
/-- What is gathered of the ways L. -/
structure Gt (nl : Nat) (L : List Ar) (s : Gs) : Prop where
  len : s.1.length = nl
  src : ∀ k : Nat, k < nl → s.1.getD k [] = (L.filter fun a => decide (a.2 = (k : Int))).map Prod.fst
  nd : s.2.Nodup
  mem : ∀ x, x ∈ s.2 ↔ ∃ k : Nat, k < nl ∧ x = (k : Int) ∧ s.1.getD k [] ≠ []
theorem nodup_ints {N : Nat} {l : List Int} (h : l.Nodup) (hr : ∀ x ∈ l, 0 ≤ x ∧ x < N) : l.length ≤ N := by
  have h1 : (l.map Int.toNat).Nodup := by
    unfold List.Nodup
    rw [List.pairwise_map]
    refine h.imp_of_mem fun {x y} hx hy hne e => hne ?_
    have := hr x hx
    have := hr y hy
    omega
  have := nodup_nat N _ h1 (by
    intro x hx
    obtain ⟨y, hy, rfl⟩ := List.mem_map.1 hx
    have := hr y hy
    omega)
  simpa using this
theorem src_nd {L : List Ar} (h : L.Nodup) (k : Int) : ((L.filter fun a => decide (a.2 = k)).map Prod.fst).Nodup := by
  unfold List.Nodup
  rw [List.pairwise_map]
  refine (h.filter _).imp_of_mem fun {a b} ha hb hne e => hne ?_
  have h1 := (List.mem_filter.1 ha).2
  have h2 := (List.mem_filter.1 hb).2
  simp at h1 h2
  exact Prod.ext e (h1.trans h2.symm)
theorem gath1_ok {nl n : Nat} {L : List Ar} {s : Gs} {a : Ar} (h : Gt nl L s) (hl : nl ≤ big) (hn : n ≤ big) (hk : 0 ≤ a.2 ∧ a.2 < nl) (hnd : L.Nodup) (hr : ∀ b ∈ L, 0 ≤ b.1 ∧ b.1 < n) : ∃ s', gath1 a s = some s' ∧ Gt nl (L ++ [a]) s' := by
  have hka : a.2.toNat < nl := by omega
  have ek : ((a.2.toNat : Nat) : Int) = a.2 := by omega
  have h1 : (s.1.getD a.2.toNat []).length ≤ n := by
    rw [h.src _ hka]
    refine nodup_ints (src_nd hnd _) ?_
    intro x hx
    obtain ⟨b, hb, rfl⟩ := List.mem_map.1 hx
    exact hr b (List.mem_filter.1 hb).1
  have h2 : s.2.length ≤ nl := nodup_ints h.nd (fun x hx => by obtain ⟨k, k1, k2, _⟩ := (h.mem x).1 hx; omega)
  unfold gath1
  rw [if_pos ⟨hk.1, by rw [h.len]; exact hk.2, by omega, by omega⟩]
  have hg : ∀ k : Nat, (s.1.set a.2.toNat (s.1.getD a.2.toNat [] ++ [a.1])).getD k [] = if a.2.toNat = k then s.1.getD k [] ++ [a.1] else s.1.getD k [] := by
    intro k
    have hlt : a.2.toNat < s.1.length := by rw [h.len]; exact hka
    simp only [List.getD_eq_getElem?_getD, List.getElem?_set, hlt, if_true]
    split
    · rename_i e; subst e; simp
    · rfl
  refine ⟨_, rfl, by simpa using h.len, ?_, ?_, ?_⟩
  · intro k hk'
    simp only
    rw [hg, List.filter_append, List.map_append, ← h.src k hk']
    by_cases e : a.2.toNat = k
    · rw [if_pos e]
      have : a.2 = (k : Int) := by omega
      simp [this]
    · rw [if_neg e]
      have : ¬ a.2 = (k : Int) := by omega
      simp [this]
  · simp only
    split
    · rename_i h0
      rw [List.nodup_append]
      refine ⟨h.nd, by simp, ?_⟩
      intro x hx y hy e
      rw [List.mem_singleton.1 hy] at e
      obtain ⟨k, k1, k2, k3⟩ := (h.mem x).1 hx
      have : k = a.2.toNat := by omega
      subst this
      exact k3 (List.length_eq_zero_iff.1 h0)
    · exact h.nd
  · intro x
    simp only
    have hm := h.mem x
    constructor
    · intro hx
      have : x ∈ s.2 ∨ x = a.2 := by
        split at hx
        · simpa using hx
        · exact .inl hx
      rcases this with hx | hx
      · obtain ⟨k, k1, k2, k3⟩ := hm.1 hx
        refine ⟨k, k1, k2, ?_⟩
        rw [hg]
        split
        · simp
        · exact k3
      · refine ⟨a.2.toNat, hka, by omega, ?_⟩
        rw [hg, if_pos rfl]
        simp
    · rintro ⟨k, k1, k2, k3⟩
      rw [hg] at k3
      by_cases e : a.2.toNat = k
      · split
        · rename_i h0
          rw [List.mem_append, List.mem_singleton]
          right; omega
        · rename_i h0
          refine hm.2 ⟨k, k1, k2, ?_⟩
          subst e
          intro e2
          rw [e2] at h0
          exact h0 rfl
      · rw [if_neg e] at k3
        have := hm.2 ⟨k, k1, k2, k3⟩
        split
        · exact List.mem_append_left _ this
        · exact this
theorem gathW_ok {nl n : Nat} (hl : nl ≤ big) (hn : n ≤ big) : ∀ (l L : List Ar) (s : Gs), Gt nl L s → (L ++ l).Nodup → (∀ b ∈ L ++ l, (0 ≤ b.1 ∧ b.1 < n) ∧ (0 ≤ b.2 ∧ b.2 < nl)) → ∃ s', gathW l s = some s' ∧ Gt nl (L ++ l) s'
  | [], L, s, h, _, _ => ⟨s, rfl, by simpa using h⟩
  | a :: l, L, s, h, hnd, hr => by
    obtain ⟨s1, h1, h2⟩ := gath1_ok (a := a) h hl hn (hr a (by simp)).2 (List.nodup_append.1 hnd).1 (fun b hb => (hr b (List.mem_append_left _ hb)).1)
    unfold gathW
    rw [h1]
    simp only
    have e : L ++ a :: l = (L ++ [a]) ++ l := by simp
    rw [e] at hnd hr ⊢
    exact gathW_ok hl hn l _ s1 h2 hnd hr
theorem gathS_ok {m : Mac} (hw : Short (arrive m) 30000000) {nl n : Nat} (hl : nl ≤ big) (hn : n ≤ big) : ∀ (xs : List Int) (L : List Ar) (s : Gs), Gt nl L s → (∀ x ∈ xs, 0 ≤ x ∧ x < m.next.length) → (L ++ into m xs).Nodup → (∀ b ∈ L ++ into m xs, (0 ≤ b.1 ∧ b.1 < n) ∧ (0 ≤ b.2 ∧ b.2 < nl)) → ∃ s', gathS (arrive m) xs s = some s' ∧ Gt nl (L ++ into m xs) s'
  | [], L, s, h, _, _, _ => ⟨s, rfl, by simpa [into] using h⟩
  | x :: xs, L, s, h, hx, hnd, hr => by
    have e : L ++ into m (x :: xs) = (L ++ (arrive m).getD x.toNat []) ++ into m xs := by simp [into]
    rw [e] at hnd hr ⊢
    obtain ⟨s1, h1, h2⟩ := gathW_ok hl hn ((arrive m).getD x.toNat []) L s h (List.nodup_append.1 hnd).1 (fun b hb => hr b (List.mem_append_left _ hb))
    have hx0 := hx x (.head _)
    unfold gathS
    rw [if_pos ⟨hx0.1, by rw [arrive_length]; exact hx0.2, Nat.le_trans (hw _) (by unfold big; omega)⟩, h1]
    exact gathS_ok hw hl hn xs _ s1 h2 (fun y hy => hx y (.tail _ hy)) hnd hr
end Go.Proofs.Ytmoniecknimmdaa.A
end
section
namespace Go.Proofs.Ytmoniecknimmdaa.A
open Classical in
/-- The class of a state, -1 if nothing lives there. -/
noncomputable def kap (m : Mac) (g : Gh) (x : Int) : Int := if Alive m x then (g.c x.toNat : Int) else -1
theorem mem_span {K K' : Nat} {x : Int} : x ∈ span K K' ↔ (K : Int) ≤ x ∧ x < (K' : Int) := by
  unfold span
  rw [List.mem_map]
  constructor
  · rintro ⟨i, h1, rfl⟩
    have := List.mem_range.1 h1
    omega
  · rintro ⟨h1, h2⟩
    exact ⟨x.toNat - K, List.mem_range.2 (by omega), by omega⟩
theorem span_length (K K' : Nat) : (span K K').length = K' - K := by simp [span]
/-- Two states' classes agree, or one of them is still to be done. -/
def Near (m : Mac) (g : Gh) (tl : List Int) (x y : Int) : Prop := kap m g x = kap m g y ∨ kap m g x ∈ tl ∨ kap m g y ∈ tl
/-- The partition gets finer: a state keeps its class's number, or gets a new one that is to be done. -/
def Finer (m : Mac) (g g' : Gh) (tl tl' : List Int) : Prop := (∀ x ∈ tl, x ∈ tl') ∧ ∀ x, In m x → kap m g' x = kap m g x ∨ kap m g' x ∈ tl'
theorem Near.finer {m : Mac} {g g' : Gh} {tl tl' : List Int} {x y : Int} (hx : In m x) (hy : In m y) (F : Finer m g g' tl tl') (h : Near m g tl x y) : Near m g' tl' x y := by
  rcases F.2 x hx with e1 | e1
  · rcases F.2 y hy with e2 | e2
    · unfold Near
      rw [e1, e2]
      rcases h with h | h | h
      · exact .inl h
      · exact .inr (.inl (F.1 _ h))
      · exact .inr (.inr (F.1 _ h))
    · exact .inr (.inr e2)
  · exact .inr (.inl e1)
/-- What holds between two letters of a class that is done: xs are its states, ls the letters that are left. -/
structure Hop (m : Mac) (N K : Nat) (g : Gh) (d : Pd) (tl : List Int) (xs : List Int) (c : Int) (ls : List Int) : Prop where
  part : Part m.next.length N K (fun s => Alive m s) (fun _ => False) g d
  tlen : tl.length ≤ K
  trng : ∀ x ∈ tl, 0 ≤ x ∧ x < (K : Int)
  near : ∀ s t : Nat, s < m.next.length → t < m.next.length → Alive m s → Alive m t → g.c s = g.c t → ∀ a, 0 ≤ a → a < m.letters → Near m g tl (lead m s a) (lead m t a) ∨ (a ∈ ls ∧ (lead m s a ∈ xs ∨ lead m t a ∈ xs))
  own : ∀ x ∈ xs, kap m g x = c ∨ kap m g x ∈ tl
  fine : ∀ s t : Nat, s < m.next.length → t < m.next.length → Alive m s → Alive m t → g.c s ≠ g.c t → Tell m s t
  ends : ∀ s t : Nat, s < m.next.length → t < m.next.length → Alive m s → Alive m t → g.c s = g.c t → m.fin.getD s false = m.fin.getD t false
theorem Hop.letter {m : Mac} (hf : Fits m) {N K : Nat} {g : Gh} {d : Pd} {tl xs ls ws : List Int} {c a : Int} (h : Hop m N K g d tl xs c (a :: ls)) (hN : N ≤ big) (ha : 0 ≤ a ∧ a < m.letters)
    (hx : ∀ x ∈ xs, In m x ∧ Alive m x) (hxs : ∀ x y, In m x → In m y → x ∈ xs → y ∉ xs → Tell m x y) (hnd : ws.Nodup) (hws : ∀ x, x ∈ ws ↔ ((0 ≤ x ∧ x < m.next.length) ∧ lead m x a ∈ xs)) :
    ∃ d' g' K', divideO d ws = some (d', span K K') ∧ K ≤ K' ∧ Hop m N K' g' d' (tl ++ span K K') xs c ls := by
  obtain ⟨d', g', K', e1, e2, e3, e4, e5⟩ := divide_ok h.part hN hnd (fun x hxw => by
    obtain ⟨k1, k2⟩ := (hws x).1 hxw
    have ex : ((x.toNat : Nat) : Int) = x := by omega
    exact ⟨x.toNat, ex.symm, by omega, by rw [ex]; exact Alive.step ha.1 ha.2 (hx _ k2).2⟩)
  have F : Finer m g g' tl (tl ++ span K K') := by
    refine ⟨fun x hx => List.mem_append_left _ hx, fun x hi => ?_⟩
    unfold kap
    split
    · rename_i hal
      obtain ⟨k1, k2⟩ := alive_in hi hal
      have hal' : Alive m ((x.toNat : Nat) : Int) := by rw [k2]; exact hal
      rcases e5 _ k1 hal' with k3 | k3
      · exact .inl (by rw [k3])
      · have := (e3.pr _ k1 hal').2.2
        exact .inr (List.mem_append_right _ (mem_span.2 (by omega)))
    · exact .inl rfl
  have hIn : ∀ s : Nat, s < m.next.length → In m (s : Int) := fun s hs => ⟨by omega, by omega⟩
  have hmem : ∀ s : Nat, s < m.next.length → ((s : Int) ∈ ws ↔ lead m s a ∈ xs) := fun s hs => by
    rw [hws]
    exact ⟨fun h => h.2, fun h => ⟨by omega, h⟩⟩
  refine ⟨d', g', K', e1, e2, e3, ?_, ?_, ?_, ?_, ?_, ?_⟩
  · rw [List.length_append, span_length]
    have := h.tlen
    omega
  · intro x hx
    rcases List.mem_append.1 hx with hx | hx
    · have := h.trng x hx; omega
    · have := mem_span.1 hx; omega
  · intro s t hs ht hAs hAt hc b hb hbl
    obtain ⟨k1, k2⟩ := (e4 s t hs ht hAs hAt).1 hc
    have i1 := hf.lead (hIn s hs) hb hbl
    have i2 := hf.lead (hIn t ht) hb hbl
    rcases h.near s t hs ht hAs hAt k1 b hb hbl with hn | ⟨hb2, hn⟩
    · exact .inl (hn.finer i1 i2 F)
    · rcases List.mem_cons.1 hb2 with rfl | hb3
      · rw [hmem s hs, hmem t ht] at k2
        have both : lead m s b ∈ xs ∧ lead m t b ∈ xs := by
          rcases hn with hn | hn
          · exact ⟨hn, k2.1 hn⟩
          · exact ⟨k2.2 hn, hn⟩
        have hnear : Near m g tl (lead m s b) (lead m t b) := by
          rcases h.own _ both.1 with o1 | o1
          · rcases h.own _ both.2 with o2 | o2
            · exact .inl (o1.trans o2.symm)
            · exact .inr (.inr o2)
          · exact .inr (.inl o1)
        exact .inl (hnear.finer i1 i2 F)
      · exact .inr ⟨hb3, hn⟩
  · intro x hxx
    rcases F.2 x (hx x hxx).1 with k | k
    · rw [k]
      rcases h.own x hxx with o | o
      · exact .inl o
      · exact .inr (F.1 _ o)
    · exact .inr k
  · intro s t hs ht hAs hAt hne
    by_cases hc : g.c s = g.c t
    · have : ¬ ((s : Int) ∈ ws ↔ (t : Int) ∈ ws) := fun h2 => hne ((e4 s t hs ht hAs hAt).2 ⟨hc, h2⟩)
      rw [hmem s hs, hmem t ht] at this
      have i1 := hf.lead (hIn s hs) ha.1 ha.2
      have i2 := hf.lead (hIn t ht) ha.1 ha.2
      refine Tell.step ha.1 ha.2 ?_
      by_cases h1 : lead m s a ∈ xs
      · exact hxs _ _ i1 i2 h1 (fun h2 => this ⟨fun _ => h2, fun _ => h1⟩)
      · have h2 : lead m t a ∈ xs := by
          refine Classical.byContradiction fun h2 => this ⟨fun h3 => absurd h3 h1, fun h3 => absurd h3 h2⟩
        exact (hxs _ _ i2 i1 h2 h1).symm
    · exact h.fine s t hs ht hAs hAt hc
  · intro s t hs ht hAs hAt hc
    exact h.ends s t hs ht hAs hAt ((e4 s t hs ht hAs hAt).1 hc).1
end Go.Proofs.Ytmoniecknimmdaa.A
end
section
namespace Go.Proofs.Ytmoniecknimmdaa.A
/-- A letter's sources, as they are gathered. -/
structure Srs (m : Mac) (xs ws : List Int) (a : Int) : Prop where
  rng : 0 ≤ a ∧ a < m.letters
  some_ : ws ≠ []
  nd : ws.Nodup
  mem : ∀ x, x ∈ ws ↔ ((0 ≤ x ∧ x < m.next.length) ∧ lead m x a ∈ xs)
theorem lettersO_ok {m : Mac} (hf : Fits m) (hn : m.next.length ≤ 100000) {N : Nat} (hN : N ≤ big) {xs : List Int} {c : Int} (hx : ∀ x ∈ xs, In m x ∧ Alive m x) (hxs : ∀ x y, In m x → In m y → x ∈ xs → y ∉ xs → Tell m x y) {nl : Nat} (hnl : (nl : Int) = m.letters) :
    ∀ (ls : List Int) (K : Nat) (g : Gh) (d : Pd) (tl : List Int) (srcs : List (List Int)), Hop m N K g d tl xs c ls → srcs.length = nl → ls.Nodup → (∀ a ∈ ls, Srs m xs (srcs.getD a.toNat []) a) →
    ∃ d' g' K' tl' srcs', lettersO ls d srcs tl = some (d', srcs', tl') ∧ K ≤ K' ∧ tl'.length + K = tl.length + K' ∧ Hop m N K' g' d' tl' xs c [] ∧ srcs'.length = nl ∧ ∀ k : Nat, srcs'.getD k [] = if (k : Int) ∈ ls then [] else srcs.getD k []
  | [], K, g, d, tl, srcs, h, hl, _, _ => ⟨d, g, K, tl, srcs, rfl, Nat.le_refl _, rfl, h, hl, fun k => by simp⟩
  | a :: ls, K, g, d, tl, srcs, h, hl, hnd, hs => by
    obtain ⟨s1, s2, s3, s4⟩ := hs a (.head _)
    obtain ⟨n1, n2⟩ := List.nodup_cons.1 hnd
    have hlt : a.toNat < srcs.length := by omega
    have hlen : (srcs.getD a.toNat []).length ≤ m.next.length := nodup_ints s3 (fun x hx => ((s4 x).1 hx).1)
    obtain ⟨d1, g1, K1, e1, e2, e3⟩ := h.letter hf hN s1 hx hxs s3 s4
    have hfew := e3.part.few
    have htl := e3.tlen
    have hset : ∀ k : Nat, (srcs.set a.toNat []).getD k [] = if a.toNat = k then [] else srcs.getD k [] := by
      intro k
      simp only [List.getD_eq_getElem?_getD, List.getElem?_set, hlt, if_true]
      split <;> simp
    obtain ⟨d', g', K', tl', srcs', f1, f2, f3, f4, f5, f6⟩ := lettersO_ok hf hn hN hx hxs hnl ls K1 g1 d1 _ (srcs.set a.toNat []) e3 (by simpa using hl) n2 (fun b hb => by
      have hb1 := hs b (.tail _ hb)
      have : a.toNat ≠ b.toNat := by
        intro e
        have := hb1.rng
        exact n1 ((by omega : b = a) ▸ hb)
      rw [hset, if_neg this]
      exact hb1)
    refine ⟨d', g', K', tl', srcs', ?_, Nat.le_trans e2 f2, ?_, f4, f5, ?_⟩
    · unfold lettersO
      rw [if_pos ⟨s1.1, by omega, List.length_pos_iff.2 s2, by omega⟩, e1]
      simp only
      rw [if_pos (by rw [List.length_append] at htl; omega)]
      exact f1
    · rw [List.length_append, span_length] at f3
      omega
    · intro k
      rw [f6, hset]
      by_cases e : (k : Int) ∈ ls
      · rw [if_pos e, if_pos (List.mem_cons_of_mem _ e)]
      · rw [if_neg e]
        by_cases e2 : a.toNat = k
        · rw [if_pos e2, if_pos (by rw [List.mem_cons]; left; omega)]
        · rw [if_neg e2, if_neg]
          rw [List.mem_cons]
          rintro (h | h)
          · omega
          · exact e h
theorem partOf_eq {n N K : Nat} {A M : Nat → Prop} {g : Gh} {d : Pd} (h : Part n N K A M g d) {k : Nat} (hk : k < K) : partOf d (g.b k) (g.e k) = (List.range (g.e k - g.b k)).map fun i => ((g.r (g.b k + i) : Nat) : Int) := by
  obtain ⟨b1, b2, b3⟩ := h.be k hk
  have hrl := h.rl
  unfold partOf
  apply List.ext_getElem
  · simp; omega
  · intro i h1 h2
    have hi : i < g.e k - g.b k := by simpa using h2
    have := h.er (g.b k + i) (by omega)
    have hlt : g.b k + i < d.row.length := by omega
    simp [hlt] at this
    simp [this]
theorem partOf_mem {n N K : Nat} {A M : Nat → Prop} {g : Gh} {d : Pd} (h : Part n N K A M g d) {k : Nat} (hk : k < K) (x : Int) : x ∈ partOf d (g.b k) (g.e k) ↔ ∃ s : Nat, x = (s : Int) ∧ s < n ∧ A s ∧ g.c s = k := by
  obtain ⟨b1, b2, b3⟩ := h.be k hk
  rw [partOf_eq h hk, List.mem_map]
  constructor
  · rintro ⟨i, hi, rfl⟩
    have hi' := List.mem_range.1 hi
    obtain ⟨r1, r2, r3⟩ := h.rp (g.b k + i) (by omega)
    exact ⟨_, rfl, r1, r2, (h.io _ r1 r2 k hk).2 (by omega)⟩
  · rintro ⟨s, rfl, hs, hA, hc⟩
    obtain ⟨p1, p2, p3⟩ := h.pr s hs hA
    have := (h.io s hs hA k hk).1 hc
    exact ⟨g.p s - g.b k, List.mem_range.2 (by omega), by rw [show g.b k + (g.p s - g.b k) = g.p s by omega, p2]⟩
theorem partOf_nd {n N K : Nat} {A M : Nat → Prop} {g : Gh} {d : Pd} (h : Part n N K A M g d) {k : Nat} (hk : k < K) : (partOf d (g.b k) (g.e k)).Nodup := by
  obtain ⟨b1, b2, b3⟩ := h.be k hk
  rw [partOf_eq h hk]
  unfold List.Nodup
  rw [List.pairwise_map]
  refine List.nodup_range.imp_of_mem fun {i j} hi hj hne e => hne ?_
  have hi' := List.mem_range.1 hi
  have hj' := List.mem_range.1 hj
  have r1 := (h.rp (g.b k + i) (by omega)).2.2
  have r2 := (h.rp (g.b k + j) (by omega)).2.2
  have e' : g.r (g.b k + i) = g.r (g.b k + j) := by omega
  rw [e'] at r1
  omega
end Go.Proofs.Ytmoniecknimmdaa.A
end
section
namespace Go.Proofs.Ytmoniecknimmdaa.A
theorem kap_alive {m : Mac} {g : Gh} {x : Int} (h : Alive m x) : kap m g x = (g.c x.toNat : Int) := by
  unfold kap; rw [if_pos h]
theorem kap_dead {m : Mac} {g : Gh} {x : Int} (h : ¬ Alive m x) : kap m g x = -1 := by
  unfold kap; rw [if_neg h]
theorem classO_ok {m : Mac} (hf : Fits m) (hn : m.next.length ≤ 100000) (hl3 : m.letters ≤ 300) {N : Nat} (hN : N ≤ big) {nl : Nat} (hnl : (nl : Int) = m.letters) :
    ∀ (f K : Nat) (g : Gh) (d : Pd) (tl : List Int) (srcs : List (List Int)), Hop m N K g d tl [] 0 [] → srcs.length = nl → (∀ k : Nat, srcs.getD k [] = []) → tl.length + N ≤ f + K →
    ∃ d' g' K', classO (arrive m) f d srcs tl = some d' ∧ Hop m N K' g' d' [] [] 0 []
  | f, K, g, d, tl, srcs, h, hl, he, hfu => by
    have hfew := h.part.few
    unfold classO
    by_cases h0 : tl.length = 0
    · rw [if_pos h0]
      have : tl = [] := List.length_eq_zero_iff.1 h0
      subst this
      exact ⟨d, g, K, rfl, h⟩
    · rw [if_neg h0]
      match f, hfu with
      | 0, hfu => omega
      | f + 1, hfu =>
        simp only
        have hlt : tl.length - 1 < tl.length := by omega
        have ec : tl.getD (tl.length - 1) 0 = tl[tl.length - 1] := by simp [hlt]
        have hc := h.trng _ (List.getElem_mem hlt)
        rw [← ec] at hc
        have hsplit : ∀ x, x ∈ tl ↔ x ∈ tl.take (tl.length - 1) ∨ x = tl.getD (tl.length - 1) 0 := by
          intro x
          have : tl = tl.take (tl.length - 1) ++ [tl.getD (tl.length - 1) 0] := by
            rw [ec]
            conv => lhs; rw [← List.take_append_drop (tl.length - 1) tl]
            congr 1
            rw [List.drop_eq_getElem_cons hlt, List.drop_of_length_le (by omega)]
          conv => lhs; rw [this]
          simp
        generalize tl.getD (tl.length - 1) 0 = c at hc hsplit ⊢
        have hk : c.toNat < K := by omega
        have eck : ((c.toNat : Nat) : Int) = c := by omega
        obtain ⟨b1, b2, b3⟩ := h.part.be _ hk
        have hrl := h.part.rl
        rw [if_pos hc.1, natO_is (by rw [h.part.bl]; exact hk) (h.part.eb _ hk)]
        simp only
        rw [natO_is (by rw [h.part.fl]; exact hk) (h.part.ef _ hk)]
        simp only
        rw [if_pos ⟨b1, by omega, by omega⟩]
        have hmem := partOf_mem h.part hk
        have hpnd := partOf_nd h.part hk
        generalize partOf d (g.b c.toNat) (g.e c.toNat) = xs at hmem hpnd ⊢
        have hrng : ∀ x ∈ xs, 0 ≤ x ∧ x < m.next.length := fun x hx => by
          obtain ⟨s, rfl, k1, _⟩ := (hmem x).1 hx
          omega
        have hxal : ∀ x ∈ xs, In m x ∧ Alive m x := fun x hx => by
          obtain ⟨s, rfl, k1, k2, _⟩ := (hmem x).1 hx
          exact ⟨⟨by omega, by omega⟩, k2⟩
        have hxs : ∀ x y, In m x → In m y → x ∈ xs → y ∉ xs → Tell m x y := by
          intro x y hix hiy hx hy
          obtain ⟨s, rfl, k1, k2, k3⟩ := (hmem x).1 hx
          by_cases hay : Alive m y
          · obtain ⟨j1, j2⟩ := alive_in hiy hay
            have hay' : Alive m ((y.toNat : Nat) : Int) := by rw [j2]; exact hay
            have := h.fine s y.toNat k1 j1 k2 hay' (fun e => hy ((hmem y).2 ⟨y.toNat, j2.symm, j1, hay', by omega⟩))
            rw [j2] at this
            exact this
          · exact alive_tell k2 hay
        have hG0 : Gt nl [] (srcs, []) := ⟨hl, fun k _ => by rw [he]; rfl, List.nodup_nil, fun x => ⟨fun hx => absurd hx (by simp), fun ⟨k, _, _, k3⟩ => absurd (he k) k3⟩⟩
        obtain ⟨s', g1, g2⟩ := gathS_ok (m := m) (waysOk.short (waysOk_all hf hn hl3)) (nl := nl) (n := m.next.length) (by unfold big; omega) (by unfold big; omega) xs [] (srcs, []) hG0 hrng (by simpa using into_nd hf hrng hpnd) (fun b hb => by
          have := (into_mem hf hrng b).1 (by simpa using hb)
          exact ⟨this.1.1, by rw [hnl]; exact this.1.2⟩)
        obtain ⟨srcs1, ls⟩ := s'
        rw [List.nil_append] at g2
        have hls : ls.length ≤ nl := nodup_ints g2.nd (fun x hx => by obtain ⟨k, k1, k2, _⟩ := (g2.mem x).1 hx; omega)
        rw [g1]
        simp only
        rw [if_pos (by unfold big; omega)]
        have hsrc : ∀ a : Int, 0 ≤ a → a < m.letters → ∀ x, x ∈ srcs1.getD a.toNat [] ↔ ((0 ≤ x ∧ x < m.next.length) ∧ lead m x a ∈ xs) := by
          intro a ha hal x
          have hs := g2.src a.toNat (by omega)
          simp only at hs
          rw [hs, List.mem_map]
          have ea : ((a.toNat : Nat) : Int) = a := by omega
          rw [ea]
          constructor
          · rintro ⟨b, hb, rfl⟩
            obtain ⟨f1, f2⟩ := List.mem_filter.1 hb
            have e2 : b.2 = a := by simpa using f2
            have := (into_mem hf hrng b).1 f1
            rw [e2] at this
            exact ⟨this.1.1, this.2⟩
          · rintro ⟨k1, k2⟩
            exact ⟨(x, a), List.mem_filter.2 ⟨(into_mem hf hrng (x, a)).2 ⟨⟨k1, ha, hal⟩, k2⟩, by simp⟩, rfl⟩
        have hmls : ∀ a : Int, a ∈ ls ↔ (0 ≤ a ∧ a < m.letters) ∧ srcs1.getD a.toNat [] ≠ [] := by
          intro a
          have := g2.mem a
          simp only at this
          rw [this]
          constructor
          · rintro ⟨k, k1, rfl, k3⟩
            exact ⟨by omega, by simpa using k3⟩
          · rintro ⟨k1, k2⟩
            exact ⟨a.toNat, by omega, by omega, k2⟩
        have hkx : ∀ x, In m x → kap m g x = c → x ∈ xs := by
          intro x hi e
          by_cases hal : Alive m x
          · rw [kap_alive hal] at e
            obtain ⟨j1, j2⟩ := alive_in hi hal
            exact (hmem x).2 ⟨x.toNat, j2.symm, j1, by rw [j2]; exact hal, by omega⟩
          · rw [kap_dead hal] at e; omega
        have hop : Hop m N K g d (tl.take (tl.length - 1)) xs c ls := by
          refine ⟨h.part, ?_, fun x hx => h.trng x ((hsplit x).2 (.inl hx)), ?_, ?_, h.fine, h.ends⟩
          · have := h.tlen
            rw [List.length_take]; omega
          · intro s t hs ht hAs hAt hcc a ha hal
            have i1 := hf.lead (s := (s : Int)) ⟨by omega, by omega⟩ ha hal
            have i2 := hf.lead (s := (t : Int)) ⟨by omega, by omega⟩ ha hal
            have hin : ∀ u : Nat, u < m.next.length → lead m u a ∈ xs → a ∈ ls := by
              intro u hu hm
              refine (hmls a).2 ⟨⟨ha, hal⟩, fun e => ?_⟩
              have := (hsrc a ha hal (u : Int)).2 ⟨by omega, hm⟩
              rw [e] at this
              simp at this
            rcases h.near s t hs ht hAs hAt hcc a ha hal with hn | ⟨hn, _⟩
            · rcases hn with hn | hn | hn
              · exact .inl (.inl hn)
              · rcases (hsplit _).1 hn with hn | hn
                · exact .inl (.inr (.inl hn))
                · have := hkx _ i1 hn
                  exact .inr ⟨hin s hs this, .inl this⟩
              · rcases (hsplit _).1 hn with hn | hn
                · exact .inl (.inr (.inr hn))
                · have := hkx _ i2 hn
                  exact .inr ⟨hin t ht this, .inr this⟩
            · cases hn
          · intro x hx
            obtain ⟨s, rfl, k1, k2, k3⟩ := (hmem x).1 hx
            left
            rw [kap_alive k2]
            simp only [Int.toNat_natCast]
            omega
        have hsl : srcs1.length = nl := g2.len
        obtain ⟨d1, g', K1, tl1, srcs2, f1, f2, f3, f4, f5, f6⟩ := lettersO_ok hf hn hN hxal hxs hnl ls K g d _ srcs1 hop hsl g2.nd (fun a ha => by
          obtain ⟨k1, k2⟩ := (hmls a).1 ha
          refine ⟨k1, k2, ?_, hsrc a k1.1 k1.2⟩
          have hs := g2.src a.toNat (by omega)
          simp only at hs
          rw [hs]
          exact src_nd (into_nd hf hrng hpnd) _)
        rw [f1]
        simp only
        refine classO_ok hf hn hl3 hN hnl f K1 g' d1 tl1 srcs2 ⟨f4.part, f4.tlen, f4.trng, ?_, fun x hx => absurd hx (by simp), f4.fine, f4.ends⟩ f5 ?_ ?_
        · intro s t hs ht hAs hAt hcc a ha hal
          rcases f4.near s t hs ht hAs hAt hcc a ha hal with hn | ⟨hn, _⟩
          · exact .inl hn
          · cases hn
        · intro k
          rw [f6]
          split
          · rfl
          · rename_i hnk
            by_cases hkl : k < nl
            · refine Classical.byContradiction fun hne => hnk ((hmls _).2 ⟨by omega, by simpa using hne⟩)
            · simp only [List.getD_eq_getElem?_getD]
              rw [List.getElem?_eq_none (by omega)]
              rfl
        · rw [List.length_take] at f3
          omega
end Go.Proofs.Ytmoniecknimmdaa.A
end
section
namespace Go.Proofs.Ytmoniecknimmdaa.A
/-- A partition that is being built: S are put in, T are in classes, those that stand before N0. -/
structure Bld (n N N0 K : Nat) (S T : Nat → Prop) (g : Gh) (d : Pd) : Prop where
  rl : d.row.length = N
  pl : d.place.length = n
  cl : d.cls.length = n
  bl : d.beg.length = K
  fl : d.fin.length = K
  ml : d.mkd.length = K
  le : N0 ≤ N
  er : ∀ i, i < N → d.row.getD i 0 = (g.r i : Int)
  ep : ∀ s, s < n → S s → d.place.getD s 0 = (g.p s : Int)
  rp : ∀ i, i < N → g.r i < n ∧ S (g.r i) ∧ g.p (g.r i) = i
  pr : ∀ s, s < n → S s → g.p s < N ∧ g.r (g.p s) = s
  tS : ∀ s, s < n → (T s ↔ S s ∧ g.p s < N0)
  ec : ∀ s, s < n → T s → d.cls.getD s 0 = (g.c s : Int) ∧ g.c s < K
  eb : ∀ k, k < K → d.beg.getD k 0 = (g.b k : Int)
  ef : ∀ k, k < K → d.fin.getD k 0 = (g.e k : Int)
  em : ∀ k, k < K → d.mkd.getD k 0 = 0
  be : ∀ k, k < K → g.b k < g.e k ∧ g.e k ≤ N0
  io : ∀ s, s < n → T s → ∀ k, k < K → (g.c s = k ↔ g.b k ≤ g.p s ∧ g.p s < g.e k)
theorem Bld.put {n N N0 K : Nat} {S T : Nat → Prop} {g : Gh} {d : Pd} (h : Bld n N N0 K S T g d) {k : Nat} (hk : k < n) (hS : ¬ S k) :
    Bld n (N + 1) N0 K (fun t => S t ∨ t = k) T { g with r := fun i => if i = N then k else g.r i, p := fun t => if t = k then N else g.p t } { d with place := d.place.set k (d.row.length : Int), row := d.row ++ [(k : Int)] } := by
  have hT : ∀ s, s < n → T s → s ≠ k := fun s hs ht e => hS (e ▸ ((h.tS s hs).1 ht).1)
  refine ⟨by simp [h.rl], by simpa using h.pl, h.cl, h.bl, h.fl, h.ml, by have := h.le; omega, ?_, ?_, ?_, ?_, ?_, h.ec, h.eb, h.ef, h.em, h.be, ?_⟩
  · intro i hi
    simp only
    rw [getD_app1 (n := N) h.rl]
    split
    · rfl
    · exact h.er i (by omega)
  · intro s hs hSs
    simp only
    rw [getD_setH (by rw [h.pl]; exact hk), h.rl]
    by_cases e : s = k
    · rw [if_pos e.symm, if_pos e]
    · rw [if_neg (fun e2 => e e2.symm), if_neg e]
      exact h.ep s hs (hSs.resolve_right e)
  · intro i hi
    simp only
    by_cases e : i = N
    · rw [if_pos e]
      exact ⟨hk, .inr rfl, by rw [if_pos rfl, e]⟩
    · rw [if_neg e]
      obtain ⟨k1, k2, k3⟩ := h.rp i (by omega)
      have hne : g.r i ≠ k := fun e2 => hS (e2 ▸ k2)
      exact ⟨k1, .inl k2, by rw [if_neg hne]; exact k3⟩
  · intro s hs hSs
    simp only
    by_cases e : s = k
    · simp only [e, if_true]
      exact ⟨Nat.lt_succ_self N, trivial⟩
    · simp only [e, if_false]
      obtain ⟨k1, k2⟩ := h.pr s hs (hSs.resolve_right e)
      refine ⟨by omega, ?_⟩
      rw [if_neg (by omega)]
      exact k2
  · intro s hs
    simp only
    have hle := h.le
    by_cases e : s = k
    · simp only [e, if_true]
      constructor
      · intro ht; exact absurd rfl (hT k hk ht)
      · rintro ⟨_, h2⟩; omega
    · simp only [e, if_false, or_false]
      exact h.tS s hs
  · intro s hs ht j hj
    simp only
    rw [if_neg (hT s hs ht)]
    exact h.io s hs ht j hj
theorem Bld.class_ {n N N0 K : Nat} {S T : Nat → Prop} {g : Gh} {d : Pd} (h : Bld n N N0 K S T g d) (hlt : N0 < N) :
    Bld n N N (K + 1) S S { g with c := fun t => if N0 ≤ g.p t then K else g.c t, b := fun j => if j = K then N0 else g.b j, e := fun j => if j = K then N else g.e j } (d.added N0 N) := by
  have hrow : ∀ i, i < N - N0 → d.row.getD (N0 + i) 0 = (g.r (N0 + i) : Int) ∧ g.r (N0 + i) < d.cls.length := fun i hi =>
    ⟨h.er _ (by omega), by rw [h.cl]; exact (h.rp _ (by omega)).1⟩
  refine ⟨h.rl, h.pl, by simp only [Pd.added]; rw [clsTo_len]; exact h.cl, by simp [Pd.added, h.bl], by simp [Pd.added, h.fl], by simp [Pd.added, h.ml], Nat.le_refl _, h.er, h.ep, h.rp, h.pr, fun s hs => ⟨fun hS => ⟨hS, (h.pr s hs hS).1⟩, fun hS => hS.1⟩, ?_, ?_, ?_, ?_, ?_, ?_⟩
  · intro s hs hS
    simp only [Pd.added]
    rw [h.bl, clsTo_get (r := g.r) s _ hrow]
    obtain ⟨k1, k2⟩ := h.pr s hs hS
    by_cases e : N0 ≤ g.p s
    · rw [if_pos e, if_pos ⟨g.p s - N0, by omega, by rw [show N0 + (g.p s - N0) = g.p s by omega]; exact k2⟩]
      exact ⟨rfl, by omega⟩
    · have hT := (h.tS s hs).2 ⟨hS, by omega⟩
      rw [if_neg e, if_neg]
      · have := h.ec s hs hT
        exact ⟨this.1, by omega⟩
      · rintro ⟨i, hi, rfl⟩
        have := (h.rp (N0 + i) (by omega)).2.2
        omega
  · intro j hj
    simp only [Pd.added]
    rw [getD_app1 (n := K) h.bl]
    split
    · rfl
    · exact h.eb j (by omega)
  · intro j hj
    simp only [Pd.added]
    rw [getD_app1 (n := K) h.fl]
    split
    · rfl
    · exact h.ef j (by omega)
  · intro j hj
    simp only [Pd.added]
    rw [getD_app1 (n := K) h.ml]
    split
    · rfl
    · exact h.em j (by omega)
  · intro j hj
    simp only
    by_cases e : j = K
    · simp only [e, if_true]; omega
    · simp only [e, if_false]
      have := h.be j (by omega)
      omega
  · intro s hs hS j hj
    simp only
    obtain ⟨k1, k2⟩ := h.pr s hs hS
    by_cases e0 : N0 ≤ g.p s
    · rw [if_pos e0]
      by_cases e : j = K
      · rw [if_pos e, if_pos e, e]
        exact ⟨fun _ => ⟨e0, k1⟩, fun _ => rfl⟩
      · simp only [e, if_false]
        have := h.be j (by omega)
        omega
    · have hT := (h.tS s hs).2 ⟨hS, by omega⟩
      have := (h.ec s hs hT).2
      rw [if_neg e0]
      by_cases e : j = K
      · simp only [e, if_true]; omega
      · simp only [e, if_false]
        exact h.io s hs hT j (by omega)
end Go.Proofs.Ytmoniecknimmdaa.A
end
section
namespace Go.Proofs.Ytmoniecknimmdaa.A
theorem Bld.congr {n N N0 K : Nat} {S S' T T' : Nat → Prop} {g : Gh} {d : Pd} (h : Bld n N N0 K S T g d) (e : ∀ t, S' t ↔ S t) (eT : ∀ t, t < n → (T' t ↔ T t)) : Bld n N N0 K S' T' g d := by
  have : S' = S := funext fun t => propext (e t)
  subst this
  exact ⟨h.rl, h.pl, h.cl, h.bl, h.fl, h.ml, h.le, h.er, h.ep, h.rp, h.pr, fun s hs => (eT s hs).trans (h.tS s hs), fun s hs ht => h.ec s hs ((eT s hs).1 ht), h.eb, h.ef, h.em, h.be, fun s hs ht => h.io s hs ((eT s hs).1 ht)⟩
/-- The states below k that live and whose end is b. -/
def Sel (m : Mac) (al : List Bool) (b : Bool) (k t : Nat) : Prop := t < k ∧ al.getD t false = true ∧ m.fin.getD t false = b
theorem endTo_bld {m : Mac} {al : List Bool} {b : Bool} {n N0 K : Nat} {S : Nat → Prop} {g : Gh} {d : Pd} (h : Bld n N0 N0 K S S g d) (hS : ∀ s, S s → m.fin.getD s false ≠ b) :
    ∀ k, k ≤ n → ∃ N g', Bld n N N0 K (fun t => S t ∨ Sel m al b k t) S g' (endTo m al b d k) ∧ g'.c = g.c
  | 0, _ => ⟨N0, g, h.congr (fun t => by simp [Sel]) (fun _ _ => Iff.rfl), rfl⟩
  | k + 1, hk => by
    obtain ⟨N, g', h1, h2⟩ := endTo_bld h hS k (by omega)
    unfold endTo
    by_cases hc : (al.getD k false && (m.fin.getD k false == b)) = true
    · rw [if_pos hc]
      have hc' : al.getD k false = true ∧ m.fin.getD k false = b := by simpa using hc
      have hn : ¬ (S k ∨ Sel m al b k k) := by
        rintro (h3 | h3)
        · exact hS k h3 hc'.2
        · exact absurd h3.1 (Nat.lt_irrefl k)
      refine ⟨N + 1, _, (h1.put (by omega) hn).congr (fun t => ?_) (fun _ _ => Iff.rfl), h2⟩
      constructor
      · rintro (h3 | h3)
        · exact .inl (.inl h3)
        · by_cases e : t = k
          · exact .inr e
          · exact .inl (.inr ⟨by have := h3.1; omega, h3.2⟩)
      · rintro ((h3 | h3) | h3)
        · exact .inl h3
        · exact .inr ⟨by have := h3.1; omega, h3.2⟩
        · rw [h3]; exact .inr ⟨Nat.lt_succ_self _, hc'⟩
    · rw [if_neg hc]
      refine ⟨N, g', h1.congr (fun t => ?_) (fun _ _ => Iff.rfl), h2⟩
      constructor
      · rintro (h3 | h3)
        · exact .inl h3
        · refine .inr ⟨?_, h3.2⟩
          by_cases e : t = k
          · exact absurd (by simpa using (e ▸ h3.2 : al.getD k false = true ∧ m.fin.getD k false = b)) hc
          · have := h3.1; omega
      · rintro (h3 | h3)
        · exact .inl h3
        · exact .inr ⟨by have := h3.1; omega, h3.2⟩
theorem roundB_bld {m : Mac} {al : List Bool} {b : Bool} {N0 K : Nat} {S : Nat → Prop} {g : Gh} {d : Pd} (h : Bld m.next.length N0 N0 K S S g d) (hS : ∀ s, S s → m.fin.getD s false ≠ b)
    (hc : ∀ s t, s < m.next.length → t < m.next.length → S s → S t → (g.c s = g.c t ↔ m.fin.getD s false = m.fin.getD t false)) :
    ∃ N K' g', Bld m.next.length N N K' (fun t => S t ∨ Sel m al b m.next.length t) (fun t => S t ∨ Sel m al b m.next.length t) g' (roundB m al b d) ∧
      ∀ s t, s < m.next.length → t < m.next.length → (S s ∨ Sel m al b m.next.length s) → (S t ∨ Sel m al b m.next.length t) → (g'.c s = g'.c t ↔ m.fin.getD s false = m.fin.getD t false) := by
  obtain ⟨N, g1, h1, h2⟩ := endTo_bld (m := m) (al := al) h hS m.next.length (Nat.le_refl _)
  have e1 := h.rl
  have e2 := h1.rl
  have hle := h1.le
  unfold roundB
  by_cases hlt : N0 < N
  · rw [if_pos (by rw [e1, e2]; exact hlt), e1, e2]
    refine ⟨N, K + 1, _, h1.class_ hlt, ?_⟩
    intro s t hs ht hSs hSt
    simp only
    have cls : ∀ u, u < m.next.length → (S u ∨ Sel m al b m.next.length u) → (¬ N0 ≤ g1.p u ∧ S u ∧ g1.c u < K) ∨ (N0 ≤ g1.p u ∧ m.fin.getD u false = b) := by
      intro u hu hSu
      by_cases hp : N0 ≤ g1.p u
      · refine .inr ⟨hp, ?_⟩
        rcases hSu with h3 | h3
        · have := (h1.tS u hu).1 h3; omega
        · exact h3.2.2
      · have hSu' := (h1.tS u hu).2 ⟨hSu, by omega⟩
        exact .inl ⟨hp, hSu', (h1.ec u hu hSu').2⟩
    rcases cls s hs hSs with ⟨a1, a2, a3⟩ | ⟨a1, a2⟩
    · rw [if_neg a1]
      rcases cls t ht hSt with ⟨b1, b2, b3⟩ | ⟨b1, b2⟩
      · rw [if_neg b1, h2]
        exact hc s t hs ht a2 b2
      · rw [if_pos b1, b2]
        exact ⟨fun e => by omega, fun e => absurd e (hS s a2)⟩
    · rw [if_pos a1]
      rcases cls t ht hSt with ⟨b1, b2, b3⟩ | ⟨b1, b2⟩
      · rw [if_neg b1, a2]
        exact ⟨fun e => by omega, fun e => absurd e.symm (hS t b2)⟩
      · rw [if_pos b1, a2, b2]
        exact ⟨fun _ => rfl, fun _ => rfl⟩
  · rw [if_neg (by rw [e1, e2]; exact hlt)]
    have eN : N = N0 := by omega
    subst eN
    have hback : ∀ u, u < m.next.length → (S u ∨ Sel m al b m.next.length u) → S u := fun u hu hSu => (h1.tS u hu).2 ⟨hSu, (h1.pr u hu hSu).1⟩
    refine ⟨N, K, g1, h1.congr (fun _ => Iff.rfl) (fun t ht => ⟨hback t ht, .inl⟩), ?_⟩
    intro s t hs ht hSs hSt
    rw [h2]
    exact hc s t hs ht (hback s hs hSs) (hback t ht hSt)
theorem deadTo_get (al : List Bool) (cls : List Int) (t : Nat) : ∀ k, k ≤ cls.length → (deadTo al cls k).getD t 0 = if t < k ∧ al.getD t false = false then -1 else cls.getD t 0
  | 0, _ => by
    rw [if_neg (fun h => absurd h.1 (Nat.not_lt_zero t))]
    rfl
  | k + 1, hk => by
    have ih := deadTo_get al cls t k (by omega)
    unfold deadTo
    by_cases ha : al.getD k false = true
    · rw [if_pos ha, ih]
      by_cases hc : t < k ∧ al.getD t false = false
      · rw [if_pos hc, if_pos ⟨by omega, hc.2⟩]
      · rw [if_neg hc, if_neg]
        rintro ⟨h1, h2⟩
        by_cases e : t = k
        · rw [e, ha] at h2; cases h2
        · exact hc ⟨by omega, h2⟩
    · rw [if_neg ha, getD_setH (by rw [deadTo_len]; omega), ih]
      have ha' : al.getD k false = false := by simpa using ha
      by_cases e : k = t
      · rw [if_pos e, if_pos ⟨by omega, e ▸ ha'⟩]
      · rw [if_neg e]
        by_cases hc : t < k ∧ al.getD t false = false
        · rw [if_pos hc, if_pos ⟨by omega, hc.2⟩]
        · rw [if_neg hc, if_neg]
          rintro ⟨h1, h2⟩
          exact hc ⟨by omega, h2⟩
theorem upto_mem {n : Nat} {x : Int} : x ∈ upto n ↔ 0 ≤ x ∧ x < (n : Int) := by
  unfold upto
  rw [List.mem_map]
  constructor
  · rintro ⟨i, h1, rfl⟩
    have := List.mem_range.1 h1
    omega
  · rintro ⟨h1, h2⟩
    exact ⟨x.toNat, List.mem_range.2 (by omega), by omega⟩
/-- The first partition, and what is to be done: all its classes. -/
theorem byEnd_ok {m : Mac} (hf : Fits m) {al : List Bool} (hal : ∀ s : Nat, s < m.next.length → (al.getD s false = true ↔ Alive m s)) :
    ∃ N K g, Hop m N K g (byEndP m al) (upto (byEndP m al).beg.length) [] 0 [] ∧ N ≤ m.next.length ∧ (byEndP m al).beg.length = K := by
  have h0 : Bld m.next.length 0 0 0 (fun _ => False) (fun _ => False) ⟨fun _ => 0, fun _ => 0, fun _ => 0, fun _ => 0, fun _ => 0, fun _ => 0⟩ (stage m al 0) :=
    ⟨rfl, by simp [stage, pd0], by simp [stage, pd0], rfl, rfl, rfl, Nat.le_refl _, fun i hi => absurd hi (by omega), fun _ _ h => h.elim, fun i hi => absurd hi (by omega), fun _ _ h => h.elim, fun _ _ => by simp, fun _ _ h => h.elim, fun i hi => absurd hi (by omega), fun i hi => absurd hi (by omega), fun i hi => absurd hi (by omega), fun i hi => absurd hi (by omega), fun _ _ h => h.elim⟩
  obtain ⟨N1, K1, g1, h1, c1⟩ := roundB_bld (al := al) (b := true) h0 (fun _ h => h.elim) (fun _ _ _ _ h => h.elim)
  obtain ⟨N, K, g, h2, c2⟩ := roundB_bld (al := al) (b := false) h1 (fun s h => by
    rcases h with h | h
    · exact h.elim
    · rw [h.2.2]; decide) c1
  have hst : roundB m al false (roundB m al true (stage m al 0)) = stage m al 2 := rfl
  rw [hst] at h2
  have hA : ∀ t, t < m.next.length → (((False ∨ Sel m al true m.next.length t) ∨ Sel m al false m.next.length t) ↔ Alive m t) := by
    intro t ht
    rw [← hal t ht]
    constructor
    · rintro ((h | h) | h)
      · exact h.elim
      · exact h.2.1
      · exact h.2.1
    · intro h
      cases hb : m.fin.getD t false with
      | true => exact .inl (.inr ⟨ht, h, hb⟩)
      | false => exact .inr ⟨ht, h, hb⟩
  have hcl := h2.cl
  have part : Part m.next.length N K (fun s => Alive m s) (fun _ => False) { g with m := fun _ => 0 } (byEndP m al) := by
    refine ⟨h2.rl, h2.pl, by simp only [byEndP]; rw [deadTo_len]; exact h2.cl, h2.bl, h2.fl, h2.ml, h2.er, fun s hs hAs => h2.ep s hs ((hA s hs).2 hAs), ?_, ?_, h2.eb, h2.ef, fun k hk => by simp only [byEndP]; rw [h2.em k hk]; rfl, ?_, ?_, ?_, ?_, ?_⟩
    · intro s hs hAs
      simp only [byEndP]
      rw [deadTo_get _ _ _ _ (by omega), if_neg]
      · exact (h2.ec s hs ((hA s hs).2 hAs)).1
      · rintro ⟨_, h3⟩
        rw [(hal s hs).2 hAs] at h3
        cases h3
    · intro s hs hAs
      simp only [byEndP]
      rw [deadTo_get _ _ _ _ (by omega), if_pos]
      refine ⟨hs, ?_⟩
      cases hb : al.getD s false with
      | true => exact absurd ((hal s hs).1 hb) hAs
      | false => rfl
    · intro i hi
      obtain ⟨k1, k2, k3⟩ := h2.rp i hi
      exact ⟨k1, (hA _ k1).1 k2, k3⟩
    · intro s hs hAs
      obtain ⟨k1, k2⟩ := h2.pr s hs ((hA s hs).2 hAs)
      exact ⟨k1, k2, (h2.ec s hs ((hA s hs).2 hAs)).2⟩
    · intro k hk
      have := h2.be k hk
      simp only
      omega
    · intro s hs hAs k hk
      exact h2.io s hs ((hA s hs).2 hAs) k hk
    · intro s hs hAs
      have hS := (hA s hs).2 hAs
      have hk := (h2.ec s hs hS).2
      have := (h2.io s hs hS _ hk).1 rfl
      simp only
      exact ⟨fun h => h.elim, fun h => by omega⟩
  have hbl : (byEndP m al).beg.length = K := h2.bl
  have hcc : ∀ s t : Nat, s < m.next.length → t < m.next.length → Alive m s → Alive m t → (g.c s = g.c t ↔ m.fin.getD s false = m.fin.getD t false) := fun s t hs ht hAs hAt => c2 s t hs ht ((hA s hs).2 hAs) ((hA t ht).2 hAt)
  refine ⟨N, K, { g with m := fun _ => 0 }, ?_, ?_, hbl⟩
  · rw [hbl]
    refine ⟨part, by rw [upto_len]; exact Nat.le_refl _, fun x hx => upto_mem.1 hx, ?_, fun x hx => absurd hx (by simp), ?_, fun s t hs ht hAs hAt hc => (hcc s t hs ht hAs hAt).1 hc⟩
    · intro s t hs ht hAs hAt hc a ha hl
      left
      have hk : ∀ x, In m x → kap m { g with m := fun _ => 0 } x = -1 ∨ kap m { g with m := fun _ => 0 } x ∈ upto K := by
        intro x hi
        by_cases hx : Alive m x
        · obtain ⟨j1, j2⟩ := alive_in hi hx
          have := (part.pr x.toNat j1 (by rw [j2]; exact hx)).2.2
          refine .inr ?_
          rw [kap_alive hx, upto_mem]
          simp only at this ⊢
          omega
        · exact .inl (kap_dead hx)
      rcases hk _ (hf.lead (s := (s : Int)) ⟨by omega, by omega⟩ ha hl) with e1 | e1
      · rcases hk _ (hf.lead (s := (t : Int)) ⟨by omega, by omega⟩ ha hl) with e2 | e2
        · exact .inl (e1.trans e2.symm)
        · exact .inr (.inr e2)
      · exact .inr (.inl e1)
    · intro s t hs ht hAs hAt hne
      refine ⟨[], s, t, rfl, rfl, fun e => hne ((hcc s t hs ht hAs hAt).2 ?_)⟩
      simpa [A.ends] using e
  · have h3 : ((List.range N).map g.r).Nodup := by
      unfold List.Nodup
      rw [List.pairwise_map]
      refine List.nodup_range.imp_of_mem fun {i j} hi hj hne e => hne ?_
      have r1 := (h2.rp i (List.mem_range.1 hi)).2.2
      have r2 := (h2.rp j (List.mem_range.1 hj)).2.2
      rw [e] at r1
      exact r1.symm.trans r2
    have := nodup_nat m.next.length _ h3 (by
      intro x hx
      obtain ⟨i, hi, rfl⟩ := List.mem_map.1 hx
      exact (h2.rp i (List.mem_range.1 hi)).1)
    simpa using this
/-- The classes: some fuel is enough, and the partition is right. -/
theorem classes_ok {m : Mac} (hf : Fits m) (hn : m.next.length ≤ 100000) (hl3 : m.letters ≤ 300) {al : List Bool} (hal : ∀ s : Nat, s < m.next.length → (al.getD s false = true ↔ Alive m s)) {f : Nat} (hfu : m.next.length ≤ f) :
    ∃ d N K g, classesO f m (arrive m) al = some d ∧ Hop m N K g d [] [] 0 [] := by
  obtain ⟨N, K, g, h1, h2, h3⟩ := byEnd_ok hf hal
  have hfew := h1.part.few
  have hl0 := hf.letters
  have hrep : ∀ k : Nat, (List.replicate m.letters.toNat ([] : List Int)).getD k [] = [] := by
    intro k
    simp only [List.getD_eq_getElem?_getD, List.getElem?_replicate]
    split <;> rfl
  obtain ⟨d', g', K', e1, e2⟩ := classO_ok hf hn hl3 (N := N) (by unfold big; omega) (nl := m.letters.toNat) (by omega) f K g _ _ (List.replicate m.letters.toNat []) h1 (by simp) hrep (by rw [upto_len, h3]; omega)
  refine ⟨d', N, K', g', ?_, e2⟩
  unfold classesO
  rw [if_pos (by rw [h3]; unfold big; omega)]
  exact e1
end Go.Proofs.Ytmoniecknimmdaa.A
end
section
namespace Go.Proofs.Ytmoniecknimmdaa.A
theorem kap_ge {m : Mac} {g : Gh} {x : Int} (h : Alive m x) : 0 ≤ kap m g x := by rw [kap_alive h]; omega
theorem Hop.same {m : Mac} (hf : Fits m) {N K : Nat} {g : Gh} {d : Pd} (h : Hop m N K g d [] [] 0 []) : ∀ (l : List Int) (x y u v : Int), In m x → In m y → kap m g x = kap m g y → from_ m x l = some u → from_ m y l = some v → A.ends m u = A.ends m v
  | [], x, y, u, v, hx, hy, e, h1, h2 => by
    injection h1 with e1
    injection h2 with e2
    subst e1
    subst e2
    by_cases ax : Alive m x
    · by_cases ay : Alive m y
      · obtain ⟨j1, j2⟩ := alive_in hx ax
        obtain ⟨i1, i2⟩ := alive_in hy ay
        rw [kap_alive ax, kap_alive ay] at e
        have := h.ends _ _ j1 i1 (by rw [j2]; exact ax) (by rw [i2]; exact ay) (by omega)
        have nx : ¬ x = -1 := by omega
        have ny : ¬ y = -1 := by omega
        simp [A.ends, nx, ny] at this ⊢
        exact this
      · have := kap_ge (g := g) ax
        rw [e, kap_dead ay] at this
        omega
    · by_cases ay : Alive m y
      · have := kap_ge (g := g) ay
        rw [← e, kap_dead ax] at this
        omega
      · cases hex : A.ends m x with
        | true => exact absurd (Alive.fin hex) ax
        | false =>
          cases hey : A.ends m y with
          | true => exact absurd (Alive.fin hey) ay
          | false => rfl
  | k :: l, x, y, u, v, hx, hy, e, h1, h2 => by
    rw [from_] at h1 h2
    split at h1
    · rename_i hk
      rw [if_pos hk] at h2
      refine Hop.same hf h l _ _ u v (hf.lead hx hk.1 hk.2) (hf.lead hy hk.1 hk.2) ?_ h1 h2
      by_cases ax : Alive m x
      · by_cases ay : Alive m y
        · obtain ⟨j1, j2⟩ := alive_in hx ax
          obtain ⟨i1, i2⟩ := alive_in hy ay
          rw [kap_alive ax, kap_alive ay] at e
          have := h.near _ _ j1 i1 (by rw [j2]; exact ax) (by rw [i2]; exact ay) (by omega) k hk.1 hk.2
          rw [j2, i2] at this
          rcases this with (h3 | h3 | h3) | ⟨h3, _⟩
          · exact h3
          · cases h3
          · cases h3
          · cases h3
        · have := kap_ge (g := g) ax
          rw [e, kap_dead ay] at this
          omega
      · by_cases ay : Alive m y
        · have := kap_ge (g := g) ay
          rw [← e, kap_dead ax] at this
          omega
        · rw [kap_dead (fun h3 => ax (Alive.step hk.1 hk.2 h3)), kap_dead (fun h3 => ay (Alive.step hk.1 hk.2 h3))]
    · cases h1
/-- Two states of one class: no word tells them apart; of two classes: some word does. -/
theorem Hop.tell {m : Mac} (hf : Fits m) {N K : Nat} {g : Gh} {d : Pd} (h : Hop m N K g d [] [] 0 []) {x y : Int} (hx : In m x) (hy : In m y) : kap m g x = kap m g y ↔ ¬ Tell m x y := by
  constructor
  · rintro e ⟨l, u, v, h1, h2, h3⟩
    exact h3 (h.same hf l x y u v hx hy e h1 h2)
  · intro hn
    refine Classical.byContradiction fun e => hn ?_
    by_cases ax : Alive m x
    · by_cases ay : Alive m y
      · obtain ⟨j1, j2⟩ := alive_in hx ax
        obtain ⟨i1, i2⟩ := alive_in hy ay
        rw [kap_alive ax, kap_alive ay] at e
        have := h.fine _ _ j1 i1 (by rw [j2]; exact ax) (by rw [i2]; exact ay) (by omega)
        rw [j2, i2] at this
        exact this
      · exact alive_tell ax ay
    · by_cases ay : Alive m y
      · exact (alive_tell ay ax).symm
      · exact absurd (by rw [kap_dead ax, kap_dead ay]) e
end Go.Proofs.Ytmoniecknimmdaa.A
end
section
namespace Go.Proofs.Ytmoniecknimmdaa.A
variable {α : Type} [DecidableEq α]
def ent (R : List (List Int)) (i j : Nat) : Int := (R.getD i []).getD j 0
/-- What has been read: the rows ahead of at_, and k numbers of its own. -/
def Sc (L at_ k i j : Nat) : Prop := (i < at_ ∧ j < L) ∨ (i = at_ ∧ j < k)
def Bf (i j i' j' : Nat) : Prop := i < i' ∨ (i = i' ∧ j < j')
structure Srch (nx : α → Int → Option α) (none_ : α) (L : Nat) (D : α → Prop) (ts : List α) (at_ : Nat) (R : List (List Int)) (k : Nat) : Prop where
  nd : ts.Nodup
  dom : ∀ x ∈ ts, D x
  val : ∀ i j : Nat, Sc L at_ k i j → ∃ x y, ts[i]? = some x ∧ nx x (j : Int) = some y ∧ ((y = none_ ∧ ent R i j = -1) ∨ ∃ q : Nat, ts[q]? = some y ∧ ent R i j = q)
  occ : ∀ q : Nat, 0 < q → q < ts.length → ∃ i j : Nat, i < q ∧ j < L ∧ Sc L at_ k i j ∧ ent R i j = q ∧ ∀ i' j' : Nat, Bf i' j' i j → j' < L → ent R i' j' < q
theorem numO_form (none_ y : α) (ts : List α) : (y = none_ ∧ numO none_ y ts = (-1, ts)) ∨ (∃ q : Nat, ts[q]? = some y ∧ numO none_ y ts = ((q : Int), ts)) ∨ (y ≠ none_ ∧ y ∉ ts ∧ numO none_ y ts = ((ts.length : Int), ts ++ [y])) := by
  unfold numO
  by_cases e : y = none_
  · exact .inl ⟨e, if_pos e⟩
  · rw [if_neg e]
    by_cases hm : y ∈ ts
    · refine .inr (.inl ⟨idx y ts, ?_, if_pos hm⟩)
      rw [List.getElem?_eq_getElem (idx_lt hm), idx_get hm]
    · exact .inr (.inr ⟨e, hm, if_neg hm⟩)
theorem ent_old {R : List (List Int)} {row : List Int} {v : Int} {i j : Nat} (h : i < R.length ∨ (i = R.length ∧ j < row.length)) : ent (R ++ [row ++ [v]]) i j = ent (R ++ [row]) i j := by
  unfold ent
  rcases h with h | ⟨h, h'⟩
  · simp [List.getElem?_append, h]
  · subst h
    simp [List.getElem?_append, h']
theorem ent_new {R : List (List Int)} {row : List Int} {v : Int} : ent (R ++ [row ++ [v]]) R.length row.length = v := by
  unfold ent
  simp
theorem Srch.step {nx : α → Int → Option α} {none_ : α} {L : Nat} {D : α → Prop} {ts : List α} {at_ : Nat} {R : List (List Int)} {row : List Int} (h : Srch nx none_ L D ts at_ (R ++ [row]) row.length) (hR : R.length = at_) (hk : row.length < L) (ha : at_ < ts.length) {y : α} (hn : nx ts[at_] (row.length : Int) = some y) (hy : y = none_ ∨ D y) :
    Srch nx none_ L D (numO none_ y ts).2 at_ (R ++ [row ++ [(numO none_ y ts).1]]) (row ++ [(numO none_ y ts).1]).length ∧ ts <+: (numO none_ y ts).2 := by
  subst hR
  have hlen : ∀ v : Int, (row ++ [v]).length = row.length + 1 := fun v => by simp
  rw [hlen]
  have hsc : ∀ i j, Sc L R.length (row.length + 1) i j → Sc L R.length row.length i j ∨ (i = R.length ∧ j = row.length) := fun i j h => by
    rcases h with h | h
    · exact .inl (.inl h)
    · by_cases e : j = row.length
      · exact .inr ⟨h.1, e⟩
      · exact .inl (.inr ⟨h.1, by omega⟩)
  have hold : ∀ (v : Int) i j, Sc L R.length row.length i j → ent (R ++ [row ++ [v]]) i j = ent (R ++ [row]) i j := fun v i j h => by
    refine ent_old ?_
    rcases h with h | h
    · exact .inl h.1
    · exact .inr h
  have hbf : ∀ i j i' j', Sc L R.length row.length i j → Bf i' j' i j → j' < L → Sc L R.length row.length i' j' := fun i j i' j' h1 h2 h3 => by
    rcases h2 with h2 | h2
    · rcases h1 with h1 | h1
      · exact .inl ⟨by omega, h3⟩
      · exact .inl ⟨by omega, h3⟩
    · rcases h1 with h1 | h1
      · exact .inl ⟨by omega, h3⟩
      · exact .inr ⟨by omega, by omega⟩
  have hgrow : ∀ i j, Sc L R.length row.length i j → Sc L R.length (row.length + 1) i j := fun i j h => by
    rcases h with h | h
    · exact .inl h
    · exact .inr ⟨h.1, by omega⟩
  rcases numO_form none_ y ts with ⟨e1, e2⟩ | ⟨q, e1, e2⟩ | ⟨e0, e1, e2⟩
  · rw [e2]
    refine ⟨⟨h.nd, h.dom, fun i j hs => ?_, fun q hq hq2 => ?_⟩, List.prefix_refl _⟩
    · rcases hsc i j hs with hs | ⟨rfl, rfl⟩
      · rw [hold _ _ _ hs]; exact h.val i j hs
      · exact ⟨ts[R.length], y, List.getElem?_eq_getElem ha, hn, .inl ⟨e1, ent_new⟩⟩
    · obtain ⟨i, j, h1, h2, h3, h4, h5⟩ := h.occ q hq hq2
      refine ⟨i, j, h1, h2, hgrow _ _ h3, by rw [hold _ _ _ h3]; exact h4, fun i' j' hb hj => ?_⟩
      rw [hold _ _ _ (hbf _ _ _ _ h3 hb hj)]
      exact h5 i' j' hb hj
  · rw [e2]
    refine ⟨⟨h.nd, h.dom, fun i j hs => ?_, fun q hq hq2 => ?_⟩, List.prefix_refl _⟩
    · rcases hsc i j hs with hs | ⟨rfl, rfl⟩
      · rw [hold _ _ _ hs]; exact h.val i j hs
      · exact ⟨ts[R.length], y, List.getElem?_eq_getElem ha, hn, .inr ⟨q, e1, ent_new⟩⟩
    · obtain ⟨i, j, h1, h2, h3, h4, h5⟩ := h.occ q hq hq2
      refine ⟨i, j, h1, h2, hgrow _ _ h3, by rw [hold _ _ _ h3]; exact h4, fun i' j' hb hj => ?_⟩
      rw [hold _ _ _ (hbf _ _ _ _ h3 hb hj)]
      exact h5 i' j' hb hj
  · rw [e2]
    have hget : ∀ (i : Nat) (x : α), ts[i]? = some x → (ts ++ [y])[i]? = some x := fun i x hx => by
      rw [List.getElem?_append_left (List.getElem?_eq_some_iff.1 hx).1]; exact hx
    have hlt : ∀ i j, Sc L R.length row.length i j → ent (R ++ [row]) i j < (ts.length : Int) := fun i j hs => by
      obtain ⟨x, z, _, _, h3⟩ := h.val i j hs
      rcases h3 with ⟨_, h3⟩ | ⟨p, h3, h4⟩
      · rw [h3]; omega
      · have := (List.getElem?_eq_some_iff.1 h3).1
        rw [h4]; omega
    refine ⟨⟨?_, fun x hx => ?_, fun i j hs => ?_, fun q hq hq2 => ?_⟩, List.prefix_append _ _⟩
    · rw [List.nodup_append]
      exact ⟨h.nd, by simp, fun x hx z hz e' => e1 (by rw [List.mem_singleton.1 hz] at e'; rw [← e']; exact hx)⟩
    · rcases List.mem_append.1 hx with hx | hx
      · exact h.dom x hx
      · rw [List.mem_singleton.1 hx]
        rcases hy with hy | hy
        · exact absurd hy e0
        · exact hy
    · rcases hsc i j hs with hs | ⟨rfl, rfl⟩
      · rw [hold _ _ _ hs]
        obtain ⟨x, z, h1, h2, h3⟩ := h.val i j hs
        refine ⟨x, z, hget _ _ h1, h2, ?_⟩
        rcases h3 with h3 | ⟨p, h3, h4⟩
        · exact .inl h3
        · exact .inr ⟨p, hget _ _ h3, h4⟩
      · exact ⟨ts[R.length], y, hget _ _ (List.getElem?_eq_getElem ha), hn, .inr ⟨ts.length, by simp, ent_new⟩⟩
    · rw [List.length_append, List.length_singleton] at hq2
      by_cases e : q = ts.length
      · subst e
        refine ⟨R.length, row.length, ha, hk, .inr ⟨rfl, Nat.lt_succ_self _⟩, ent_new, fun i' j' hb hj => ?_⟩
        have hs : Sc L R.length row.length i' j' := by
          rcases hb with hb | hb
          · exact .inl ⟨hb, hj⟩
          · exact .inr hb
        rw [hold _ _ _ hs]
        exact hlt i' j' hs
      · obtain ⟨i, j, h1, h2, h3, h4, h5⟩ := h.occ q hq (by omega)
        refine ⟨i, j, h1, h2, hgrow _ _ h3, by rw [hold _ _ _ h3]; exact h4, fun i' j' hb hj => ?_⟩
        rw [hold _ _ _ (hbf _ _ _ _ h3 hb hj)]
        exact h5 i' j' hb hj
/-- What the search may walk on, and how much of it there is. -/
structure Dom (nx : α → Int → Option α) (none_ : α) (L : Nat) (D : α → Prop) (B : Nat) : Prop where
  nx : ∀ x, D x → ∀ k : Nat, k < L → ∃ y, nx x (k : Int) = some y ∧ (y = none_ ∨ D y)
  few : ∀ ts : List α, ts.Nodup → (∀ x ∈ ts, D x) → ts.length ≤ B
theorem rowS_srch {nx : α → Int → Option α} {none_ : α} {L B : Nat} {D : α → Prop} {most : Int} (hD : Dom nx none_ L D B) (hB : (B : Int) ≤ most) {at_ : Nat} {R : List (List Int)} (hR : R.length = at_) {x : α} : ∀ (n k : Nat) (ts : List α) (row : List Int), row.length = k → k + n = L → Srch nx none_ L D ts at_ (R ++ [row]) k → ts[at_]? = some x →
    ∃ ts' row', rowS nx none_ most x (List.range' k n) ts row = some (ts', row') ∧ row'.length = L ∧ Srch nx none_ L D ts' at_ (R ++ [row']) L ∧ ts <+: ts'
  | 0, k, ts, row, hr, hk, h, hx => ⟨ts, row, rfl, by omega, (show k = L by omega) ▸ h, List.prefix_refl _⟩
  | n + 1, k, ts, row, hr, hk, h, hx => by
    subst hr
    obtain ⟨ha, hx'⟩ := List.getElem?_eq_some_iff.1 hx
    obtain ⟨y, hy1, hy2⟩ := hD.nx x (h.dom x (by rw [← hx']; exact List.getElem_mem ha)) row.length (by omega)
    obtain ⟨g1, g2⟩ := h.step hR (by omega) ha (by rw [hx']; exact hy1) hy2
    have hfew := hD.few _ g1.nd g1.dom
    rw [List.range'_succ]
    unfold rowS
    rw [hy1]
    dsimp only
    rw [if_neg (by omega)]
    have hl : (row ++ [(numO none_ y ts).1]).length = row.length + 1 := by simp
    obtain ⟨ts', row', d1, d2, d3, d4⟩ := rowS_srch hD hB hR n (row.length + 1) _ _ hl (by omega) (by rw [hl] at g1; exact g1) (by
      rw [List.prefix_iff_getElem?.1 g2 at_ ha, hx'])
    exact ⟨ts', row', d1, d2, d3, g2.trans d4⟩
omit [DecidableEq α] in
theorem Srch.row {nx : α → Int → Option α} {none_ : α} {L : Nat} {D : α → Prop} {ts : List α} {at_ : Nat} {R : List (List Int)} (h : Srch nx none_ L D ts at_ R L) (hR : R.length = at_ + 1) : Srch nx none_ L D ts (at_ + 1) (R ++ [[]]) 0 := by
  have hs : ∀ i j, Sc L (at_ + 1) 0 i j → Sc L at_ L i j := fun i j h => by
    rcases h with h | h
    · by_cases e : i = at_
      · exact .inr ⟨e, h.2⟩
      · exact .inl ⟨by omega, h.2⟩
    · omega
  have hs' : ∀ i j, Sc L at_ L i j → Sc L (at_ + 1) 0 i j := fun i j h => by
    rcases h with h | h
    · exact .inl ⟨by omega, h.2⟩
    · exact .inl ⟨by omega, h.2⟩
  have he : ∀ i j, i ≤ at_ → ent (R ++ [[]]) i j = ent R i j := fun i j hi => by
    unfold ent
    have : i < R.length := by omega
    simp [List.getElem?_append, this]
  have hi : ∀ i j, Sc L at_ L i j → i ≤ at_ := fun i j h => by
    rcases h with h | h <;> omega
  refine ⟨h.nd, h.dom, fun i j hsc => ?_, fun q hq hq2 => ?_⟩
  · have := hs i j hsc
    rw [he _ _ (hi _ _ this)]
    exact h.val i j this
  · obtain ⟨i, j, h1, h2, h3, h4, h5⟩ := h.occ q hq hq2
    have := hi _ _ h3
    refine ⟨i, j, h1, h2, hs' _ _ h3, by rw [he _ _ this]; exact h4, fun i' j' hb hj => ?_⟩
    rw [he _ _ (by rcases hb with hb | hb <;> omega)]
    exact h5 i' j' hb hj
theorem srchO_srch {nx : α → Int → Option α} {none_ : α} {L B : Nat} {D : α → Prop} {most : Int} (hD : Dom nx none_ L D B) (hB : (B : Int) ≤ most) : ∀ (f at_ : Nat) (ts : List α) (rows : List (List Int)), rows.length = at_ → at_ ≤ ts.length → (∀ row ∈ rows, row.length = L) → Srch nx none_ L D ts at_ (rows ++ [[]]) 0 → B ≤ f + at_ →
    ∃ ts' rows', srchO nx none_ L most f at_ ts rows = some (ts', rows') ∧ rows'.length = ts'.length ∧ (∀ row ∈ rows', row.length = L) ∧ Srch nx none_ L D ts' ts'.length (rows' ++ [[]]) 0 ∧ ts <+: ts'
  | f, at_, ts, rows, hr, hat, hrl, h, hf => by
    unfold srchO
    by_cases hlt : at_ < ts.length
    · rw [dif_pos hlt]
      have hfew := hD.few _ h.nd h.dom
      match f, hf with
      | 0, hf => omega
      | f + 1, hf =>
        dsimp only
        obtain ⟨ts1, row1, e1, e2, e3, e4⟩ := rowS_srch hD hB hr L 0 ts [] rfl (by omega) h (List.getElem?_eq_getElem hlt)
        rw [List.range_eq_range', e1]
        dsimp only
        have hl1 : (rows ++ [row1]).length = at_ + 1 := by simp [hr]
        obtain ⟨ts', rows', d1, d2, d3, d4, d5⟩ := srchO_srch hD hB f (at_ + 1) ts1 (rows ++ [row1]) hl1 (by have := e4.length_le; omega) (fun row hrow => by
          rcases List.mem_append.1 hrow with h | h
          · exact hrl _ h
          · rw [List.mem_singleton.1 h]; exact e2) (e3.row hl1) (by omega)
        exact ⟨ts', rows', d1, d2, d3, d4, e4.trans d5⟩
    · rw [dif_neg hlt]
      have e : at_ = ts.length := by omega
      subst e
      exact ⟨ts, rows, rfl, hr, hrl, h, List.prefix_refl _⟩
/-- What a search comes to: the things, each once, and their rows; a thing's number first stands behind all lower ones. -/
structure Found (nx : α → Int → Option α) (none_ : α) (L : Nat) (D : α → Prop) (first : α) (ts : List α) (rows : List (List Int)) : Prop where
  nd : ts.Nodup
  dom : ∀ x ∈ ts, D x
  first : ts[0]? = some first
  ln : rows.length = ts.length
  row : ∀ row ∈ rows, row.length = L
  val : ∀ i j : Nat, i < ts.length → j < L → ∃ x y, ts[i]? = some x ∧ nx x (j : Int) = some y ∧ ((y = none_ ∧ ent rows i j = -1) ∨ ∃ q : Nat, ts[q]? = some y ∧ ent rows i j = q)
  occ : ∀ q : Nat, 0 < q → q < ts.length → ∃ i j : Nat, i < q ∧ j < L ∧ ent rows i j = q ∧ ∀ i' j' : Nat, Bf i' j' i j → j' < L → ent rows i' j' < q
theorem search_found {nx : α → Int → Option α} {none_ : α} {L B : Nat} {D : α → Prop} {most : Int} (hD : Dom nx none_ L D B) (hB : (B : Int) ≤ most) {f : Nat} (hf : B ≤ f) {first : α} (h1 : first ≠ none_) (h2 : D first) :
    ∃ ts rows, searchO nx f first none_ L most = some (ts, rows) ∧ Found nx none_ L D first ts rows := by
  unfold searchO
  have e : (numO none_ first []).2 = [first] := by
    unfold numO
    rw [if_neg h1]
    simp
  rw [e]
  have h0 : Srch nx none_ L D [first] 0 ([] ++ [[]]) 0 := ⟨by simp, fun x hx => by rw [List.mem_singleton.1 hx]; exact h2, fun i j h => by rcases h with h | h <;> omega, fun q hq hq2 => by simp at hq2; omega⟩
  obtain ⟨ts, rows, d1, d2, d3, d4, d5⟩ := srchO_srch hD hB f 0 [first] [] rfl (Nat.zero_le _) (fun row h => by cases h) h0 (by omega)
  have he : ∀ i j, i < ts.length → ent (rows ++ [[]]) i j = ent rows i j := fun i j hi => by
    unfold ent
    have : i < rows.length := by omega
    simp [List.getElem?_append, this]
  refine ⟨ts, rows, d1, d4.nd, d4.dom, ?_, d2, d3, fun i j hi hj => ?_, fun q hq hq2 => ?_⟩
  · obtain ⟨t, rfl⟩ := d5
    rfl
  · obtain ⟨x, y, g1, g2, g3⟩ := d4.val i j (.inl ⟨hi, hj⟩)
    rw [he _ _ hi] at g3
    exact ⟨x, y, g1, g2, g3⟩
  · obtain ⟨i, j, g1, g2, g3, g4, g5⟩ := d4.occ q hq hq2
    refine ⟨i, j, g1, g2, by rw [← he _ _ (by omega)]; exact g4, fun i' j' hb hj => ?_⟩
    rw [← he _ _ (by rcases hb with hb | hb <;> omega)]
    exact g5 i' j' hb hj
end Go.Proofs.Ytmoniecknimmdaa.A
end
section
namespace Go.Proofs.Ytmoniecknimmdaa.A
variable {α : Type}
def macOf (L : Int) (ts : List α) (rows : List (List Int)) (e : α → Bool) : Mac := ⟨L, 0, rows, ts.map e⟩
section
variable {nx : α → Int → Option α} {none_ : α} {L : Nat} {D : α → Prop} {first : α} {ts : List α} {rows : List (List Int)}
theorem Found.pos (h : Found nx none_ L D first ts rows) : 0 < ts.length := (List.getElem?_eq_some_iff.1 h.first).1
theorem Found.lead (h : Found nx none_ L D first ts rows) {e : α → Bool} {l : Int} {i j : Nat} {x : α} (hx : ts[i]? = some x) (hj : j < L) : ∃ y, nx x (j : Int) = some y ∧ ((y = none_ ∧ A.lead (macOf l ts rows e) i j = -1) ∨ ∃ q : Nat, ts[q]? = some y ∧ A.lead (macOf l ts rows e) i j = q) := by
  obtain ⟨x', y, h1, h2, h3⟩ := h.val i j (List.getElem?_eq_some_iff.1 hx).1 hj
  rw [hx] at h1
  injection h1 with h1
  subst h1
  refine ⟨y, h2, ?_⟩
  have : A.lead (macOf l ts rows e) i j = ent rows i j := lead_nat _ i j
  rw [this]
  exact h3
theorem Found.ends (_ : Found nx none_ L D first ts rows) {e : α → Bool} {l : Int} {i : Nat} {x : α} (hx : ts[i]? = some x) : ends (macOf l ts rows e) i = e x := by
  rw [ends_nat]
  obtain ⟨hi, rfl⟩ := List.getElem?_eq_some_iff.1 hx
  simp [macOf, hi]
theorem Found.fits (h : Found nx none_ L D first ts rows) {e : α → Bool} {l : Int} (hl : (L : Int) = l) : Fits (macOf l ts rows e) := by
  have hp := h.pos
  have hn := h.ln
  refine ⟨by show 0 ≤ l; omega, by simp [macOf, hn], ⟨by show (-1 : Int) ≤ 0; decide, by show (0 : Int) < (rows.length : Int); omega⟩, fun e => absurd (show (0 : Int) = -1 from e) (by decide), fun row hr => ?_⟩
  have hr' : row ∈ rows := hr
  refine ⟨by have := h.row row hr'; show (row.length : Int) = l; omega, fun x hx => ?_⟩
  obtain ⟨i, hi, ei⟩ := List.getElem_of_mem hr'
  obtain ⟨j, hj, ej⟩ := List.getElem_of_mem hx
  have hjL : j < L := by rw [← h.row row hr']; exact hj
  obtain ⟨_, y, _, _, h3⟩ := h.val i j (by omega) hjL
  have he : ent rows i j = x := by
    unfold ent
    subst ei
    simp [hi, hj, ej]
  rw [he] at h3
  unfold In
  show -1 ≤ x ∧ x < (rows.length : Int)
  rcases h3 with ⟨_, h3⟩ | ⟨q, h3, h4⟩
  · omega
  · have := (List.getElem?_eq_some_iff.1 h3).1
    omega
theorem Found.ord (h : Found nx none_ L D first ts rows) {e : α → Bool} {l : Int} (hl : (L : Int) = l) : ∀ j : Nat, 0 < j → j < (macOf l ts rows e).next.length → ∃ i k : Nat, i < j ∧ (k : Int) < (macOf l ts rows e).letters ∧ A.lead (macOf l ts rows e) i k = j ∧ ∀ i' k' : Nat, (i' < i ∨ (i' = i ∧ k' < k)) → (k' : Int) < (macOf l ts rows e).letters → A.lead (macOf l ts rows e) i' k' < j := by
  intro j h0 hj
  have hj' : j < ts.length := by rw [← h.ln]; exact hj
  obtain ⟨i, k, h1, h2, h3, h4⟩ := h.occ j h0 hj'
  have hle : ∀ i k : Nat, A.lead (macOf l ts rows e) i k = ent rows i k := fun i k => lead_nat _ i k
  refine ⟨i, k, h1, by show (k : Int) < l; omega, by rw [hle]; exact h3, fun i' k' hb hk => ?_⟩
  rw [hle]
  have hk' : (k' : Int) < l := hk
  exact h4 i' k' hb (by omega)
end
theorem Eqv.tell {a b : Mac} {x x' y y' : Int} (hl : a.letters = b.letters) (h : Eqv a b x y) (h' : Eqv a b x' y') (ht : Tell a x x') : Tell b y y' := by
  obtain ⟨l, u, v, h1, h2, h3⟩ := ht
  obtain ⟨u', h4⟩ := from_two hl l x y u h1
  obtain ⟨v', h5⟩ := from_two hl l x' y' v h2
  exact ⟨l, u', v', h4, h5, by rw [← h l u u' h1 h4, ← h' l v v' h2 h5]; exact h3⟩
theorem Eqv.dead {a b : Mac} {x y : Int} (hx : ¬ Alive a x) (hy : ¬ Alive b y) : Eqv a b x y := fun l u v h1 h2 => by
  cases e1 : A.ends a u with
  | true => exact absurd ⟨l, u, h1, e1⟩ hx
  | false => cases e2 : A.ends b v with
    | true => exact absurd ⟨l, v, h2, e2⟩ hy
    | false => rfl
/-- The machine of no words. -/
def noM (m : Mac) : Mac := ⟨m.letters, -1, [], []⟩
theorem noM_mn {m : Mac} (h : 0 ≤ m.letters) : Mn (noM m) :=
  ⟨⟨h, rfl, ⟨show (-1 : Int) ≤ -1 by decide, show (-1 : Int) < ((0 : Nat) : Int) by decide⟩, fun _ => rfl, fun r hr => by cases hr⟩, .inl rfl, fun s hs => absurd hs (Nat.not_lt_zero s), fun s _ hs => absurd hs (Nat.not_lt_zero s), fun j _ hj => absurd hj (Nat.not_lt_zero j)⟩
/-- What a machine's least one is. -/
structure LeastOf (m o : Mac) : Prop where
  mn : Mn o
  ll : o.letters = m.letters
  eqv : Eqv m o m.start o.start
  le : o.next.length ≤ m.next.length
theorem noM_least {m : Mac} (h : 0 ≤ m.letters) (hd : ¬ Alive m m.start) : LeastOf m (noM m) := ⟨noM_mn h, rfl, Eqv.dead hd alive_not, Nat.zero_le _⟩
theorem LeastOf.one {a b o p : Mac} (h : LeastOf a o) (h' : LeastOf b p) (hl : a.letters = b.letters) (e : Eqv a b a.start b.start) : o = p :=
  h.mn.uniq h'.mn (by rw [h.ll, h'.ll, hl]) ((h.eqv.symm.trans h.ll e).trans (by rw [h.ll, hl]) h'.eqv)
end Go.Proofs.Ytmoniecknimmdaa.A
end
section
namespace Go.Proofs.Ytmoniecknimmdaa.A
theorem Part.le {n N K : Nat} {A M : Nat → Prop} {g : Gh} {d : Pd} (h : Part n N K A M g d) : N ≤ n := by
  have h1 : ((List.range N).map g.r).Nodup := by
    unfold List.Nodup
    rw [List.pairwise_map]
    refine List.nodup_range.imp_of_mem fun {i j} hi hj hne e => hne ?_
    have ri := (h.rp i (List.mem_range.1 hi)).2.2
    have rj := (h.rp j (List.mem_range.1 hj)).2.2
    rw [e] at ri
    exact ri.symm.trans rj
  have := nodup_nat n _ h1 (by
    intro x hx
    obtain ⟨i, hi, rfl⟩ := List.mem_map.1 hx
    exact (h.rp i (List.mem_range.1 hi)).1)
  simpa using this
/-- The state that stands for a class. -/
def repG (g : Gh) (x : Int) : Nat := g.r (g.b x.toNat)
section
variable {m : Mac} {N K : Nat} {g : Gh} {d : Pd}
theorem Hop.rep (h : Hop m N K g d [] [] 0 []) {x : Int} (h0 : 0 ≤ x) (hK : x < (K : Int)) : repG g x < m.next.length ∧ Alive m (repG g x : Nat) ∧ kap m g (repG g x : Nat) = x ∧ d.beg.getD x.toNat 0 = (g.b x.toNat : Int) ∧ g.b x.toNat < N ∧ d.row.getD (g.b x.toNat) 0 = (repG g x : Int) := by
  have hk : x.toNat < K := by omega
  obtain ⟨b1, b2, b3⟩ := h.part.be _ hk
  obtain ⟨r1, r2, r3⟩ := h.part.rp (g.b x.toNat) (by omega)
  have hc := (h.part.io _ r1 r2 _ hk).2 (by rw [r3]; omega)
  refine ⟨r1, r2, ?_, h.part.eb _ hk, by omega, h.part.er _ (by omega)⟩
  have hal : Alive m (repG g x : Nat) := r2
  rw [kap_alive hal, Int.toNat_natCast]
  show ((g.c (g.r (g.b x.toNat)) : Nat) : Int) = x
  rw [hc]
  omega
theorem Hop.cls (h : Hop m N K g d [] [] 0 []) {s : Nat} (hs : s < m.next.length) : d.cls.getD s 0 = kap m g s := by
  by_cases ha : Alive m s
  · rw [kap_alive ha, Int.toNat_natCast]; exact h.part.ec s hs ha
  · rw [kap_dead ha]; exact h.part.ed s hs ha
theorem Hop.kapK (h : Hop m N K g d [] [] 0 []) {x : Int} (hi : In m x) (ha : Alive m x) : 0 ≤ kap m g x ∧ kap m g x < (K : Int) := by
  obtain ⟨j1, j2⟩ := alive_in hi ha
  have := (h.part.pr x.toNat j1 (by rw [j2]; exact ha)).2.2
  rw [kap_alive ha]
  omega
theorem Hop.kapB (h : Hop m N K g d [] [] 0 []) (hn : m.next.length ≤ 100000) {x : Int} (hi : In m x) : -1000000 ≤ kap m g x ∧ kap m g x ≤ 1000000 := by
  have h1 := h.part.few
  have h2 := h.part.le
  by_cases ha : Alive m x
  · have := h.kapK hi ha; omega
  · rw [kap_dead ha]; omega
theorem Hop.nxt (hf : Fits m) (hn : m.next.length ≤ 100000) (h : Hop m N K g d [] [] 0 []) {x : Int} (h0 : 0 ≤ x) (hK : x < (K : Int)) {k : Nat} (hk : (k : Int) < m.letters) : nxt m d x k = some (kap m g (lead m (repG g x : Nat) k)) := by
  obtain ⟨r1, r2, r3, r4, r5, r6⟩ := h.rep h0 hK
  obtain ⟨q1, q2⟩ := hf.rows _ (List.getElem_mem r1)
  have hl : A.lead m (repG g x : Nat) k = (m.next.getD (repG g x) []).getD k 0 := lead_nat m (repG g x) k
  have hin : In m (A.lead m (repG g x : Nat) k) := hf.lead ⟨by omega, by omega⟩ (by omega) hk
  have hrow : m.next.getD (repG g x) [] = m.next[repG g x] := by simp [r1]
  have hbl := h.part.bl
  have hrl := h.part.rl
  have hcl := h.part.cl
  unfold A.nxt
  rw [if_neg (by omega), r4, if_neg (by omega), Int.toNat_natCast, r6, if_neg (by omega), Int.toNat_natCast, hrow, if_neg (by omega), Int.toNat_natCast]
  rw [hrow] at hl
  rw [← hl]
  generalize A.lead m (repG g x : Nat) k = y at *
  obtain ⟨y0, y1⟩ := hin
  by_cases e : y = -1
  · rw [if_pos e, e, kap_dead alive_not]
  · rw [if_neg e, if_neg (by omega)]
    have hc := h.cls (s := y.toNat) (by omega)
    rw [show ((y.toNat : Nat) : Int) = y by omega] at hc
    rw [hc]
    have := h.kapB hn (x := y) ⟨y0, y1⟩
    rw [if_neg (by omega)]
theorem Hop.dom (hf : Fits m) (hn : m.next.length ≤ 100000) (h : Hop m N K g d [] [] 0 []) : Dom (A.nxt m d) (-1 : Int) m.letters.toNat (fun x => 0 ≤ x ∧ x < (K : Int)) K := by
  refine ⟨fun x hx k hk => ⟨_, h.nxt hf hn hx.1 hx.2 (by omega), ?_⟩, fun ts h1 h2 => ?_⟩
  · obtain ⟨r1, _⟩ := h.rep hx.1 hx.2
    have hin : In m (lead m (repG g x : Nat) k) := hf.lead ⟨by omega, by omega⟩ (by omega) (by omega)
    by_cases ha : Alive m (lead m (repG g x : Nat) k)
    · exact .inr (h.kapK hin ha)
    · exact .inl (kap_dead ha)
  · have h3 : (ts.map Int.toNat).Nodup := by
      unfold List.Nodup
      rw [List.pairwise_map]
      refine h1.imp_of_mem fun {x y} hx hy hne e => hne ?_
      have := h2 x hx
      have := h2 y hy
      omega
    have := nodup_nat K _ h3 (by
      intro x hx
      obtain ⟨y, hy, rfl⟩ := List.mem_map.1 hx
      have := h2 y hy
      omega)
    simpa using this
theorem Hop.same_lead (hf : Fits m) (h : Hop m N K g d [] [] 0 []) {x y : Int} (hx : In m x) (hy : In m y) (e : kap m g x = kap m g y) {k : Int} (h0 : 0 ≤ k) (hk : k < m.letters) : kap m g (lead m x k) = kap m g (lead m y k) := by
  rw [h.tell hf hx hy] at e
  rw [h.tell hf (hf.lead hx h0 hk) (hf.lead hy h0 hk)]
  exact fun ht => e (ht.step h0 hk)
theorem Hop.same_end (hf : Fits m) (h : Hop m N K g d [] [] 0 []) {x y : Int} (hx : In m x) (hy : In m y) (e : kap m g x = kap m g y) : A.ends m x = A.ends m y := h.same hf [] x y x y hx hy e rfl rfl
end
theorem leastO_ok {m : Mac} (hf : Fits m) (hn : m.next.length ≤ 100000) (hl3 : m.letters ≤ 300) {f : Nat} (hfu : m.next.length ≤ f) : ∃ o, leastO f m = some o ∧ LeastOf m o := by
  have hl0 := hf.letters
  obtain ⟨al, a1, a2, a3⟩ := liv_ok hf hfu
  unfold leastO
  rw [if_pos (waysOk_all hf hn hl3), a1]
  dsimp only
  by_cases hst : m.start = -1
  · rw [if_pos hst]
    exact ⟨_, rfl, noM_least hl0 (by rw [hst]; exact alive_not)⟩
  rw [if_neg hst]
  have hs := hf.start
  obtain ⟨s0, hs0⟩ := Int.eq_ofNat_of_zero_le (show 0 ≤ m.start by have := hs.1; omega)
  have hsl : s0 < m.next.length := by have := hs.2; omega
  by_cases hal : Alive m m.start
  case neg =>
    have : ¬ al.getD m.start.toNat false = true := by
      rw [hs0, Int.toNat_natCast, a3 s0 hsl, ← hs0]
      exact hal
    rw [if_neg this]
    exact ⟨_, rfl, noM_least hl0 hal⟩
  have : al.getD m.start.toNat false = true := by
    rw [hs0, Int.toNat_natCast, a3 s0 hsl, ← hs0]
    exact hal
  rw [if_pos this]
  obtain ⟨d, N, K, g, c1, h⟩ := classes_ok hf hn hl3 a3 hfu
  rw [c1]
  dsimp only
  have hKN := h.part.few
  have hNn := h.part.le
  have hbl := h.part.bl
  have hcl := h.part.cl
  have hkl := h.part.rl
  have hcs : d.cls.getD m.start.toNat 0 = kap m g m.start := by
    rw [hs0, Int.toNat_natCast]
    exact h.cls hsl
  have hkb := h.kapB hn hs
  have hkk := h.kapK hs hal
  have so : startOk m d = true := by
    unfold startOk
    rw [hcs]
    simp only [Bool.and_eq_true, decide_eq_true_eq]
    exact ⟨⟨⟨by have := hs.2; omega, hkb.1⟩, hkb.2⟩, by omega⟩
  rw [if_pos so, hcs, hbl]
  obtain ⟨ts, rows, e1, F⟩ := search_found (h.dom hf hn) (most := (K : Int)) (Int.le_refl _) (f := f) (by omega) (first := kap m g m.start) (by omega) hkk
  rw [e1]
  dsimp only
  have hD : ∀ x ∈ ts, 0 ≤ x ∧ x < (K : Int) := F.dom
  have hlen : ts.length ≤ K := (h.dom hf hn).few ts F.nd F.dom
  have heo : ts.all (endOk m d) = true := by
    rw [List.all_eq_true]
    intro x hx
    obtain ⟨h1, h2⟩ := hD x hx
    obtain ⟨r1, r2, r3, r4, r5, r6⟩ := h.rep h1 h2
    have hfn := hf.fin
    unfold endOk
    rw [r4, Int.toNat_natCast, r6]
    simp only [Bool.and_eq_true, decide_eq_true_eq]
    exact ⟨⟨⟨⟨⟨h1, by omega⟩, by omega⟩, by omega⟩, by omega⟩, by omega⟩
  have heq : ∀ x, 0 ≤ x → x < (K : Int) → endOf m d x = ends m (repG g x : Nat) := fun x h1 h2 => by
    obtain ⟨r1, r2, r3, r4, r5, r6⟩ := h.rep h1 h2
    unfold endOf
    rw [r4, Int.toNat_natCast, r6, Int.toNat_natCast, ends_nat]
  rw [if_pos (by rw [heo]; simp; omega)]
  have hL : (m.letters.toNat : Int) = m.letters := by omega
  have S : Sim m (macOf m.letters ts rows (endOf m d)) fun x y => In m x ∧ ((¬ Alive m x ∧ y = -1) ∨ ∃ j : Nat, ts[j]? = some (kap m g x) ∧ Alive m x ∧ y = (j : Int)) := by
    refine ⟨rfl, ⟨hs, .inr ⟨0, F.first, hal, rfl⟩⟩, fun x y hR => ?_, fun x y hR k hk => ?_⟩
    · obtain ⟨hi, ⟨hd, rfl⟩ | ⟨j, hj, ha, rfl⟩⟩ := hR
      · rw [ends_neg]
        cases e : ends m x with
        | true => exact absurd (Alive.fin e) hd
        | false => rfl
      · rw [F.ends hj]
        obtain ⟨k1, k2⟩ := h.kapK hi ha
        rw [heq _ k1 k2]
        obtain ⟨r1, r2, r3, _⟩ := h.rep k1 k2
        exact h.same_end hf hi ⟨by omega, by omega⟩ r3.symm
    · obtain ⟨hi, ⟨hd, rfl⟩ | ⟨j, hj, ha, rfl⟩⟩ := hR
      · rw [lead_neg]
        exact ⟨hf.lead hi (by omega) hk, .inl ⟨fun h2 => hd (h2.step (by omega) hk), rfl⟩⟩
      · have hi2 := hf.lead hi (k := k) (by omega) hk
        refine ⟨hi2, ?_⟩
        obtain ⟨k1, k2⟩ := h.kapK hi ha
        obtain ⟨r1, r2, r3, _⟩ := h.rep k1 k2
        obtain ⟨y, g1, g2⟩ := F.lead (e := endOf m d) (l := m.letters) hj (j := k) (by omega)
        rw [h.nxt hf hn k1 k2 hk] at g1
        injection g1 with g1
        rw [h.same_lead hf ⟨by omega, by omega⟩ hi r3 (k := k) (by omega) hk] at g1
        subst g1
        by_cases ha2 : Alive m (lead m x k)
        · rcases g2 with ⟨g2, _⟩ | ⟨q, g2, g3⟩
          · have := kap_ge (g := g) ha2; omega
          · exact .inr ⟨q, g2, ha2, g3⟩
        · rcases g2 with ⟨_, g3⟩ | ⟨q, g2, _⟩
          · exact .inl ⟨ha2, g3⟩
          · have := hD _ (List.mem_of_getElem? g2)
            rw [kap_dead ha2] at this
            omega
  have hrep : ∀ s : Nat, s < ts.length → ∃ x : Nat, Alive m x ∧ In m x ∧ ts[s]? = some (kap m g x) ∧ Eqv m (macOf m.letters ts rows (endOf m d)) x s := fun s hs => by
    obtain ⟨k1, k2⟩ := hD ts[s] (List.getElem_mem hs)
    obtain ⟨r1, r2, r3, _⟩ := h.rep k1 k2
    have e : ts[s]? = some (kap m g (repG g ts[s] : Nat)) := by rw [r3]; exact List.getElem?_eq_getElem hs
    exact ⟨repG g ts[s], r2, ⟨by omega, by omega⟩, e, S.eqv ⟨⟨by omega, by omega⟩, .inr ⟨s, e, r2, rfl⟩⟩⟩
  have hrl : (macOf m.letters ts rows (endOf m d)).next.length = ts.length := F.ln
  refine ⟨_, rfl, ⟨F.fits hL, .inr rfl, fun s hs => ?_, fun s t hs ht hne => ?_, F.ord hL⟩, rfl, S.eqv S.st, ?_⟩
  · obtain ⟨x, x1, x2, x3, x4⟩ := hrep s (by rw [← hrl]; exact hs)
    exact x4.alive (a := m) rfl x1
  · have hs' : s < ts.length := by rw [← hrl]; exact hs
    have ht' : t < ts.length := by rw [← hrl]; exact ht
    obtain ⟨x, x1, x2, x3, x4⟩ := hrep s hs'
    obtain ⟨y, y1, y2, y3, y4⟩ := hrep t ht'
    refine x4.tell (a := m) rfl y4 ?_
    refine Classical.byContradiction fun hn2 => hne ?_
    have := (h.tell hf x2 y2).2 hn2
    rw [this, ← y3] at x3
    exact (List.getElem?_inj hs' F.nd).1 x3
  · show rows.length ≤ _
    have := F.ln
    omega
end Go.Proofs.Ytmoniecknimmdaa.A
end
