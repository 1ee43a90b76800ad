/- A machine written anew: its states turned by a number, and each twice; it does what the machine does; plain. renamed: words, and its contract. slices.SortFunc at pairs, of whatever number; Relate. Relate: where it hands back pairs. Relate: where it hands back no pairs. Relate, all its cases; Differ, at every two machines. AutoOne: the law's walk. AutoOne returns true whatever machine, number and list of flags come in, and leaves them as they are. No condition. Contracts of the program's functions, with no condition beyond what each theorem states. -/
import Derived.Test.YtmoniecknimmdaaC08
import Derived.Test.YtmoniecknimmdaaC12
import Derived.Test.YtmoniecknimmdaaC07
import Derived.Shelf.SlSortCmp.WholeK
import Derived.Test.YtmoniecknimmdaaC10
import Derived.Test.YtmoniecknimmdaaRows
import Derived.SizedLaws
import Derived.WalkKit
import Derived.ProofKit
import Derived.OpenShut
import Derived.WideKeyArgs
section
namespace Go.Proofs.Ytmoniecknimmdaa.A
/-- Where the copy i of a state stands. -/
def rnTo (n b i : Nat) : Nat := (i + b) % (2 * n)
/-- What stands there. -/
def rnOf (n b t : Nat) : Nat := (t + (2 * n - b % (2 * n))) % (2 * n)
theorem rnTo_lt {n b i : Nat} (hn : 0 < n) : rnTo n b i < 2 * n := Nat.mod_lt _ (by omega)
theorem rnOf_lt {n b t : Nat} (hn : 0 < n) : rnOf n b t < 2 * n := Nat.mod_lt _ (by omega)
theorem mod_of {N x : Nat} (h : x < 2 * N) : x % N = if x < N then x else x - N := by
  split
  · rename_i h1; exact Nat.mod_eq_of_lt h1
  · rename_i h1
    rw [Nat.mod_eq_sub_mod (by omega), Nat.mod_eq_of_lt (by omega)]
theorem rnOf_to {n b i : Nat} (hn : 0 < n) (hi : i < 2 * n) : rnOf n b (rnTo n b i) = i := by
  unfold rnOf rnTo
  have hb : b % (2 * n) < 2 * n := Nat.mod_lt _ (by omega)
  have e : (i + b) % (2 * n) = (i + b % (2 * n)) % (2 * n) := by rw [Nat.add_mod_mod]
  rw [e]
  generalize b % (2 * n) = c at *
  rw [mod_of (N := 2 * n) (x := i + c) (by omega)]
  split
  · rw [mod_of (by omega)]
    split <;> omega
  · rw [mod_of (by omega)]
    split <;> omega
theorem rnTo_of {n b t : Nat} (hn : 0 < n) (ht : t < 2 * n) : rnTo n b (rnOf n b t) = t := by
  unfold rnOf rnTo
  have hb : b % (2 * n) < 2 * n := Nat.mod_lt _ (by omega)
  have e : ∀ x : Nat, (x + b) % (2 * n) = (x + b % (2 * n)) % (2 * n) := fun x => by rw [Nat.add_mod_mod]
  rw [e]
  generalize b % (2 * n) = c at *
  rw [mod_of (N := 2 * n) (x := t + (2 * n - c)) (by omega)]
  split
  · rw [mod_of (by omega)]
    split <;> omega
  · rw [mod_of (by omega)]
    split <;> omega
theorem rnTo_inj {n b i j : Nat} (hn : 0 < n) (hi : i < 2 * n) (hj : j < 2 * n) (e : rnTo n b i = rnTo n b j) : i = j := by
  rw [← rnOf_to (b := b) hn hi, e, rnOf_to hn hj]
/-- Which copy a letter leads to, ahead of the turn; below 0: nowhere. -/
def rnS (m : Mac) (cp : List Bool) (i k : Nat) : Int :=
  if 0 ≤ lead m (i % m.next.length : Nat) k then (if cp.getD (i * m.letters.toNat + k) false then lead m (i % m.next.length : Nat) k + m.next.length else lead m (i % m.next.length : Nat) k) else lead m (i % m.next.length : Nat) k
def rnV (m : Mac) (b : Nat) (cp : List Bool) (i k : Nat) : Int := if 0 ≤ rnS m cp i k then (rnS m cp i k + b) % (2 * (m.next.length : Int)) else rnS m cp i k
def rnRow (m : Mac) (b : Nat) (cp : List Bool) (i : Nat) : List Int := (List.range m.letters.toNat).map fun k => rnV m b cp i k
def renamed (m : Mac) (b : Nat) (cp : List Bool) : Mac :=
  if m.next.length = 0 then noM m else
  ⟨m.letters, (m.start + b) % (2 * (m.next.length : Int)), (List.range (2 * m.next.length)).map fun t => rnRow m b cp (rnOf m.next.length b t), (List.range (2 * m.next.length)).map fun t => m.fin.getD (rnOf m.next.length b t % m.next.length) false⟩
section
variable {m : Mac} {b : Nat} {cp : List Bool}
theorem rnS_in (hf : Fits m) {i k : Nat} (hn : 0 < m.next.length) (hk : (k : Int) < m.letters) : (lead m (i % m.next.length : Nat) k = -1 ∧ rnS m cp i k = -1) ∨ ∃ j : Nat, j < 2 * m.next.length ∧ lead m (i % m.next.length : Nat) k = (j % m.next.length : Nat) ∧ rnS m cp i k = (j : Int) := by
  have hlt : i % m.next.length < m.next.length := Nat.mod_lt _ hn
  obtain ⟨h1, h2⟩ := hf.lead (s := (i % m.next.length : Nat)) (k := k) ⟨by omega, by omega⟩ (by omega) hk
  unfold rnS
  generalize lead m (i % m.next.length : Nat) k = x at *
  by_cases hx : 0 ≤ x
  · obtain ⟨x, rfl⟩ := Int.eq_ofNat_of_zero_le hx
    rw [if_pos hx]
    right
    by_cases hc : cp.getD (i * m.letters.toNat + k) false = true
    · rw [if_pos hc]
      refine ⟨x + m.next.length, by omega, ?_, by omega⟩
      rw [Nat.add_mod_right, Nat.mod_eq_of_lt (by omega)]
    · rw [if_neg hc]
      exact ⟨x, by omega, by rw [Nat.mod_eq_of_lt (by omega)], rfl⟩
  · rw [if_neg hx]
    exact .inl ⟨by omega, by omega⟩
theorem rnV_in (hf : Fits m) {i k : Nat} (hn : 0 < m.next.length) (hk : (k : Int) < m.letters) : (lead m (i % m.next.length : Nat) k = -1 ∧ rnV m b cp i k = -1) ∨ ∃ j : Nat, j < 2 * m.next.length ∧ lead m (i % m.next.length : Nat) k = (j % m.next.length : Nat) ∧ rnV m b cp i k = (rnTo m.next.length b j : Nat) := by
  unfold rnV
  rcases rnS_in (cp := cp) (i := i) hf hn hk with ⟨h1, h2⟩ | ⟨j, h1, h2, h3⟩
  · rw [h2]
    exact .inl ⟨h1, rfl⟩
  · rw [h3, if_pos (by omega)]
    refine .inr ⟨j, h1, h2, ?_⟩
    unfold rnTo
    rw [Int.natCast_emod, Int.natCast_add, Int.natCast_mul]
    rfl
theorem renamed_next (hn : 0 < m.next.length) : (renamed m b cp).next.length = 2 * m.next.length := by
  unfold renamed
  rw [if_neg (by omega)]
  simp
theorem renamed_lead (hn : 0 < m.next.length) {i k : Nat} (hi : i < 2 * m.next.length) (hk : (k : Int) < m.letters) : lead (renamed m b cp) (rnTo m.next.length b i : Nat) k = rnV m b cp i k := by
  have ht : rnTo m.next.length b i < 2 * m.next.length := rnTo_lt hn
  rw [lead_nat]
  unfold renamed
  rw [if_neg (by omega)]
  have hkl : k < m.letters.toNat := by omega
  simp [ht, rnOf_to hn hi, rnRow, hkl]
theorem renamed_end (hn : 0 < m.next.length) {i : Nat} (hi : i < 2 * m.next.length) : ends (renamed m b cp) (rnTo m.next.length b i : Nat) = ends m (i % m.next.length : Nat) := by
  have ht : rnTo m.next.length b i < 2 * m.next.length := rnTo_lt hn
  rw [ends_nat, ends_nat]
  unfold renamed
  rw [if_neg (by omega)]
  simp [ht, rnOf_to hn hi]
theorem renamed_fits (hf : Fits m) : Fits (renamed m b cp) := by
  by_cases hn : m.next.length = 0
  · unfold renamed
    rw [if_pos hn]
    exact (noM_mn hf.letters).fits
  · have hp : 0 < m.next.length := by omega
    have hs := hf.start
    have hl := hf.letters
    have e : renamed m b cp = ⟨m.letters, (m.start + b) % (2 * (m.next.length : Int)), (List.range (2 * m.next.length)).map fun t => rnRow m b cp (rnOf m.next.length b t), (List.range (2 * m.next.length)).map fun t => m.fin.getD (rnOf m.next.length b t % m.next.length) false⟩ := by
      unfold renamed
      rw [if_neg hn]
    have hln := renamed_next (m := m) (b := b) (cp := cp) hp
    have h1 : 0 ≤ (m.start + b) % (2 * (m.next.length : Int)) := Int.emod_nonneg _ (by omega)
    have h2 : (m.start + b) % (2 * (m.next.length : Int)) < 2 * (m.next.length : Int) := Int.emod_lt_of_pos _ (by omega)
    refine ⟨by rw [e]; exact hl, by rw [e]; simp, ⟨by rw [e]; dsimp only; omega, by rw [hln, e]; dsimp only; omega⟩, fun h => by rw [e] at h; dsimp only at h; omega, fun row hr => ?_⟩
    rw [e] at hr
    dsimp only at hr
    obtain ⟨t, ht, rfl⟩ := List.mem_map.1 hr
    refine ⟨by rw [e]; unfold rnRow; simp; omega, fun x hx => ?_⟩
    unfold rnRow at hx
    obtain ⟨k, hk, rfl⟩ := List.mem_map.1 hx
    have hk' := List.mem_range.1 hk
    unfold In
    rw [hln]
    rcases rnV_in (b := b) (cp := cp) (i := rnOf m.next.length b t) hf hp (k := k) (by omega) with ⟨_, h⟩ | ⟨j, h3, _, h4⟩
    · rw [h]; omega
    · have := rnTo_lt (b := b) (i := j) hp
      rw [h4]; omega
theorem renamed_sim (hf : Fits m) (hn : 0 < m.next.length) : Sim m (renamed m b cp) fun x y => (x = -1 ∧ y = -1) ∨ ∃ i : Nat, i < 2 * m.next.length ∧ x = (i % m.next.length : Nat) ∧ y = (rnTo m.next.length b i : Nat) := by
  have hs := hf.start
  have h0 : ¬ m.start = -1 := fun h => by have := hf.none h; omega
  obtain ⟨s, hs0⟩ := Int.eq_ofNat_of_zero_le (show 0 ≤ m.start by have := hs.1; omega)
  have hsl : s < m.next.length := by have := hs.2; omega
  refine ⟨?_, Or.inr ⟨s, by omega, by rw [hs0, Nat.mod_eq_of_lt hsl], ?_⟩, fun x y hR => ?_, fun x y hR k hk => ?_⟩
  · unfold renamed
    rw [if_neg (by omega)]
  · unfold renamed rnTo
    rw [if_neg (by omega)]
    dsimp only
    rw [hs0, Int.natCast_emod, Int.natCast_add, Int.natCast_mul]
    rfl
  · rcases hR with ⟨rfl, rfl⟩ | ⟨i, hi, rfl, rfl⟩
    · rw [ends_neg, ends_neg]
    · rw [renamed_end hn hi]
  · rcases hR with ⟨rfl, rfl⟩ | ⟨i, hi, rfl, rfl⟩
    · rw [lead_neg, lead_neg]
      exact Or.inl ⟨rfl, rfl⟩
    · rw [renamed_lead hn hi hk]
      exact rnV_in hf hn hk
theorem renamed_ll : (renamed m b cp).letters = m.letters := by
  unfold renamed
  split <;> rfl
theorem renamed_eqv (hf : Fits m) : Eqv m (renamed m b cp) m.start (renamed m b cp).start := by
  by_cases hn : m.next.length = 0
  · have : renamed m b cp = noM m := by unfold renamed; rw [if_pos hn]
    rw [this]
    refine Eqv.dead ?_ alive_not
    have hs := hf.start
    rw [show m.start = -1 by have := hs.1; have := hs.2; omega]
    exact alive_not
  · have S := renamed_sim (b := b) (cp := cp) hf (by omega)
    exact S.eqv S.st
theorem renamed_len : (renamed m b cp).next.length = 2 * m.next.length := by
  by_cases hn : m.next.length = 0
  · unfold renamed
    rw [if_pos hn, hn]
    rfl
  · exact renamed_next (by omega)
end
end Go.Proofs.Ytmoniecknimmdaa.A
end
section
namespace Go.Proofs.Ytmoniecknimmdaa
open Go.RowKit
def smI (n1 L : Nat) (s : Int) (c : Nat) (v : Value) (w : World) : Prop := ∃ gN gE, v = .agg #[.int .i64 (L : Int), .int .i64 s, .slice (some ⟨gN, 0, none⟩) c c, .slice (some ⟨gE, 0, none⟩) c c] ∧ n1 ≤ gN ∧ n1 ≤ gE ∧ Blk w gN 35 (nilCs c) ∧ Blk w gE 4 (boolCs (List.replicate c false))
def smQ (n1 L : Nat) (s : Int) (c : Nat) (v : Value) (w : World) : Prop := ∃ ob gN gE, v = .pointer (some ⟨ob, 0, none⟩) ∧ n1 ≤ ob ∧ n1 ≤ gN ∧ n1 ≤ gE ∧ Blk w ob 25 #[.int .i64 (L : Int), .int .i64 s, .slice (some ⟨gN, 0, none⟩) c c, .slice (some ⟨gE, 0, none⟩) c c] ∧ Blk w gN 35 (nilCs c) ∧ Blk w gE 4 (boolCs (List.replicate c false))
theorem smI.rs {n1 L c : Nat} {s : Int} {v : Value} {a b : World} (h : smI n1 L s c v a) (r : RS n1 a b) : smI n1 L s c v b := by
  obtain ⟨gN, gE, e1, h1, h2, h3, h4⟩ := h
  exact ⟨gN, gE, e1, h1, h2, r.blk h3 (by decide), r.blk h4 (by decide)⟩
theorem smI.q {n1 L c : Nat} {s : Int} {v : Value} {a b : World} (h : smI n1 L s c v a) (r : Frm (fun _ => False) a b) : smI n1 L s c v b := by
  obtain ⟨gN, gE, e1, h1, h2, h3, h4⟩ := h
  exact ⟨gN, gE, e1, h1, h2, r.blk h3 id, r.blk h4 id⟩
theorem smQ.q {n1 L c : Nat} {s : Int} {v : Value} {a b : World} (h : smQ n1 L s c v a) (r : Frm (fun _ => False) a b) : smQ n1 L s c v b := by
  obtain ⟨ob, gN, gE, e1, h1, h2, h3, h4, h5, h6⟩ := h
  exact ⟨ob, gN, gE, e1, h1, h2, h3, r.blk h4 id, r.blk h5 id, r.blk h6 id⟩
theorem mkB.ra {n1 k : Nat} {e : TypeId} {cs : Array Value} {v : Value} {own : Option Nat} {a b : World} (h : mkB n1 e cs k v a) (r : RA own a b) (ht : e ≠ 35) : mkB n1 e cs k v b := by
  obtain ⟨g, e1, hg, hb⟩ := h
  exact ⟨g, e1, hg, r.blk hb ht⟩
/-- The states written so far: those that stand for the first i copies. -/
def RnAt (w : World) (n1 gN gE L M : Nat) (to : Nat → Nat) (Row : Nat → List Int) (E : Nat → Bool) (i : Nat) (rows : List Value) (es : List Bool) : Prop :=
  Blk w gN 35 rows.toArray ∧ Blk w gE 4 (boolCs es) ∧ rows.length = M ∧ es.length = M ∧
  ∀ s, s < i → ∃ g, rows.getD (to s) undef = .slice (some ⟨g, 0, none⟩) L L ∧ n1 ≤ g ∧ Blk w g 3 (intCs (Row s)) ∧ es.getD (to s) false = E s
section
variable {w w' : World} {n1 gN gE L M i : Nat} {to : Nat → Nat} {Row : Nat → List Int} {E : Nat → Bool} {rows : List Value} {es : List Bool}
theorem RnAt.frm {Ex : Nat → Prop} (h : RnAt w n1 gN gE L M to Row E i rows es) (F : Frm Ex w w') (hE : ∀ b, b < w.heap.size → ¬ Ex b) : RnAt w' n1 gN gE L M to Row E i rows es := by
  obtain ⟨h1, h2, h3, h4, h5⟩ := h
  refine ⟨F.blk h1 (hE _ h1.lt), F.blk h2 (hE _ h2.lt), h3, h4, fun s hs => ?_⟩
  obtain ⟨g, g1, g2, g3, g4⟩ := h5 s hs
  exact ⟨g, g1, g2, F.blk g3 (hE _ g3.lt), g4⟩
theorem RnAt.start (h1 : Blk w gN 35 (nilCs M)) (h2 : Blk w gE 4 (boolCs (List.replicate M false))) : RnAt w n1 gN gE L M to Row E 0 (List.replicate M (.slice none 0 0)) (List.replicate M false) := by
  refine ⟨?_, h2, by simp, by simp, fun s hs => absurd hs (Nat.not_lt_zero s)⟩
  have e : nilCs M = (List.replicate M (Value.slice none 0 0)).toArray := by
    unfold nilCs
    apply Array.toList_inj.1
    rw [toList_madeCells_one]
  rw [← e]
  exact h1
/-- A row is laid, filled, and its end set: one more. -/
theorem RnAt.next {gr : Nat} (h : RnAt w n1 gN gE L M to Row E i rows es) (hto : to i < M) (hinj : ∀ s, s < i → to s ≠ to i) (F : Frm (fun b => b = gN ∨ b = gE ∨ w.heap.size ≤ b) w w')
    (h1 : Blk w' gN 35 (rows.set (to i) (.slice (some ⟨gr, 0, none⟩) L L)).toArray) (h2 : Blk w' gE 4 (boolCs (es.set (to i) (E i)))) (h3 : n1 ≤ gr) (h4 : Blk w' gr 3 (intCs (Row i))) :
    RnAt w' n1 gN gE L M to Row E (i + 1) (rows.set (to i) (.slice (some ⟨gr, 0, none⟩) L L)) (es.set (to i) (E i)) := by
  obtain ⟨k1, k2, k3, k4, k5⟩ := h
  refine ⟨h1, h2, by simp [k3], by simp [k4], fun s hs => ?_⟩
  by_cases e : s = i
  · subst e
    exact ⟨gr, by simp [k3, hto], h3, h4, by simp [k4, hto]⟩
  · obtain ⟨g, g1, g2, g3, g4⟩ := k5 s (by omega)
    have hne := hinj s (by omega)
    refine ⟨g, ?_, g2, F.blk g3 ?_, ?_⟩
    · rw [← g1]; simp [List.getElem?_set_ne (Ne.symm hne)]
    · rintro (e' | e' | e')
      · subst e'; exact absurd (blk_type g3 k1) (by decide)
      · subst e'; exact absurd (blk_type g3 k2) (by decide)
      · have := g3.lt; omega
    · rw [← g4]; simp [List.getElem?_set_ne (Ne.symm hne)]
end
theorem RnAt.mach {w : World} {n1 gN gE L M N b st : Nat} {m : A.Mac} {cp : List Bool} {rows : List Value} {es : List Bool} (hN : N = m.next.length) (hp : ¬ N = 0) (hM : M = 2 * N) (hL : m.letters = (L : Int)) (hst : m.start = (st : Int))
    (h : RnAt w n1 gN gE L M (A.rnTo N b) (A.rnRow m b cp) (fun s => m.fin.getD (s % N) false) M rows es) (h1 : n1 ≤ gN) (h2 : n1 ≤ gE) :
    MachAt w (fun x => n1 ≤ x) (.agg #[.int .i64 (L : Int), .int .i64 (A.rnTo N b st : Nat), .slice (some ⟨gN, 0, none⟩) M M, .slice (some ⟨gE, 0, none⟩) M M]) (A.renamed m b cp) := by
  obtain ⟨k1, k2, k3, k4, k5⟩ := h
  have e : A.renamed m b cp = ⟨m.letters, (A.rnTo N b st : Nat), (List.range M).map fun t => A.rnRow m b cp (A.rnOf N b t), (List.range M).map fun t => m.fin.getD (A.rnOf N b t % N) false⟩ := by
    unfold A.renamed
    rw [if_neg (by omega), hst, ← hN, ← hM]
    have : (((A.rnTo N b st : Nat)) : Int) = ((st : Int) + b) % (2 * (N : Int)) := by
      unfold A.rnTo
      rw [Int.natCast_emod, Int.natCast_add, Int.natCast_mul]
      rfl
    rw [this]
  rw [e]
  refine ⟨_, _, by rw [hL], ⟨some ⟨gN, 0, none⟩, M, by simp, fun t ht => ?_⟩, ⟨some ⟨gE, 0, none⟩, M, by simp, fun t ht => ?_⟩⟩
  · have ht' : t < M := by simpa using ht
    have hs := A.rnOf_lt (b := b) (t := t) (show 0 < N by omega)
    obtain ⟨g, g1, g2, g3, g4⟩ := k5 (A.rnOf N b t) (by omega)
    rw [A.rnTo_of (by omega) (by omega)] at g1
    have hr : t < rows.length := by omega
    have e3 : rows[t]? = some (.slice (some ⟨g, 0, none⟩) L L) := by rw [← g1]; simp [hr]
    refine ⟨gN, 0, _, rfl, h1, by rw [Nat.zero_add, k1.cell t, List.getElem?_toArray, e3], ?_⟩
    have hI := g3.ints_.mono_ (Q := fun x => n1 ≤ x) fun x hx => by omega
    have hll : (A.rnRow m b cp (A.rnOf N b t)).length = L := by unfold A.rnRow; rw [hL]; simp
    rw [hll] at hI
    simpa using hI
  · have ht' : t < M := by simpa using ht
    have hs := A.rnOf_lt (b := b) (t := t) (show 0 < N by omega)
    obtain ⟨g, g1, g2, g3, g4⟩ := k5 (A.rnOf N b t) (by omega)
    rw [A.rnTo_of (by omega) (by omega)] at g4
    refine ⟨gE, 0, rfl, h2, ?_⟩
    rw [Nat.zero_add, k2.cell t, boolCs_getD (by omega)]
    rw [g4]
    simp
namespace A
/-- The row of a copy, as far as it is written. -/
def rnPart (m : Mac) (b : Nat) (cp : List Bool) (i L j : Nat) : List Int := ((List.range j).map fun k => rnV m b cp i k) ++ List.replicate (L - j) 0
theorem rnPart_len {m : Mac} {b : Nat} {cp : List Bool} {i L j : Nat} (h : j ≤ L) : (rnPart m b cp i L j).length = L := by simp [rnPart]; omega
theorem rnPart_zero {m : Mac} {b : Nat} {cp : List Bool} {i L : Nat} : rnPart m b cp i L 0 = List.replicate L 0 := by simp [rnPart]
theorem rnPart_all {m : Mac} {b : Nat} {cp : List Bool} {i L : Nat} (h : m.letters = (L : Int)) : rnPart m b cp i L L = rnRow m b cp i := by
  unfold rnPart rnRow
  rw [h, Int.toNat_natCast]
  simp
theorem rnPart_set {m : Mac} {b : Nat} {cp : List Bool} {i L j : Nat} (h : j < L) : (rnPart m b cp i L j).set j (rnV m b cp i j) = rnPart m b cp i L (j + 1) := by
  unfold rnPart
  rw [List.set_append_right _ _ (by simp), show L - j = (L - (j + 1)) + 1 by omega, List.replicate_succ]
  have e : j - ((List.range j).map fun k => rnV m b cp i k).length = 0 := by simp
  rw [e, List.set_cons_zero, List.range_succ, List.map_append]
  simp
end A
def stR (n2 gN L t : Nat) (rows : List Value) (v : Value) (w : World) : Prop := ∃ gr, v = .slice (some ⟨gr, 0, none⟩) L L ∧ n2 ≤ gr ∧ Blk w gr 3 (intCs (List.replicate L 0)) ∧ Blk w gN 35 (rows.set t (.slice (some ⟨gr, 0, none⟩) L L)).toArray
theorem stR.q {n2 gN L t : Nat} {rows : List Value} {v : Value} {a b : World} (h : stR n2 gN L t rows v a) (r : Frm (fun _ => False) a b) : stR n2 gN L t rows v b := by
  obtain ⟨gr, e1, h1, h2, h3⟩ := h
  exact ⟨gr, e1, h1, r.blk h2 id, r.blk h3 id⟩
theorem rem_to {n b i : Nat} : Int.tmod ((i : Int) + (b : Int)) (2 * (n : Int)) = (A.rnTo n b i : Int) := by
  rw [Int.tmod_eq_emod_of_nonneg (by omega)]
  unfold A.rnTo
  rw [Int.natCast_emod, Int.natCast_add, Int.natCast_mul]
  rfl
theorem rem_mod {n i : Nat} : Int.tmod (i : Int) (n : Int) = ((i % n : Nat) : Int) := by
  rw [Int.tmod_eq_emod_of_nonneg (by omega), Int.natCast_emod]
set_option maxRecDepth 100000 in
set_option maxHeartbeats 16000000 in
theorem renamed_any {w : World} {P Q : Nat → Prop} {v vc : Value} {m : A.Mac} {b : Nat} {cp : List Bool} (h : MachAt w P v m) (hf : A.Fits m) (hn : m.next.length ≤ 30) (hl : m.letters ≤ 8) (hc : Bools w Q vc cp) (hb : b ≤ 255) :
    Calls Try.prog 12 #[v, .int .u8 (b : Int), vc] w fun e w' => ∃ r, e = .returned r ∧ MachAt w' (fun x => w.heap.size ≤ x) r (A.renamed m b cp) ∧ Frm (fun _ => False) w w' := by
  obtain ⟨A1, c1, A2, c2, rfl⟩ := h.form
  obtain ⟨AC, cc, rfl, hCP⟩ := id hc
  obtain ⟨N, hN⟩ : ∃ N, N = m.next.length := ⟨_, rfl⟩
  have hNf : N = m.fin.length := by rw [hN]; exact hf.fin
  obtain ⟨L, hL⟩ := Int.eq_ofNat_of_zero_le hf.letters
  obtain ⟨W0, hW0⟩ : ∃ W0, W0 = (w.alloc (.cells #[.int .i64 m.letters, .int .i64 m.start, .slice A1 m.next.length c1, .slice A2 m.fin.length c2] 25)).alloc (.cells zeroM 25) := ⟨_, rfl⟩
  have HB0 : Hid (Blk W0 w.heap.size 25 #[.int .i64 m.letters, .int .i64 m.start, .slice A1 m.next.length c1, .slice A2 m.fin.length c2]) := by rw [hW0]; exact (Blk.new w _ _).alloc _
  have HZ0 : Hid (Blk W0 (w.heap.size + 1) 25 zeroM) := by rw [hW0]; exact blk_at (by simp)
  have HF0 : Hid (Frm (fun _ => False) w W0) := by rw [hW0]; exact ((Frm.refl _ w).alloc _).alloc _
  have HS0 : Hid (W0.heap.size = w.heap.size + 2) := by rw [hW0]; show _ = _; simp
  have HM := Lib.hid h
  have HFI := Lib.hid hf
  have HCP := Lib.hid hCP
  have HN := Lib.hid hN
  have HNF := Lib.hid hNf
  have HL := Lib.hid hL
  have hN30 : N ≤ 30 := by omega
  have hL8 : L ≤ 8 := by omega
  rw [hL, ← hN, ← hNf] at HB0 hW0
  rw [hL, ← hN, ← hNf]
  clear h hf hc hCP hN hNf hL hn hl
  have x0 := HB0.out.cell 0
  have x2 := HB0.out.cell 2
  simp only [zeroM] at hW0
  rw [hW0] at x0 x2
  go_enter Try.func12, Try.ntmps12
  go_wp2_with fail
  rw [← hW0]
  obtain ⟨M, hM⟩ : ∃ M, M = 2 * N := ⟨_, rfl⟩
  have hMI : 2 * (N : Int) = (M : Int) := by omega
  have hM60 : M ≤ 60 := by omega
  have HMN := Lib.hid hM
  clear hM
  obtain ⟨n1, hn1⟩ : ∃ n1, n1 = W0.heap.size := ⟨_, rfl⟩
  have HSZ : Hid (n1 = w.heap.size + 2) := show _ = _ by rw [hn1]; exact HS0.out
  have HXB : Hid (∀ {V : World}, Frm (fun b => n1 ≤ b) W0 V → Blk V w.heap.size 25 #[.int .i64 (L : Int), .int .i64 m.start, .slice A1 N c1, .slice A2 N c2]) := fun F => F.blk HB0.out (by have := HSZ.out; omega)
  have HN1 := Lib.hid hn1
  clear x0 x2 hW0 hn1
  refine wp_region_dep [17, 18, 19, 20, 21, 22, 23, 24, 25, 8, 1000] [[0], [1], [2], [3], [4], [5], [6], [7], [8], [9], [9]]
    [f1 (vV (.pointer (some ⟨w.heap.size, 0, none⟩))), f1 (vV (.int .i64 (L : Int))), f1 (vV (.int .i64 (N : Int))), f1 (vV (.int .i64 (M : Int))), f1 (mkB n1 35 (nilCs M) M), f1 (vV (.int .i64 (N : Int))), f1 (vV (.int .i64 (M : Int))), f1 (mkB n1 4 (boolCs (List.replicate M false)) M), f1 (smI n1 L (-1) M), f1 (pM n1), f1 (smQ n1 L (-1) M)]
    (Frm (fun b => n1 ≤ b)) (fun i => if i = 10 then RS n1 else Frm (fun _ => False)) (fun _ _ => True) [] [(3, .pointer (some ⟨w.heap.size, 0, none⟩)), (7, .int .i64 (N : Int))] (by kernel_rfl) (by kernel_rfl) (fun _ _ _ => Frm.trans) ?_ ?_ (fun _ _ _ _ _ _ _ _ _ => trivial) (fun _ => trivial) (fun _ h => by cases h) (Frm.refl _ _).drew ?_ ?_ ?_
  · intro i a b h
    split at h
    · exact h.frm
    · exact h.mono fun _ _ h => h.elim
  · intro j i hj hi hne hna l a b hf hr
    have hj' : j < 11 := hj
    by_cases h10 : i = 10
    · subst h10
      rw [if_pos rfl] at hr
      have hcs : j = 0 ∨ j = 1 ∨ j = 2 ∨ j = 3 ∨ j = 4 ∨ j = 5 ∨ j = 6 ∨ j = 7 ∨ j = 8 ∨ j = 9 := by omega
      rcases hcs with rfl | rfl | rfl | rfl | rfl | rfl | rfl | rfl | rfl | rfl
      · exact hf
      · exact hf
      · exact hf
      · exact hf
      · exact mkB.rs hf hr (by decide)
      · exact hf
      · exact hf
      · exact mkB.rs hf hr (by decide)
      · exact smI.rs hf hr
      · exact pM.rs hf hr
    · rw [if_neg h10] at hr
      have hcs : j = 0 ∨ j = 1 ∨ j = 2 ∨ j = 3 ∨ j = 4 ∨ j = 5 ∨ j = 6 ∨ j = 7 ∨ j = 8 ∨ j = 9 ∨ j = 10 := by omega
      rcases hcs with rfl | rfl | rfl | rfl | rfl | rfl | rfl | rfl | rfl | rfl | rfl
      · exact hf
      · exact hf
      · exact hf
      · exact hf
      · exact mkB.q hf hr
      · exact hf
      · exact hf
      · exact mkB.q hf hr
      · exact smI.q hf hr
      · exact pM.q hf hr
      · exact smQ.q hf hr
  · intro x hx
    simp only [List.mem_cons, List.not_mem_nil, or_false] at hx
    rcases hx with rfl | rfl <;> exact ⟨by simp, rfl⟩
  · refine ⟨?_, ?_, ?_, ?_, ?_, ?_, ?_, ?_, ?_, ?_, ?_, trivial⟩
    · intro Q tm df V hR _ hu hd
      have u1 : tm[3]?.getD undef = .pointer (some ⟨w.heap.size, 0, none⟩) := hu (3, _) (by simp)
      clear hu hd
      go_simp
      exact ⟨_, rfl, rfl, Frm.refl _ V⟩
    · intro Q tm df V hR _ hu hd
      have e0 : tm[17]?.getD undef = .pointer (some ⟨w.heap.size, 0, none⟩) := hd 0 (by simp)
      have y := (HXB.out hR).cell 0
      clear hu hd
      go_simp
      exact ⟨_, rfl, rfl, Frm.refl _ V⟩
    · intro Q tm df V hR _ hu hd
      have u1 : tm[7]?.getD undef = .int .i64 (N : Int) := hu (7, _) (by simp)
      clear hu hd
      go_simp
      exact ⟨_, rfl, rfl, Frm.refl _ V⟩
    · intro Q tm df V hR _ hu hd
      have e0 : tm[19]?.getD undef = .int .i64 (N : Int) := hd 2 (by simp)
      clear hu hd
      go_simp
      exact ⟨_, rfl, (by show Value.int IntKind.i64 (IntKind.i64.wrap (M : Int)) = _; rw [IntWalk.i64_in _ (by omega)]), Frm.refl _ V⟩
    · intro Q tm df V hR _ hu hd
      have e0 : tm[20]?.getD undef = .int .i64 (M : Int) := hd 3 (by simp)
      have hmk := run_make_row' (P := Try.prog) 22 35 (.slice none 0 0) 24 Try.underlying22 info_row rfl .i64 .i64 M (by omega) (by omega)
      have HNN := HN1.out
      clear hu hd
      go_simp
      exact ⟨_, rfl, ⟨V.heap.size, rfl, by have := hR.1; omega, Blk.new _ _ _⟩, (Frm.refl _ V).alloc _⟩
    · intro Q tm df V hR _ hu hd
      have u1 : tm[7]?.getD undef = .int .i64 (N : Int) := hu (7, _) (by simp)
      clear hu hd
      go_simp
      exact ⟨_, rfl, rfl, Frm.refl _ V⟩
    · intro Q tm df V hR _ hu hd
      have e0 : tm[22]?.getD undef = .int .i64 (N : Int) := hd 5 (by simp)
      clear hu hd
      go_simp
      exact ⟨_, rfl, (by show Value.int IntKind.i64 (IntKind.i64.wrap (M : Int)) = _; rw [IntWalk.i64_in _ (by omega)]), Frm.refl _ V⟩
    · intro Q tm df V hR _ hu hd
      have e0 : tm[23]?.getD undef = .int .i64 (M : Int) := hd 6 (by simp)
      have hmk := run_make_row' (P := Try.prog) 23 4 (.bool false) 1 Try.underlying23 info_boolE rfl .i64 .i64 M (by omega) (by omega)
      have HNN := HN1.out
      clear hu hd
      go_simp
      exact ⟨_, rfl, ⟨V.heap.size, rfl, by have := hR.1; omega, by rw [← boolCs_made]; exact Blk.new _ _ _⟩, (Frm.refl _ V).alloc _⟩
    · intro Q tm df V hR _ hu hd
      have e0 : tm[18]?.getD undef = .int .i64 (L : Int) := hd 1 (by simp)
      obtain ⟨gN, e2, h2, b2⟩ : mkB n1 35 (nilCs M) M (tm[21]?.getD undef) V := hd 4 (by simp)
      obtain ⟨gE, e3, h3, b3⟩ : mkB n1 4 (boolCs (List.replicate M false)) M (tm[24]?.getD undef) V := hd 7 (by simp)
      clear hu hd
      go_simp
      exact ⟨_, rfl, ⟨gN, gE, rfl, h2, h3, b2, b3⟩, Frm.refl _ V⟩
    · intro Q tm df V hR _ hu hd
      have HNN := HN1.out
      clear hu hd
      go_simp
      exact ⟨_, rfl, ⟨V.heap.size, _, rfl, by have := hR.1; omega, rfl, Blk.new _ _ _⟩, (Frm.refl _ V).alloc _⟩
    · intro Q tm df V hR _ hu hd
      obtain ⟨gN, gE, e0, h2, h3, b2, b3⟩ : smI n1 L (-1) M (tm[25]?.getD undef) V := hd 8 (by simp)
      obtain ⟨b, cs, e1, hb, hs, hbk⟩ : pM n1 (tm[8]?.getD undef) V := hd 9 (by simp)
      obtain ⟨k0, k1, k2, k3, rfl⟩ : ∃ k0 k1 k2 k3, cs = #[k0, k1, k2, k3] := Go.Joins.array4 hs
      have y0 := hbk.cell 0
      have y1 := hbk.cell 1
      have y2 := hbk.cell 2
      have y3 := hbk.cell 3
      have z0 := hbk.frozen 0
      have z1 := hbk.frozen 1
      have z2 := hbk.frozen 2
      have z3 := hbk.frozen 3
      clear hu hd
      have hrs : RS n1 V (put4 V b (.int .i64 (L : Int)) (.int .i64 (-1)) (.slice (some ⟨gN, 0, none⟩) M M) (.slice (some ⟨gE, 0, none⟩) M M)) := ⟨b, _, _, hb, hbk, put4_blk hbk, rfl, rfl, put4_frm1⟩
      have hh : ∀ v, v = .pointer (some ⟨b, 0, none⟩) → smQ n1 L (-1) M v (put4 V b (.int .i64 (L : Int)) (.int .i64 (-1)) (.slice (some ⟨gN, 0, none⟩) M M) (.slice (some ⟨gE, 0, none⟩) M M)) := fun v e => ⟨b, gN, gE, e, hb, h2, h3, put4_blk hbk, hrs.blk b2 (by decide), hrs.blk b3 (by decide)⟩
      have HH := Lib.hid hh
      have HRS := Lib.hid hrs
      clear hrs hh
      go_simp
      exact ⟨HH.out _ e1, HRS.out⟩
  · intro vs V hR hf
    obtain ⟨ob, gN, gE, e6, h1, h2, h3, b1, b2, b3⟩ : smQ n1 L (-1) M (vs 9) V := hf 10 (by decide)
    clear hf
    simp only [putAll, List.size_toArray, List.length_cons, List.length_nil, Nat.zero_add, Nat.reduceAdd, show List.range 11 = [0, 1, 2, 3, 4, 5, 6, 7, 8, 9, 10] from rfl, List.foldl_cons, List.foldl_nil, List.getD_cons_zero, List.getD_cons_succ, List.setIfInBounds_toArray, List.set_cons_zero, List.set_cons_succ, e6]
    have HFX : Hid (∀ {V : World}, Frm (fun b => n1 ≤ b) W0 V → Frm (fun _ => False) w V) := fun F => ((HF0.out.mono fun _ _ h => h.elim).trans F).mono fun b hb h => by have := HSZ.out; omega
    have HF2 : Hid (Frm (fun b => n1 ≤ b) W0 V) := hR
    have HOB : Hid (Blk V ob 25 #[.int .i64 (L : Int), .int .i64 (-1), .slice (some ⟨gN, 0, none⟩) M M, .slice (some ⟨gE, 0, none⟩) M M]) := b1
    have HNN : Hid (n1 ≤ gN ∧ n1 ≤ gE ∧ n1 ≤ ob) := ⟨h2, h3, h1⟩
    have HRN : Hid (RnAt V n1 gN gE L M (A.rnTo N b) (A.rnRow m b cp) (fun s => m.fin.getD (s % N) false) 0 (List.replicate M (.slice none 0 0)) (List.replicate M false)) := RnAt.start b2 b3
    clear b1 b2 b3 h1 h2 h3 hR e6 HF0 HS0
    by_cases hN0 : N = 0
    · subst hN0
      have z0 := HF2.out.blk HZ0.out (by have := HSZ.out; omega) |>.cell 0
      have z1 := HF2.out.blk HZ0.out (by have := HSZ.out; omega) |>.cell 1
      have z2 := HF2.out.blk HZ0.out (by have := HSZ.out; omega) |>.cell 2
      have z3 := HF2.out.blk HZ0.out (by have := HSZ.out; omega) |>.cell 3
      have q0 := HF2.out.blk HZ0.out (by have := HSZ.out; omega) |>.frozen 0
      have q1 := HF2.out.blk HZ0.out (by have := HSZ.out; omega) |>.frozen 1
      have q2 := HF2.out.blk HZ0.out (by have := HSZ.out; omega) |>.frozen 2
      have q3 := HF2.out.blk HZ0.out (by have := HSZ.out; omega) |>.frozen 3
      have x0 := (HXB.out HF2.out).cell 0
      have HZ := Lib.hid (HF2.out.blk HZ0.out (by have := HSZ.out; omega))
      simp only [zeroM] at z0 z1 z2 z3
      have he : A.renamed m b cp = ⟨(L : Int), -1, [], []⟩ := by
        unfold A.renamed A.noM
        rw [if_pos HN.out.symm, HL.out]
      have HE := Lib.hid he
      clear he
      go_wp2_with fail
      refine bodyPost_ret (w := put4 V (w.heap.size + 1) (.int .i64 (L : Int)) (.int .i64 (-1)) (.slice none 0 0) (.slice none 0 0)) (v := .agg #[.int .i64 (L : Int), .int .i64 (-1), .slice none 0 0, .slice none 0 0]) ?_ rfl ⟨_, rfl, by rw [HE.out]; exact ⟨_, _, rfl, ⟨none, 0, rfl, fun _ hk => absurd hk (Nat.not_lt_zero _)⟩, ⟨none, 0, rfl, fun _ hk => absurd hk (Nat.not_lt_zero _)⟩⟩, put4_frm (HFX.out HF2.out) (by omega)⟩
      have h4 := put4_blk (l := .int .i64 (L : Int)) (s := .int .i64 (-1)) (n := .slice none 0 0) (e := .slice none 0 0) HZ.out
      generalize put4 V (w.heap.size + 1) (.int .i64 (L : Int)) (.int .i64 (-1)) (.slice none 0 0) (.slice none 0 0) = w4 at *
      clear z0 z1 z2 z3 q0 q1 q2 q3
      have y0 := h4.cell 0
      have y1 := h4.cell 1
      have y2 := h4.cell 2
      have y3 := h4.cell 3
      simp [results, Try.results12, go_sem, y0, y1, y2, y3]
    · have hN0' : ((N : Int) == 0) = false := by simp [hN0]
      have HN0 := Lib.hid hN0
      clear hN0
      go_wp2_with fail
      go_loopg [9, 10] (M + 1) (fun n u9 u10 wr => ∃ (i q : Nat) (rows : List Value) (es : List Bool), i ≤ M ∧ q ≤ 480 ∧ n = M + 1 - i ∧ Hid (q = i * L) ∧ u9 = .int .i64 (q : Int) ∧ u10 = .int .i64 (i : Int) ∧ Hid (RnAt wr n1 gN gE L M (A.rnTo N b) (A.rnRow m b cp) (fun s => m.fin.getD (s % N) false) i rows es) ∧ Hid (Blk wr ob 25 #[.int .i64 (L : Int), .int .i64 (-1), .slice (some ⟨gN, 0, none⟩) M M, .slice (some ⟨gE, 0, none⟩) M M]) ∧ Hid (Frm (fun b => n1 ≤ b) W0 wr))
      case atStart => exact ⟨0, 0, _, _, Nat.zero_le _, Nat.zero_le _, rfl, by simp [Hid], rfl, rfl, HRN, HOB, HF2⟩
      case round =>
        clear HRN HOB HF2
        obtain ⟨i, q, rows, es, hi, hq4, rfl, HQ, rfl, rfl, HRN, HOB, HF⟩ := hrel
        by_cases hlt : i < M
        · have hlt' : (i : Int) < (M : Int) := by omega
          obtain ⟨t, ht⟩ : ∃ t, t = A.rnTo N b i := ⟨_, rfl⟩
          have hrem : Int.tmod ((i : Int) + (b : Int)) (M : Int) = (t : Int) := by rw [← hMI, ht]; exact rem_to
          have htM : t < M := by rw [ht, HMN.out]; exact A.rnTo_lt (by have := HN0.out; omega)
          have HT := Lib.hid ht
          clear ht
          go_wp2_with fail
          obtain ⟨n2, hn2⟩ : ∃ n2, n2 = wr.heap.size := ⟨_, rfl⟩
          have HN2 := Lib.hid hn2
          have HGN2 : Hid (n1 ≤ gN ∧ gN < n2 ∧ gE < n2 ∧ ob < n2) := ⟨HNN.out.1, by rw [hn2]; exact HRN.out.1.lt, by rw [hn2]; exact HRN.out.2.1.lt, by rw [hn2]; exact HOB.out.lt⟩
          have HXO : Hid (∀ {V : World}, Frm (fun b => b = gN) wr V → Blk V ob 25 #[.int .i64 (L : Int), .int .i64 (-1), .slice (some ⟨gN, 0, none⟩) M M, .slice (some ⟨gE, 0, none⟩) M M]) := fun F => F.blk HOB.out fun e => by
            subst e
            exact absurd (blk_type HOB.out HRN.out.1) (by decide)
          have HXX : Hid (∀ {V : World}, Frm (fun b => b = gN) wr V → Frm (fun b => n1 ≤ b) W0 V) := fun F => HF.out.trans (F.mono fun b _ e => by have := HNN.out.1; omega)
          clear hn2
          refine wp_region_dep [44, 45, 46, 47, 48, 49, 50, 1000] [[0], [1], [2], [3], [4], [5], [6], [5]]
            [f1 (vV (.pointer (some ⟨ob, 2, none⟩))), f1 (vV (.slice (some ⟨gN, 0, none⟩) M M)), f1 (vV (.int .i64 (t : Int))), f1 (vV (.pointer (some ⟨w.heap.size, 0, none⟩))), f1 (vV (.int .i64 (L : Int))), f1 (mkB n2 3 (intCs (List.replicate L 0)) L), f1 (vV (.pointer (some ⟨gN, t, none⟩))), f1 (stR n2 gN L t rows)]
            (Frm (fun b => b = gN)) (fun i => if i = 7 then RA (some gN) else Frm (fun _ => False)) (fun i V => i = 7 → Blk V gN 35 rows.toArray) [] [(8, .pointer (some ⟨ob, 0, none⟩)), (11, .int .i64 (t : Int)), (3, .pointer (some ⟨w.heap.size, 0, none⟩))] (by kernel_rfl) (by kernel_rfl) (fun _ _ _ => Frm.trans) ?_ ?_ ?_ ?_ (fun _ h => by cases h) (Frm.refl _ _).drew ?_ ?_ ?_
          · intro i a b h
            split at h
            · exact h.1.mono fun _ _ e => by injection e with e; exact e.symm
            · exact h.mono fun _ _ h => h.elim
          · intro j i hj hi hne hna l a b hf hr
            have hj' : j < 8 := hj
            by_cases h7 : i = 7
            · subst h7
              rw [if_pos rfl] at hr
              have hcs : j = 0 ∨ j = 1 ∨ j = 2 ∨ j = 3 ∨ j = 4 ∨ j = 5 ∨ j = 6 := by omega
              rcases hcs with rfl | rfl | rfl | rfl | rfl | rfl | rfl
              · exact hf
              · exact hf
              · exact hf
              · exact hf
              · exact hf
              · exact mkB.ra hf hr (by decide)
              · exact hf
            · rw [if_neg h7] at hr
              have hcs : j = 0 ∨ j = 1 ∨ j = 2 ∨ j = 3 ∨ j = 4 ∨ j = 5 ∨ j = 6 ∨ j = 7 := by omega
              rcases hcs with rfl | rfl | rfl | rfl | rfl | rfl | rfl | rfl
              · exact hf
              · exact hf
              · exact hf
              · exact hf
              · exact hf
              · exact mkB.q hf hr
              · exact hf
              · exact stR.q hf hr
          · intro i k hk hne _ a b h hr e
            subst e
            rw [if_neg (Ne.symm hne)] at hr
            exact hr.blk (h rfl) id
          · intro i e
            exact HRN.out.1.drew
          · intro x hx
            simp only [List.mem_cons, List.not_mem_nil, or_false] at hx
            rcases hx with rfl | rfl | rfl <;> exact ⟨by simp, rfl⟩
          · refine ⟨?_, ?_, ?_, ?_, ?_, ?_, ?_, ?_, trivial⟩
            · intro Q tm df V hR _ hu hd
              have u1 : tm[8]?.getD undef = .pointer (some ⟨ob, 0, none⟩) := hu (8, _) (by simp)
              clear hu hd
              go_simp
              exact ⟨_, rfl, rfl, Frm.refl _ V⟩
            · intro Q tm df V hR _ hu hd
              have e0 : tm[44]?.getD undef = .pointer (some ⟨ob, 2, none⟩) := hd 0 (by simp)
              have y := (HXO.out hR).cell 2
              clear hu hd
              go_simp
              exact ⟨_, rfl, rfl, Frm.refl _ V⟩
            · intro Q tm df V hR _ hu hd
              have u1 : tm[11]?.getD undef = .int .i64 (t : Int) := hu (11, _) (by simp)
              clear hu hd
              go_simp
              exact ⟨_, rfl, rfl, Frm.refl _ V⟩
            · intro Q tm df V hR _ hu hd
              have u1 : tm[3]?.getD undef = .pointer (some ⟨w.heap.size, 0, none⟩) := hu (3, _) (by simp)
              clear hu hd
              go_simp
              exact ⟨_, rfl, rfl, Frm.refl _ V⟩
            · intro Q tm df V hR _ hu hd
              have e0 : tm[47]?.getD undef = .pointer (some ⟨w.heap.size, 0, none⟩) := hd 3 (by simp)
              have y := (HXB.out (HXX.out hR)).cell 0
              clear hu hd
              go_simp
              exact ⟨_, rfl, rfl, Frm.refl _ V⟩
            · intro Q tm df V hR _ hu hd
              have e0 : tm[48]?.getD undef = .int .i64 (L : Int) := hd 4 (by simp)
              have hmk := run_make_row' (P := Try.prog) 35 3 (.int .i64 0) 8 Try.underlying35 info_int rfl .i64 .i64 L (by omega) (by omega)
              have HNV : Hid (n2 ≤ V.heap.size) := by have := hR.1; rw [HN2.out]; exact this
              clear hu hd
              go_simp
              exact ⟨_, rfl, ⟨V.heap.size, rfl, HNV.out, by rw [← intCs_made]; exact Blk.new _ _ _⟩, (Frm.refl _ V).alloc _⟩
            · intro Q tm df V hR _ hu hd
              have e0 : tm[45]?.getD undef = .slice (some ⟨gN, 0, none⟩) M M := hd 1 (by simp)
              have e1 : tm[46]?.getD undef = .int .i64 (t : Int) := hd 2 (by simp)
              have htM' : (t : Int) < (M : Int) := by omega
              clear hu hd
              go_simp
              exact ⟨_, rfl, rfl, Frm.refl _ V⟩
            · intro Q tm df V hR hS hu hd
              have e0 : tm[50]?.getD undef = .pointer (some ⟨gN, t, none⟩) := hd 6 (by simp)
              obtain ⟨gr, e1, hgr, hb⟩ : mkB n2 3 (intCs (List.replicate L 0)) L (tm[49]?.getD undef) V := hd 5 (by simp)
              have hbN := hS rfl
              have hlen : rows.length = M := HRN.out.2.2.1
              have z0 : V.cell? ⟨gN, t, none⟩ = some (rows[t]'(by omega)) := (hbN.cell t).trans (by simp [hlen, htM])
              have z1 := hbN.frozen t
              have FS : Frm (fun b => b = gN) V (V.setCell ⟨gN, t, none⟩ (.slice (some ⟨gr, 0, none⟩) L L)) := Frm.one gN t _
              have hB : Blk (V.setCell ⟨gN, t, none⟩ (.slice (some ⟨gr, 0, none⟩) L L)) gN 35 (rows.set t (.slice (some ⟨gr, 0, none⟩) L L)).toArray := by
                have := hbN.set_ t (.slice (some ⟨gr, 0, none⟩) L L)
                rwa [List.setIfInBounds_toArray] at this
              have hra : RA (some gN) V (V.setCell ⟨gN, t, none⟩ (.slice (some ⟨gr, 0, none⟩) L L)) := ⟨FS.mono fun b _ e => by rw [e], fun x e => by injection e with e; subst e; exact ⟨_, hbN⟩⟩
              have hst : ∀ v, v = .slice (some ⟨gr, 0, none⟩) L L → stR n2 gN L t rows v (V.setCell ⟨gN, t, none⟩ (.slice (some ⟨gr, 0, none⟩) L L)) := fun v e => ⟨gr, e, hgr, hra.blk hb (by decide), hB⟩
              have HST := Lib.hid hst
              have HRA := Lib.hid hra
              clear hu hd hS hbN FS hB hra hst hb
              go_simp
              exact ⟨HST.out _ e1, HRA.out⟩
          · intro vs2 V2 hR hf
            obtain ⟨gr, e6, h1, h2, h3⟩ : stR n2 gN L t rows (vs2 5) V2 := hf 7 (by decide)
            clear hf
            simp only [putAll, List.size_toArray, List.length_cons, List.length_nil, Nat.zero_add, Nat.reduceAdd, show List.range 8 = [0, 1, 2, 3, 4, 5, 6, 7] from rfl, List.foldl_cons, List.foldl_nil, List.getD_cons_zero, List.getD_cons_succ, List.setIfInBounds_toArray, List.set_cons_zero, List.set_cons_succ, e6]
            have HG3 : Hid (Blk V2 gr 3 (intCs (List.replicate L 0))) := h2
            have HR3 : Hid (Blk V2 gN 35 (rows.set t (.slice (some ⟨gr, 0, none⟩) L L)).toArray) := h3
            have HGR : Hid (n2 ≤ gr) := h1
            have HFR : Hid (Frm (fun b => b = gN) wr V2) := hR
            have HO3 := Lib.hid (HXO.out hR)
            have HE3 : Hid (Blk V2 gE 4 (boolCs es)) := hR.blk HRN.out.2.1 fun e => by
              have h1 := HRN.out.1
              have h2 := HRN.out.2.1
              rw [e] at h2
              exact absurd (blk_type h1 h2) (by decide)
            clear h1 h2 h3 hR e6 HXO HOB
            obtain ⟨p, hp⟩ : ∃ p, p = i % N := ⟨_, rfl⟩
            have hrm : Int.tmod (i : Int) (N : Int) = (p : Int) := by rw [hp]; exact rem_mod
            have hpN : p < N := by rw [hp]; exact Nat.mod_lt _ (by have := HN0.out; omega)
            have HP := Lib.hid hp
            clear hp
            have hpf : p < m.fin.length := by rw [← HNF.out]; exact hpN
            have hpn : p < m.next.length := by rw [← HN.out]; exact hpN
            obtain ⟨gf, of, rfl, cf⟩ := HM.out.fin_at hpf
            have HCF : Hid (∀ {V : World}, Frm (fun _ => False) w V → V.cell? ⟨gf, of + p, none⟩ = some (.bool m.fin[p])) := fun F => F.cell id cf
            have HEE : Hid (m.fin[p] = m.fin.getD (i % N) false) := show _ = _ by rw [← HP.out]; simp [hpf]
            clear cf
            generalize m.fin[p] = e0 at *
            have HXX3 : Hid (∀ {V : World}, Frm (fun b => b = gE) V2 V → Frm (fun b => n1 ≤ b) W0 V) := fun F => (HXX.out HFR.out).trans (F.mono fun b _ e => by have := HNN.out.2.1; omega)
            have HXO3 : Hid (∀ {V : World}, Frm (fun b => b = gE) V2 V → Blk V ob 25 #[.int .i64 (L : Int), .int .i64 (-1), .slice (some ⟨gN, 0, none⟩) M M, .slice (some ⟨gE, 0, none⟩) M M]) := fun F => F.blk HO3.out fun e => by
              have h1 := HO3.out
              have h2 := HE3.out
              rw [e] at h1
              exact absurd (blk_type h1 h2) (by decide)
            go_wp2_with fail
            refine wp_region_dep [51, 52, 53, 54, 55, 56, 57, 58, 59, 60, 61, 1000] [[0], [1], [2], [3], [4], [5], [6], [7], [8], [9], [10], []]
              [f1 (vV (.pointer (some ⟨ob, 3, none⟩))), f1 (vV (.slice (some ⟨gE, 0, none⟩) M M)), f1 (vV (.int .i64 (t : Int))), f1 (vV (.pointer (some ⟨w.heap.size, 3, none⟩))), f1 (vV (.slice (some ⟨gf, of, none⟩) N c2)), f1 (vV (.int .i64 (i : Int))), f1 (vV (.int .i64 (N : Int))), f1 (vV (.int .i64 (p : Int))), f1 (vV (.pointer (some ⟨gf, of + p, none⟩))), f1 (vV (.bool e0)), f1 (vV (.pointer (some ⟨gE, t, none⟩))), fun _ V => Blk V gE 4 (boolCs (es.set t e0))]
              (Frm (fun b => b = gE)) (fun i => if i = 11 then Frm (fun b => b = gE) else Frm (fun _ => False)) (fun i V => i = 11 → Blk V gE 4 (boolCs es)) [] [(8, .pointer (some ⟨ob, 0, none⟩)), (11, .int .i64 (t : Int)), (3, .pointer (some ⟨w.heap.size, 0, none⟩)), (10, .int .i64 (i : Int)), (7, .int .i64 (N : Int))] (by kernel_rfl) (by kernel_rfl) (fun _ _ _ => Frm.trans) ?_ ?_ ?_ ?_ (fun _ h => by cases h) (Frm.refl _ _).drew ?_ ?_ ?_
            · intro i a b h
              split at h
              · exact h
              · exact h.mono fun _ _ h => h.elim
            · intro j i hj hi hne hna l a b hf hr
              have hj' : j < 12 := hj
              have hcs : j = 0 ∨ j = 1 ∨ j = 2 ∨ j = 3 ∨ j = 4 ∨ j = 5 ∨ j = 6 ∨ j = 7 ∨ j = 8 ∨ j = 9 ∨ j = 10 ∨ j = 11 := by omega
              rcases hcs with rfl | rfl | rfl | rfl | rfl | rfl | rfl | rfl | rfl | rfl | rfl | rfl
              · exact hf
              · exact hf
              · exact hf
              · exact hf
              · exact hf
              · exact hf
              · exact hf
              · exact hf
              · exact hf
              · exact hf
              · exact hf
              · rw [if_neg hne] at hr
                exact Frm.blk hr hf id
            · intro i k hk hne _ a b h hr e
              subst e
              rw [if_neg (Ne.symm hne)] at hr
              exact hr.blk (h rfl) id
            · intro i e
              exact HE3.out.drew
            · intro x hx
              simp only [List.mem_cons, List.not_mem_nil, or_false] at hx
              rcases hx with rfl | rfl | rfl | rfl | rfl <;> exact ⟨by simp, rfl⟩
            · have hpN' : (p : Int) < (N : Int) := by omega
              have htM' : (t : Int) < (M : Int) := by omega
              refine ⟨?_, ?_, ?_, ?_, ?_, ?_, ?_, ?_, ?_, ?_, ?_, ?_, trivial⟩
              · intro Q tm df V hR _ hu hd
                have u1 : tm[8]?.getD undef = .pointer (some ⟨ob, 0, none⟩) := hu (8, _) (by simp)
                clear hu hd
                go_simp
                exact ⟨_, rfl, rfl, Frm.refl _ V⟩
              · intro Q tm df V hR _ hu hd
                have e0 : tm[51]?.getD undef = .pointer (some ⟨ob, 3, none⟩) := hd 0 (by simp)
                have y := (HXO3.out hR).cell 3
                clear hu hd
                go_simp
                exact ⟨_, rfl, rfl, Frm.refl _ V⟩
              · intro Q tm df V hR _ hu hd
                have u1 : tm[11]?.getD undef = .int .i64 (t : Int) := hu (11, _) (by simp)
                clear hu hd
                go_simp
                exact ⟨_, rfl, rfl, Frm.refl _ V⟩
              · intro Q tm df V hR _ hu hd
                have u1 : tm[3]?.getD undef = .pointer (some ⟨w.heap.size, 0, none⟩) := hu (3, _) (by simp)
                clear hu hd
                go_simp
                exact ⟨_, rfl, rfl, Frm.refl _ V⟩
              · intro Q tm df V hR _ hu hd
                have e0 : tm[54]?.getD undef = .pointer (some ⟨w.heap.size, 3, none⟩) := hd 3 (by simp)
                have y := (HXB.out (HXX3.out hR)).cell 3
                clear hu hd
                go_simp
                exact ⟨_, rfl, rfl, Frm.refl _ V⟩
              · intro Q tm df V hR _ hu hd
                have u1 : tm[10]?.getD undef = .int .i64 (i : Int) := hu (10, _) (by simp)
                clear hu hd
                go_simp
                exact ⟨_, rfl, rfl, Frm.refl _ V⟩
              · intro Q tm df V hR _ hu hd
                have u1 : tm[7]?.getD undef = .int .i64 (N : Int) := hu (7, _) (by simp)
                clear hu hd
                go_simp
                exact ⟨_, rfl, rfl, Frm.refl _ V⟩
              · intro Q tm df V hR _ hu hd
                have e0 : tm[56]?.getD undef = .int .i64 (i : Int) := hd 5 (by simp)
                have e1 : tm[57]?.getD undef = .int .i64 (N : Int) := hd 6 (by simp)
                have hN1 : ¬ N = 0 := HN0.out
                clear hu hd
                go_simp
                exact ⟨_, rfl, rfl, Frm.refl _ V⟩
              · intro Q tm df V hR _ hu hd
                have e0 : tm[55]?.getD undef = .slice (some ⟨gf, of, none⟩) N c2 := hd 4 (by simp)
                have e1 : tm[58]?.getD undef = .int .i64 (p : Int) := hd 7 (by simp)
                clear hu hd
                go_simp
                exact ⟨_, rfl, rfl, Frm.refl _ V⟩
              · intro Q tm df V hR _ hu hd
                have e1 : tm[59]?.getD undef = .pointer (some ⟨gf, of + p, none⟩) := hd 8 (by simp)
                have y := HCF.out (HFX.out (HXX3.out hR))
                clear hu hd
                go_simp
                exact ⟨_, rfl, rfl, Frm.refl _ V⟩
              · intro Q tm df V hR _ hu hd
                have e0 : tm[52]?.getD undef = .slice (some ⟨gE, 0, none⟩) M M := hd 1 (by simp)
                have e1 : tm[53]?.getD undef = .int .i64 (t : Int) := hd 2 (by simp)
                clear hu hd
                go_simp
                exact ⟨_, rfl, rfl, Frm.refl _ V⟩
              · intro Q tm df V hR hS hu hd
                have e1 : tm[61]?.getD undef = .pointer (some ⟨gE, t, none⟩) := hd 10 (by simp)
                have e2 : tm[60]?.getD undef = .bool e0 := hd 9 (by simp)
                have hbE := hS rfl
                have hlen : es.length = M := HRN.out.2.2.2.1
                have z0 : V.cell? ⟨gE, t, none⟩ = some (.bool (es.getD t false)) := (hbE.cell t).trans (boolCs_getD (by omega))
                have z1 := hbE.frozen t
                have hB : Blk (V.setCell ⟨gE, t, none⟩ (.bool e0)) gE 4 (boolCs (es.set t e0)) := by rw [← boolCs_set]; exact hbE.set_ t _
                have HB := Lib.hid hB
                clear hu hd hS hbE hB
                go_simp
                exact ⟨HB.out, Frm.one gE t _⟩
            · intro vs3 V3 hR hf
              have HE4 : Hid (Blk V3 gE 4 (boolCs (es.set t e0))) := hf 11 (by decide)
              clear hf
              simp only [putAll, List.size_toArray, List.length_cons, List.length_nil, Nat.zero_add, Nat.reduceAdd, show List.range 12 = [0, 1, 2, 3, 4, 5, 6, 7, 8, 9, 10, 11] from rfl, List.foldl_cons, List.foldl_nil, List.getD_cons_zero, List.getD_cons_succ, List.setIfInBounds_toArray, List.set_cons_zero, List.set_cons_succ]
              have HO4 := Lib.hid (HXO3.out hR)
              have HF4 := Lib.hid (HXX3.out hR)
              have HR4 : Hid (Blk V3 gN 35 (rows.set t (.slice (some ⟨gr, 0, none⟩) L L)).toArray) := hR.blk HR3.out fun e => by
                have h1 := HR3.out
                have h2 := HE3.out
                rw [e] at h1
                exact absurd (blk_type h1 h2) (by decide)
              have HG4 : Hid (Blk V3 gr 3 (intCs (A.rnPart m b cp i L 0))) := show Blk _ _ _ _ by
                rw [A.rnPart_zero]
                exact hR.blk HG3.out fun e => by
                  have h1 := HG3.out
                  have h2 := HE3.out
                  rw [e] at h1
                  exact absurd (blk_type h1 h2) (by decide)
              have HD4 : Hid (Frm (fun b => b = gN ∨ b = gE ∨ n2 ≤ b) wr V3) := (HFR.out.mono fun _ _ e => .inl e).trans (hR.mono fun _ _ e => .inr (.inl e))
              have HQ4 : Hid (q = i * L + 0) := show _ = _ by have := HQ.out; omega
              clear hR HG3 HR3 HFR HO3 HE3 HXX HXX3 HXO3 HF HCF
              obtain ⟨wo, hwo⟩ : ∃ wo, wo = wr := ⟨_, rfl⟩
              subst hwo
              go_wp2_with fail
              go_loopg [9, 12] (L + 1) (fun n u9 u12 wr => ∃ j q' : Nat, j ≤ L ∧ q' ≤ 480 + j ∧ n = L + 1 - j ∧ Hid (q' = i * L + j) ∧ u9 = .int .i64 (q' : Int) ∧ u12 = .int .i64 (j : Int) ∧ Hid (Blk wr gN 35 (rows.set t (.slice (some ⟨gr, 0, none⟩) L L)).toArray) ∧ Hid (Blk wr gE 4 (boolCs (es.set t e0))) ∧ Hid (Blk wr gr 3 (intCs (A.rnPart m b cp i L j))) ∧ Hid (Blk wr ob 25 #[.int .i64 (L : Int), .int .i64 (-1), .slice (some ⟨gN, 0, none⟩) M M, .slice (some ⟨gE, 0, none⟩) M M]) ∧ Hid (Frm (fun b => b = gN ∨ b = gE ∨ n2 ≤ b) wo wr) ∧ Hid (Frm (fun b => n1 ≤ b) W0 wr))
              case atStart => exact ⟨0, q, Nat.zero_le _, by omega, rfl, HQ4, rfl, rfl, HR4, HE4, HG4, HO4, HD4, HF4⟩
              case round =>
                clear HR4 HE4 HG4 HO4 HD4 HF4 HQ4
                obtain ⟨j, q', hj, hq', rfl, HQ', rfl, rfl, HR, HE, HG, HO, HD, HF⟩ := hrel
                have x0 := (HXB.out HF.out).cell 0
                by_cases hlj : j < L
                · have hlj' : (j : Int) < (L : Int) := by omega
                  have x2 := (HXB.out HF.out).cell 2
                  have o2 := HO.out.cell 2
                  obtain ⟨gn, on, A3, c3, hA, hca, hrow⟩ := HM.out.next_at hpn
                  subst hA
                  obtain ⟨hr1, hr2⟩ := HFI.out.rows _ (List.getElem_mem hpn)
                  have hjl : j < m.next[p].length := by have := HL.out; omega
                  obtain ⟨g3, o3, hA3, _, hcj⟩ := hrow j hjl
                  subst hA3
                  have d1 := (HFX.out HF.out).cell id hca
                  have d2 := (HFX.out HF.out).cell id hcj
                  obtain ⟨hx0, hx1⟩ := hr2 _ (List.getElem_mem hjl)
                  have HEX : Hid (A.lead m (i % m.next.length : Nat) j = m.next[p][j]) := by
                    show _ = _
                    rw [← HN.out, ← HP.out]
                    unfold A.lead
                    rw [if_neg (by omega)]
                    simp [hpn, hjl]
                  have hjk : (j : Int) < (m.next[p].length : Int) := by omega
                  have hpN' : (p : Int) < (N : Int) := by omega
                  have hxN : m.next[p][j] < (N : Int) := by have := HN.out; omega
                  have hN1 : ¬ N = 0 := HN0.out
                  have htM' : (t : Int) < (M : Int) := by omega
                  have hlen : rows.length = M := HRN.out.2.2.1
                  have y0 : wr.cell? ⟨gN, t, none⟩ = some (.slice (some ⟨gr, 0, none⟩) L L) := (HR.out.cell t).trans (by simp [hlen, htM])
                  have hgl := A.rnPart_len (m := m) (b := b) (cp := cp) (i := i) hj
                  have y1 : wr.cell? ⟨gr, j, none⟩ = some (.int .i64 ((A.rnPart m b cp i L j).getD j 0)) := (HG.out.cell j).trans (intCs_getD (by omega))
                  have y2 := HG.out.frozen j
                  clear hca hcj hrow hr1 hr2 hgl
                  generalize m.next[p][j] = x at *
                  clear hjl
                  generalize m.next[p].length = lenp at *
                  generalize (A.rnPart m b cp i L j).getD j 0 = old at *
                  have hgr1 : gN ≠ gr := by have := HGR.out; have := HGN2.out; omega
                  have hgr2 : gE ≠ gr := by have := HGR.out; have := HGN2.out; omega
                  have hgr3 : ob ≠ gr := by have := HGR.out; have := HGN2.out; omega
                  have HLT : Hid (m.letters.toNat = L) := show _ = _ by rw [HL.out]; rfl
                  by_cases hx : 0 ≤ x
                  case neg =>
                    have hx' : x < 0 := by omega
                    have HV : Hid (A.rnV m b cp i j = x) := show _ = _ by
                      unfold A.rnV A.rnS
                      rw [HEX.out, if_neg hx, if_neg hx]
                    have FS : Frm (fun x => x = gr) wr (wr.setCell ⟨gr, j, none⟩ (.int .i64 x)) := Frm.one gr j _
                    have HG5 : Hid (Blk (wr.setCell ⟨gr, j, none⟩ (.int .i64 x)) gr 3 (intCs (A.rnPart m b cp i L (j + 1)))) := show Blk _ _ _ _ by
                      have h := HG.out.set_ j (.int .i64 x)
                      rwa [intCs_set, ← HV.out, A.rnPart_set hlj, HV.out] at h
                    have HR5 := Lib.hid (FS.blk HR.out hgr1)
                    have HE5 := Lib.hid (FS.blk HE.out hgr2)
                    have HO5 := Lib.hid (FS.blk HO.out hgr3)
                    have HD5 : Hid (Frm (fun x => x = gN ∨ x = gE ∨ n2 ≤ x) wo (wr.setCell ⟨gr, j, none⟩ (.int .i64 x))) := HD.out.trans (FS.mono fun x _ e => .inr (.inr (by rw [e]; exact HGR.out)))
                    have HF5 : Hid (Frm (fun x => n1 ≤ x) W0 (wr.setCell ⟨gr, j, none⟩ (.int .i64 x))) := HF.out.trans (FS.mono fun x _ e => by have := HGR.out; have := HGN2.out; omega)
                    have HQ5 : Hid (q' + 1 = i * L + (j + 1)) := show _ = _ by have := HQ'.out; omega
                    clear FS HG HR HE HO HD HF HQ' HV
                    go_wp2_with fail
                    go_quiet (fail)
                    go_wp2_with fail
                    go_roundg (L + 1 - (j + 1))
                    case measure => omega
                    case rel => exact ⟨j + 1, q' + 1, by omega, by omega, rfl, HQ5, by go_num, by go_num, HR5, HE5, HG5, HO5, HD5, HF5⟩
                  obtain ⟨x, rfl⟩ := Int.eq_ofNat_of_zero_le hx
                  have hxM : x + N < M := by have := HMN.out; omega
                  have HXV : Hid (∀ s : Nat, A.rnS m cp i j = (s : Int) → s < 2 * N → A.rnV m b cp i j = (A.rnTo N b s : Int)) := fun s e hs => by
                    unfold A.rnV
                    rw [e, if_pos (by omega), ← HN.out]
                    unfold A.rnTo
                    rw [Int.natCast_emod, Int.natCast_add, Int.natCast_mul]
                    rfl
                  by_cases hcq : q' < cp.length
                  · have hcq' : (q' : Int) < (cp.length : Int) := by omega
                    obtain ⟨gc, oc, hAC, _, hcc⟩ := HCP.out q' hcq
                    subst hAC
                    have dc := (HFX.out HF.out).cell id hcc
                    have HCB : Hid (cp.getD (i * m.letters.toNat + j) false = cp[q']) := show _ = _ by
                      have e : i * m.letters.toNat + j = q' := by rw [HLT.out]; exact HQ'.out.symm
                      rw [e]
                      simp [hcq]
                    clear hcc
                    generalize cp[q'] = cb at *
                    cases cb with
                    | true =>
                      obtain ⟨v, hv⟩ : ∃ v, v = A.rnTo N b (x + N) := ⟨_, rfl⟩
                      have hrv : Int.tmod ((x : Int) + (N : Int) + (b : Int)) (M : Int) = (v : Int) := by
                        rw [hv, ← hMI]
                        have := rem_to (n := N) (b := b) (i := x + N)
                        rwa [Int.natCast_add] at this
                      have hxx : 0 ≤ (x : Int) + (N : Int) := by omega
                      have HVV := Lib.hid hv
                      clear hv
                      have HV : Hid (A.rnV m b cp i j = (v : Int)) := show _ = _ by
                        rw [HVV.out]
                        refine HXV.out (x + N) ?_ (by have := HMN.out; omega)
                        unfold A.rnS
                        rw [HEX.out, if_pos hx, HCB.out, if_pos rfl, ← HN.out]
                        omega
                      have FS : Frm (fun x => x = gr) wr (wr.setCell ⟨gr, j, none⟩ (.int .i64 (v : Int))) := Frm.one gr j _
                      have HG5 : Hid (Blk (wr.setCell ⟨gr, j, none⟩ (.int .i64 (v : Int))) gr 3 (intCs (A.rnPart m b cp i L (j + 1)))) := show Blk _ _ _ _ by
                        have h := HG.out.set_ j (.int .i64 (v : Int))
                        rwa [intCs_set, ← HV.out, A.rnPart_set hlj, HV.out] at h
                      have HR5 := Lib.hid (FS.blk HR.out hgr1)
                      have HE5 := Lib.hid (FS.blk HE.out hgr2)
                      have HO5 := Lib.hid (FS.blk HO.out hgr3)
                      have HD5 : Hid (Frm (fun x => x = gN ∨ x = gE ∨ n2 ≤ x) wo (wr.setCell ⟨gr, j, none⟩ (.int .i64 (v : Int)))) := HD.out.trans (FS.mono fun x _ e => .inr (.inr (by rw [e]; exact HGR.out)))
                      have HF5 : Hid (Frm (fun x => n1 ≤ x) W0 (wr.setCell ⟨gr, j, none⟩ (.int .i64 (v : Int)))) := HF.out.trans (FS.mono fun x _ e => by have := HGR.out; have := HGN2.out; omega)
                      have HQ5 : Hid (q' + 1 = i * L + (j + 1)) := show _ = _ by have := HQ'.out; omega
                      clear FS HG HR HE HO HD HF HQ' HV
                      go_wp2_with fail
                      go_quiet (fail)
                      go_wp2_with fail
                      go_roundg (L + 1 - (j + 1))
                      case measure => omega
                      case rel => exact ⟨j + 1, q' + 1, by omega, by omega, rfl, HQ5, by go_num, by go_num, HR5, HE5, HG5, HO5, HD5, HF5⟩
                    | false =>
                      obtain ⟨v, hv⟩ : ∃ v, v = A.rnTo N b x := ⟨_, rfl⟩
                      have hrv : Int.tmod ((x : Int) + (b : Int)) (M : Int) = (v : Int) := by
                        rw [hv, ← hMI]
                        exact rem_to
                      have HVV := Lib.hid hv
                      clear hv
                      have HV : Hid (A.rnV m b cp i j = (v : Int)) := show _ = _ by
                        rw [HVV.out]
                        refine HXV.out x ?_ (by have := HMN.out; omega)
                        unfold A.rnS
                        rw [HEX.out, if_pos hx, HCB.out, if_neg (by decide)]
                      have FS : Frm (fun x => x = gr) wr (wr.setCell ⟨gr, j, none⟩ (.int .i64 (v : Int))) := Frm.one gr j _
                      have HG5 : Hid (Blk (wr.setCell ⟨gr, j, none⟩ (.int .i64 (v : Int))) gr 3 (intCs (A.rnPart m b cp i L (j + 1)))) := show Blk _ _ _ _ by
                        have h := HG.out.set_ j (.int .i64 (v : Int))
                        rwa [intCs_set, ← HV.out, A.rnPart_set hlj, HV.out] at h
                      have HR5 := Lib.hid (FS.blk HR.out hgr1)
                      have HE5 := Lib.hid (FS.blk HE.out hgr2)
                      have HO5 := Lib.hid (FS.blk HO.out hgr3)
                      have HD5 : Hid (Frm (fun x => x = gN ∨ x = gE ∨ n2 ≤ x) wo (wr.setCell ⟨gr, j, none⟩ (.int .i64 (v : Int)))) := HD.out.trans (FS.mono fun x _ e => .inr (.inr (by rw [e]; exact HGR.out)))
                      have HF5 : Hid (Frm (fun x => n1 ≤ x) W0 (wr.setCell ⟨gr, j, none⟩ (.int .i64 (v : Int)))) := HF.out.trans (FS.mono fun x _ e => by have := HGR.out; have := HGN2.out; omega)
                      have HQ5 : Hid (q' + 1 = i * L + (j + 1)) := show _ = _ by have := HQ'.out; omega
                      clear FS HG HR HE HO HD HF HQ' HV
                      go_wp2_with fail
                      go_quiet (fail)
                      go_wp2_with fail
                      go_roundg (L + 1 - (j + 1))
                      case measure => omega
                      case rel => exact ⟨j + 1, q' + 1, by omega, by omega, rfl, HQ5, by go_num, by go_num, HR5, HE5, HG5, HO5, HD5, HF5⟩
                  · have hcq' : ¬ (q' : Int) < (cp.length : Int) := by omega
                    have HCB : Hid (cp.getD (i * m.letters.toNat + j) false = false) := show _ = _ by
                      have e : i * m.letters.toNat + j = q' := by rw [HLT.out]; exact HQ'.out.symm
                      rw [e]
                      have : cp.length ≤ q' := by omega
                      simp [this]
                    obtain ⟨v, hv⟩ : ∃ v, v = A.rnTo N b x := ⟨_, rfl⟩
                    have hrv : Int.tmod ((x : Int) + (b : Int)) (M : Int) = (v : Int) := by
                      rw [hv, ← hMI]
                      exact rem_to
                    have HVV := Lib.hid hv
                    clear hv
                    have HV : Hid (A.rnV m b cp i j = (v : Int)) := show _ = _ by
                      rw [HVV.out]
                      refine HXV.out x ?_ (by have := HMN.out; omega)
                      unfold A.rnS
                      rw [HEX.out, if_pos hx, HCB.out, if_neg (by decide)]
                    have FS : Frm (fun x => x = gr) wr (wr.setCell ⟨gr, j, none⟩ (.int .i64 (v : Int))) := Frm.one gr j _
                    have HG5 : Hid (Blk (wr.setCell ⟨gr, j, none⟩ (.int .i64 (v : Int))) gr 3 (intCs (A.rnPart m b cp i L (j + 1)))) := show Blk _ _ _ _ by
                      have h := HG.out.set_ j (.int .i64 (v : Int))
                      rwa [intCs_set, ← HV.out, A.rnPart_set hlj, HV.out] at h
                    have HR5 := Lib.hid (FS.blk HR.out hgr1)
                    have HE5 := Lib.hid (FS.blk HE.out hgr2)
                    have HO5 := Lib.hid (FS.blk HO.out hgr3)
                    have HD5 : Hid (Frm (fun x => x = gN ∨ x = gE ∨ n2 ≤ x) wo (wr.setCell ⟨gr, j, none⟩ (.int .i64 (v : Int)))) := HD.out.trans (FS.mono fun x _ e => .inr (.inr (by rw [e]; exact HGR.out)))
                    have HF5 : Hid (Frm (fun x => n1 ≤ x) W0 (wr.setCell ⟨gr, j, none⟩ (.int .i64 (v : Int)))) := HF.out.trans (FS.mono fun x _ e => by have := HGR.out; have := HGN2.out; omega)
                    have HQ5 : Hid (q' + 1 = i * L + (j + 1)) := show _ = _ by have := HQ'.out; omega
                    clear FS HG HR HE HO HD HF HQ' HV
                    go_wp2_with fail
                    go_quiet (fail)
                    go_wp2_with fail
                    go_roundg (L + 1 - (j + 1))
                    case measure => omega
                    case rel => exact ⟨j + 1, q' + 1, by omega, by omega, rfl, HQ5, by go_num, by go_num, HR5, HE5, HG5, HO5, HD5, HF5⟩
                · have hlj' : ¬ (j : Int) < (L : Int) := by omega
                  obtain rfl : L = j := by omega
                  have HNX := Lib.hid (HRN.out.next (gr := gr) (w' := wr) (by rw [← HT.out]; exact htM) (fun s hs e => by
                    have := A.rnTo_inj (by have := HN0.out; omega) (by have := HMN.out; omega) (by have := HMN.out; omega) e
                    omega) (HD.out.mono fun x _ e => by rw [← HN2.out]; exact e) (by rw [← HT.out]; exact HR.out) (by rw [← HT.out, ← HEE.out]; exact HE.out) (by have := HGR.out; have := HGN2.out; omega) (by rw [← A.rnPart_all HL.out]; exact HG.out))
                  have hq5 : q' ≤ 480 := by
                    have h1 := HQ'.out
                    have : (i + 1) * L ≤ 60 * 8 := Nat.mul_le_mul (by omega) hL8
                    rw [Nat.succ_mul] at this
                    omega
                  have HQ5 : Hid (q' = (i + 1) * L) := show _ = _ by rw [HQ'.out, Nat.succ_mul]
                  clear HR HE HG HD HQ'
                  go_wp2_with fail
                  go_roundg (M + 1 - (i + 1))
                  case measure => omega
                  case rel => exact ⟨i + 1, q', _, _, by omega, hq5, rfl, HQ5, rfl, by go_num, HNX, HO, HF⟩
        · have hlt' : ¬ (i : Int) < (M : Int) := by omega
          obtain rfl : M = i := by omega
          have hs0 := HFI.out.start
          obtain ⟨s1, s2⟩ := hs0
          obtain ⟨st, hst⟩ : ∃ st : Nat, m.start = (st : Int) := ⟨m.start.toNat, by
            have h1 := HFI.out.none
            have h2 := HN.out
            have h3 := HN0.out
            have : ¬ m.start = -1 := fun e => by have := h1 e; omega
            omega⟩
          obtain ⟨v, hv⟩ : ∃ v, v = A.rnTo N b st := ⟨_, rfl⟩
          have hrv : Int.tmod ((st : Int) + (b : Int)) (M : Int) = (v : Int) := by
            rw [hv, ← hMI]
            exact rem_to
          have x1 := (HXB.out HF.out).cell 1
          have hstN : st < 30 := by have := HN.out; omega
          have hN1 : ¬ N = 0 := HN0.out
          have HST := Lib.hid hst
          have HV := Lib.hid hv
          rw [hst] at x1
          clear hst hv s1 s2
          have o1 := HOB.out.cell 1
          have r1 := HOB.out.frozen 1
          obtain ⟨W6, hW6⟩ : ∃ W6, W6 = wr.setCell ⟨ob, 1, none⟩ (.int .i64 (v : Int)) := ⟨_, rfl⟩
          have FS : Frm (fun x => x = ob) wr W6 := by rw [hW6]; exact Frm.one ob 1 _
          have HO6 : Hid (Blk W6 ob 25 #[.int .i64 (L : Int), .int .i64 (v : Int), .slice (some ⟨gN, 0, none⟩) M M, .slice (some ⟨gE, 0, none⟩) M M]) := by rw [hW6]; exact HOB.out.set_ 1 _
          have hnob : w.heap.size + 1 ≠ ob := by have := HNN.out.2.2; have := HSZ.out; omega
          have HZ6 : Hid (Blk W6 (w.heap.size + 1) 25 zeroM) := FS.blk (HF.out.blk HZ0.out (by have := HSZ.out; omega)) hnob
          have HR6 : Hid (RnAt W6 n1 gN gE L M (A.rnTo N b) (A.rnRow m b cp) (fun s => m.fin.getD (s % N) false) M rows es) := by
            obtain ⟨k1, k2, k3, k4, k5⟩ := HRN.out
            have key : ∀ {g : Nat} {t : TypeId} {cs : Array Value}, Blk wr g t cs → t ≠ 25 → Blk W6 g t cs := fun {g t cs} hb ht => FS.blk hb fun e => by
              subst e
              exact ht (blk_type hb HOB.out)
            exact ⟨key k1 (by decide), key k2 (by decide), k3, k4, fun s hs => by
              obtain ⟨g, g1, g2, g3, g4⟩ := k5 s hs
              exact ⟨g, g1, g2, key g3 (by decide), g4⟩⟩
          have HF6 : Hid (Frm (fun _ => False) w W6) := HFX.out (HF.out.trans (FS.mono fun x _ e => by have := HNN.out.2.2; omega))
          have o0' := HO6.out.cell 0
          have o1' := HO6.out.cell 1
          have o2' := HO6.out.cell 2
          have o3' := HO6.out.cell 3
          have z0 := HZ6.out.cell 0
          have z1 := HZ6.out.cell 1
          have z2 := HZ6.out.cell 2
          have z3 := HZ6.out.cell 3
          have q0 := HZ6.out.frozen 0
          have q1 := HZ6.out.frozen 1
          have q2 := HZ6.out.frozen 2
          have q3 := HZ6.out.frozen 3
          simp only [zeroM] at z0 z1 z2 z3
          rw [hW6] at o0' o1' o2' o3' z0 z1 z2 z3 q0 q1 q2 q3
          clear HRN HOB HF FS
          go_wp2_with fail
          rw [← hW6]
          clear o0' o1' o2' o3' z0 z1 z2 z3 q0 q1 q2 q3 o1 r1 hW6
          have hmach := RnAt.mach HN.out HN0.out HMN.out HL.out HST.out HR6.out HNN.out.1 HNN.out.2.1
          rw [← HV.out] at hmach
          have h5 := put4_frm1 (w := W6) (b := w.heap.size + 1) (l := .int .i64 (L : Int)) (s := .int .i64 (v : Int)) (n := .slice (some ⟨gN, 0, none⟩) M M) (e := .slice (some ⟨gE, 0, none⟩) M M)
          refine bodyPost_ret (w := put4 W6 (w.heap.size + 1) (.int .i64 (L : Int)) (.int .i64 (v : Int)) (.slice (some ⟨gN, 0, none⟩) M M) (.slice (some ⟨gE, 0, none⟩) M M)) (v := .agg #[.int .i64 (L : Int), .int .i64 (v : Int), .slice (some ⟨gN, 0, none⟩) M M, .slice (some ⟨gE, 0, none⟩) M M]) ?_ rfl ⟨_, rfl, (hmach.keep h5 fun x hx e => by have := HSZ.out; omega).mono fun x hx => by have := HSZ.out; omega, put4_frm HF6.out (by omega)⟩
          have h4 := put4_blk (l := .int .i64 (L : Int)) (s := .int .i64 (v : Int)) (n := .slice (some ⟨gN, 0, none⟩) M M) (e := .slice (some ⟨gE, 0, none⟩) M M) HZ6.out
          clear h5 hmach
          generalize put4 W6 (w.heap.size + 1) (.int .i64 (L : Int)) (.int .i64 (v : Int)) (.slice (some ⟨gN, 0, none⟩) M M) (.slice (some ⟨gE, 0, none⟩) M M) = w4 at *
          have y0 := h4.cell 0
          have y1 := h4.cell 1
          have y2 := h4.cell 2
          have y3 := h4.cell 3
          simp [results, Try.results12, go_sem, y0, y1, y2, y3]
end Go.Proofs.Ytmoniecknimmdaa
end
section
namespace Go.Proofs.Ytmoniecknimmdaa
open Go.RowKit Go.Shelf
open Go.Sort (flatK putCells onCells mapBlock)
set_option maxHeartbeats 1000000 in
theorem sortP_all {w : World} {base g cap : Nat} {zs : List DP} (ho : w.ownsRow base 50 2 (.slice (some ⟨g, 0, none⟩) zs.length cap) zs.length (zs.flatMap encP)) (h4 : zs.length ≤ 100000) :
    Calls Try.prog 31 #[.slice (some ⟨g, 0, none⟩) zs.length cap, .func (.func 32) #[] #[]] w fun e w' => e = .returned (.tuple #[]) ∧ ∃ zs' : List DP, zs'.Perm zs ∧ zs'.Pairwise (fun x y => ltOf cfP y x = false) ∧ w'.ownsRow base 50 2 (.slice (some ⟨g, 0, none⟩) zs.length cap) zs.length (zs'.flatMap encP) ∧ Frm (· = g) w w' := by
  have eg : ∀ args w, (callFunc 32 args).run Try.prog w = .ok (.enter 32 args) w := enters_of Try.func32 (by kernel_rfl) rfl
  have hc := @World.ownsRow.cells _ _ _ _ _ _ _ ho g rfl
  have hH : Sort.HoldsK encP 2 w g 0 zs.toArray := fun j hj => by
    have hj' : j < zs.length * 2 := by simpa using hj
    refine ⟨?_, by rw [Nat.zero_add]; exact ho.frozenAt j⟩
    have := hc j _ (flatP_at zs j hj')
    rw [add_zero_off] at this
    rw [Nat.zero_add, this]
    simp only [id]
    rw [Sort.get_flatK _ _ _ _ (by simpa using hj')]
    simp
  have hblk : g < w.heap.size := (ho.lt g rfl).2
  have hcon := AnyQ.slices_SortFunc Try.sortPair 2 (fun w => by kernel_rfl) (fun w => by kernel_rfl) encP (fun _ => rfl) (fun x v hv => by simp [encP, pairC] at hv; rcases hv with rfl | rfl <;> rfl) cfP swoP 32 #[] g 0 cap zs.toArray w eg (fun _ _ _ _ x y => cmpP_any x y _) hH hblk (by simp; omega)
  refine Calls.mono (show Calls Try.prog 31 #[.slice (some ⟨g, 0, none⟩) zs.length cap, .func (.func 32) #[] #[]] w _ from hcon) ?_
  rintro e w' ⟨rfl, d', n, os, hp, hs, rfl⟩
  obtain ⟨hsz, -, hperm⟩ := hp
  have hsz' : d'.size = zs.length := by simpa using hsz
  have hz0 : (zs.toArray.size) = zs.length := by simp
  have hperm' : d'.toList.Perm zs := by
    have e1 : (d'.extract 0 zs.toArray.size).toList = d'.toList := by rw [hz0, ← hsz']; simp
    have e2 : (zs.toArray.extract 0 zs.toArray.size).toList = zs := by simp
    rw [e1, e2] at hperm
    exact hperm
  have hF : Frm (· = g) w (sortWorldK encP 2 w g 0 n d' os) := sortP_frm
  rcases ho.2 with ⟨hv, _⟩ | ⟨g', cap', cur, hv, h1, hg, h3, h4', h5, h6⟩
  · cases hv
  injection hv with hv1 _ hv2
  injection hv1 with hv1
  injection hv1 with hv1
  subst hv1 hv2
  have hcur : d'.size * 2 ≤ cur.size := by
    have := congrArg List.length h6
    rw [List.length_take, flatP_len] at this
    simp at this
    omega
  refine ⟨rfl, d'.toList, hperm', ?_, ⟨by rw [flatP_len]; simp [hsz'], .inr ⟨g, cap, _, rfl, h1, sortP_block hg, h3, h4', by simp [putCells]; omega, ?_⟩⟩, hF⟩
  · rw [List.pairwise_iff_getElem]
    intro i j hi hj hij
    simp only [Array.length_toList] at hi hj
    have h1 := hs i j (Nat.zero_le _) hij (by omega)
    rw [getElem!_pos d' i hi, getElem!_pos d' j hj] at h1
    simpa using h1
  · have := putP_take hcur
    rw [hsz'] at this
    simpa using this
end Go.Proofs.Ytmoniecknimmdaa
end
section
namespace Go.Proofs.Ytmoniecknimmdaa
open Go.RowKit Go.Shelf
set_option maxRecDepth 100000 in
set_option maxHeartbeats 8000000 in
theorem relate_same {w : World} {P Q : Nat → Prop} {v v' : Value} {a b : A.Mac} {f : Nat} {zs : List DP} {rows : List (List Int)} (h : MachAt w P v a) (h' : MachAt w Q v' b) (hs : Sized a) (hs' : Sized b) (hfit : A.fit a b = 0) (ht : A.Two a b) (he : A.diffO f a b = some none) (hf : f ≤ 100000) (hst : (a.start, b.start) ≠ (-1, -1)) (hsr : A.searchO (A.nxtP a b) f (a.start, b.start) (-1, -1) a.letters.toNat 20000 = some (zs.map (·.1), rows)) (hz : zs.length ≤ 100000) (hz0 : 0 < zs.length) :
    Calls Try.prog 14 #[v, v'] w fun e w' => ∃ u, ∃ zs' : List DP, e = .returned (.tuple #[u, .int .i64 0]) ∧ zs'.Perm zs ∧ zs'.Pairwise (fun x y => ltOf cfP y x = false) ∧ w'.ownsRow w.heap.size 50 2 u zs.length (zs'.flatMap encP) ∧ Frm (fun _ => False) w w' := by
  obtain ⟨A1, c1, A2, c2, rfl⟩ := h.form
  obtain ⟨B1, d1, B2, d2, rfl⟩ := h'.form
  have HB0 : Hid (Bx w _ (macC a A1 c1 A2 c2) (macC b B1 d1 B2 d2)) := Bx.new w _ _
  have HM := Lib.hid h
  have HM' := Lib.hid h'
  have HSZ := Lib.hid hs
  have HSZ' := Lib.hid hs'
  have HE := Lib.hid he
  have HT := Lib.hid ht
  have HFIT := Lib.hid hfit
  have HST := Lib.hid hst
  have HSR := Lib.hid hsr
  have HZ := Lib.hid hz
  have HZ0 := Lib.hid hz0
  have e0 := HB0.out.ba.cell 0
  have e1 := HB0.out.ba.cell 1
  have e2 := HB0.out.ba.cell 2
  have e3 := HB0.out.ba.cell 3
  have g0 := HB0.out.bb.cell 0
  have g1 := HB0.out.bb.cell 1
  have g2 := HB0.out.bb.cell 2
  have g3 := HB0.out.bb.cell 3
  simp only [macC] at e0 e1 e2 e3 g0 g1 g2 g3
  clear h h' hs hs' he ht hfit hst hsr hz hz0
  go_enter Try.func14, Try.ntmps14
  go_wp2_with fail
  refine (fit_any (HM.out.keep0 HB0.out.fr) (HM'.out.keep0 HB0.out.fr) HSZ.out HSZ'.out).mono ?_
  rintro _ w1 ⟨rfl, f1⟩
  have HB1 := Lib.hid (HB0.out.call f1)
  rw [HFIT.out]
  clear e0 e1 e2 e3 g0 g1 g2 g3 f1 HB0
  have e0 := HB1.out.ba.cell 0
  have e1 := HB1.out.ba.cell 1
  have e2 := HB1.out.ba.cell 2
  have e3 := HB1.out.ba.cell 3
  have g0 := HB1.out.bb.cell 0
  have g1 := HB1.out.bb.cell 1
  have g2 := HB1.out.bb.cell 2
  have g3 := HB1.out.bb.cell 3
  simp only [macC] at e0 e1 e2 e3 g0 g1 g2 g3
  go_wp2_with fail
  refine (diff_any (HM.out.keep0 HB1.out.fr) (HM'.out.keep0 HB1.out.fr) HT.out HE.out hf).mono ?_
  rintro _ w2 ⟨rfl, f2⟩
  have HB2 := Lib.hid (HB1.out.call f2)
  clear e0 e1 e2 e3 g0 g1 g2 g3 f2 HB1
  have HB3 := Lib.hid (HB2.out.call ((Frm.refl _ w2).alloc (.cells #[.int .i64 0, .int .i64 0] 50)))
  have e0 := HB3.out.ba.cell 0
  have e1 := HB3.out.ba.cell 1
  have e2 := HB3.out.ba.cell 2
  have e3 := HB3.out.ba.cell 3
  have g0 := HB3.out.bb.cell 0
  have g1 := HB3.out.bb.cell 1
  have g2 := HB3.out.bb.cell 2
  have g3 := HB3.out.bb.cell 3
  simp only [macC] at e0 e1 e2 e3 g0 g1 g2 g3
  simp only [pairV]
  go_wp2_with fail
  refine (starts_any (HM.out.keep0 HB3.out.fr) (HM'.out.keep0 HB3.out.fr)).mono ?_
  rintro _ w3 ⟨rfl, f3⟩
  have HB4 := Lib.hid (HB3.out.call f3)
  clear e0 e1 e2 e3 g0 g1 g2 g3 f3 HB2 HB3
  simp only [pairV]
  go_wp2_with fail
  refine (nowhere_any w3).mono ?_
  rintro _ w4 ⟨rfl, f4⟩
  have HB5 := Lib.hid (HB4.out.call f4)
  clear f4 HB4
  have e0 := HB5.out.ba.cell 0
  have e1 := HB5.out.ba.cell 1
  have e2 := HB5.out.ba.cell 2
  have e3 := HB5.out.ba.cell 3
  have g0 := HB5.out.bb.cell 0
  have g1 := HB5.out.bb.cell 1
  have g2 := HB5.out.bb.cell 2
  have g3 := HB5.out.bb.cell 3
  simp only [macC] at e0 e1 e2 e3 g0 g1 g2 g3
  simp only [pairV]
  go_wp2_with fail
  · exact absurd (Prod.ext ‹a.start = -1› ‹b.start = -1›) HST.out
  all_goals
    try clear ‹a.start = -1›
    try clear ‹¬b.start = -1›
    try clear ‹¬a.start = -1›
    obtain ⟨L, hL⟩ : ∃ L : Nat, a.letters = (L : Int) := ⟨a.letters.toNat, by have := HT.out.fa.letters; omega⟩
    have HL := Lib.hid hL
    have HINS : Hid (A.InP a b (a.start, b.start)) := ⟨HT.out.fa.start, HT.out.fb.start⟩
    have HOK1 : Hid (okP (a.start, b.start)) := okP_small (BPr.of_in HT.out HINS.out)
    have HOK2 : Hid (okP (-1, -1)) := okP_small (by unfold BPr; decide)
    have HSR2 : Hid (A.searchO (A.nxtP a b) f (a.start, b.start) (-1, -1) L 20000 = some (zs.map (·.1), rows)) := by
      have := HSR.out
      rw [hL, Int.toNat_natCast] at this
      exact this
    have HLL : Hid (L ≤ 300) := show _ ≤ _ by have := HT.out.la; omega
    have HNX : Hid (∀ W', Frm (fun _ => False) w4 W' → ∀ (x : A.Pr) (k : Int) (y : A.Pr) (W : World), A.nxtP a b x k = some y → Frm (fun _ => False) W' W → okP y ∧ Calls Try.prog 29 #[pairV x, .int .i64 k, .pointer (some ⟨w.heap.size, 0, none⟩), .pointer (some ⟨w.heap.size + 1, 0, none⟩)] W fun e w' => e = .returned (pairV y) ∧ Frm (fun _ => False) W w') := fun W' hW' x k y W hy hW => by
      have hF := hW'.trans hW
      have hB := HB5.out.call hF
      unfold A.nxtP at hy
      split at hy
      case isFalse => cases hy
      rename_i hin
      injection hy with hy
      subst hy
      have hI : A.InP a b x := ⟨⟨hin.1, hin.2.1⟩, hin.2.2.1, hin.2.2.2.1⟩
      exact ⟨okP_small (BPr.of_in HT.out (leadP_in HT.out hI hin.2.2.2.2.1 hin.2.2.2.2.2)), relate1_any hB.ba hB.bb (HM.out.keep0 hB.fr) (HM'.out.keep0 hB.fr) HT.out x k hI hin.2.2.2.2.1 hin.2.2.2.2.2⟩
    have e0' : w4.cell? ⟨w.heap.size, 0, none⟩ = some (.int .i64 (L : Int)) := by rw [e0, ← hL]; rfl
    have e1' : w4.cell? ⟨w.heap.size, 1, none⟩ = some (.int .i64 a.start) := e1
    have e2' : w4.cell? ⟨w.heap.size, 2, none⟩ = some (.slice A1 a.next.length c1) := e2
    have e3' : w4.cell? ⟨w.heap.size, 3, none⟩ = some (.slice A2 a.fin.length c2) := e3
    have g0' : w4.cell? ⟨w.heap.size + 1, 0, none⟩ = some (.int .i64 b.letters) := g0
    have g1' : w4.cell? ⟨w.heap.size + 1, 1, none⟩ = some (.int .i64 b.start) := g1
    have g2' : w4.cell? ⟨w.heap.size + 1, 2, none⟩ = some (.slice B1 b.next.length d1) := g2
    have g3' : w4.cell? ⟨w.heap.size + 1, 3, none⟩ = some (.slice B2 b.fin.length d2) := g3
    have HSTA : Hid (∀ W, Frm (fun _ => False) w4 W → Calls Try.prog 26 #[.agg #[.int .i64 (L : Int), .int .i64 a.start, .slice A1 a.next.length c1, .slice A2 a.fin.length c2], .agg #[.int .i64 b.letters, .int .i64 b.start, .slice B1 b.next.length d1, .slice B2 b.fin.length d2]] W fun e w' => e = .returned (pairV (a.start, b.start)) ∧ Frm (fun _ => False) W w') := fun W hW => by
      rw [← hL]
      exact starts_any (HM.out.keep0 (HB5.out.fr.trans hW)) (HM'.out.keep0 (HB5.out.fr.trans hW))
    have HKK : Hid (∀ W, Frm (fun _ => False) w4 W → _) := fun W hW => (⟨hW.cell id e0', hW.cell id e1', hW.cell id e2', hW.cell id e3', hW.cell id g0', hW.cell id g1', hW.cell id g2', hW.cell id g3', hW⟩ : W.cell? ⟨w.heap.size, 0, none⟩ = some (.int .i64 (L : Int)) ∧ W.cell? ⟨w.heap.size, 1, none⟩ = some (.int .i64 a.start) ∧ W.cell? ⟨w.heap.size, 2, none⟩ = some (.slice A1 a.next.length c1) ∧ W.cell? ⟨w.heap.size, 3, none⟩ = some (.slice A2 a.fin.length c2) ∧ W.cell? ⟨w.heap.size + 1, 0, none⟩ = some (.int .i64 b.letters) ∧ W.cell? ⟨w.heap.size + 1, 1, none⟩ = some (.int .i64 b.start) ∧ W.cell? ⟨w.heap.size + 1, 2, none⟩ = some (.slice B1 b.next.length d1) ∧ W.cell? ⟨w.heap.size + 1, 3, none⟩ = some (.slice B2 b.fin.length d2) ∧ Frm (fun _ => False) w4 W)
    clear e0 e1 e2 e3 g0 g1 g2 g3 hL
    go_region_held3 (fun w' => w'.cell? ⟨w.heap.size, 0, none⟩ = some (.int .i64 (L : Int)) ∧ w'.cell? ⟨w.heap.size, 1, none⟩ = some (.int .i64 a.start) ∧ w'.cell? ⟨w.heap.size, 2, none⟩ = some (.slice A1 a.next.length c1) ∧ w'.cell? ⟨w.heap.size, 3, none⟩ = some (.slice A2 a.fin.length c2) ∧ w'.cell? ⟨w.heap.size + 1, 0, none⟩ = some (.int .i64 b.letters) ∧ w'.cell? ⟨w.heap.size + 1, 1, none⟩ = some (.int .i64 b.start) ∧ w'.cell? ⟨w.heap.size + 1, 2, none⟩ = some (.slice B1 b.next.length d1) ∧ w'.cell? ⟨w.heap.size + 1, 3, none⟩ = some (.slice B2 b.fin.length d2) ∧ Frm (fun _ => False) w4 w')
      (first | exact HKK.out _ (Frm.refl _ _) | exact HKK.out _ (Frm.refl _ _).drew | exact HKK.out _ (Frm.trans (E := fun _ => False) (w := w4) (Frm.trans (E := fun _ => False) (w := w4) f5 f6) f7) | exact HKK.out _ (Frm.trans (E := fun _ => False) (w := w4) f5 f6) | exact HKK.out _ f5)
      (first | (go_at_call 26; obtain ⟨-, -, -, -, -, -, -, -, hFx⟩ := ‹_ ∧ _ ∧ _ ∧ _ ∧ _ ∧ _ ∧ _ ∧ _ ∧ Frm (fun _ => False) w4 _›; refine (HSTA.out _ hFx).mono ?_; clear hFx; rintro e w5 ⟨rfl, f5⟩) | (go_at_call 27; refine (nowhere_any _).mono ?_; rintro e w6 ⟨rfl, f6⟩) | (go_at_call 28; have hFx := Frm.trans (E := fun _ => False) (w := w4) f5 f6; refine (searchP_any (HNX.out _ hFx) HOK1.out HOK2.out HLL.out (by omega) (by omega) HSR2.out).mono ?_; clear hFx; rintro e w7 ⟨uT, uR, rfl, o7, r7, f7⟩))
    all_goals
      have F7 := Frm.trans (E := fun _ => False) (w := w4) (Frm.trans (E := fun _ => False) (w := w4) f5 f6) f7
      have HF7 := Lib.hid (HB5.out.fr.trans F7)
      have hsz : w.heap.size ≤ w6.heap.size := by have := HB5.out.fr.1; have := (Frm.trans (E := fun _ => False) (w := w4) f5 f6).1; omega
      rw [List.length_map, List.flatMap_map] at o7
      have HO7 : Hid (w7.ownsRow w.heap.size 50 2 uT zs.length (zs.flatMap encP)) := own_base_ o7 hsz
      obtain ⟨g, cap, rfl, hg⟩ := own_some HO7.out HZ0.out
      clear o7 r7 f5 f6 f7 F7 hsz HKK HNX HSTA e0' e1' e2' e3' g0' g1' g2' g3'
      clear ‹_ ∧ _ ∧ _ ∧ _ ∧ _ ∧ _ ∧ _ ∧ _ ∧ Frm (fun _ => False) w4 _›
      go_wp2_with fail
      refine (sortP_all HO7.out HZ.out).mono ?_
      rintro _ w8 ⟨rfl, zs', hp, hs, ho, f8⟩
      have HP := Lib.hid hp
      have HS := Lib.hid hs
      have HO8 := Lib.hid ho
      have HF8 : Hid (Frm (fun _ => False) w w8) := Frm.mono (E := fun b => w.heap.size ≤ b) ((HF7.out.mono fun _ _ h => h.elim).trans (f8.mono fun b _ h => by omega)) fun b hb h => by omega
      clear hp hs ho f8
      go_wp2_with fail
      refine bodyPost_ret (v := .tuple #[.slice (some ⟨g, 0, none⟩) zs.length cap, .int .i64 0]) (by simp [results, Try.results14, go_sem]) rfl ?_
      exact ⟨_, zs', rfl, HP.out, HS.out, HO8.out, HF8.out⟩
end Go.Proofs.Ytmoniecknimmdaa
end
section
namespace Go.Proofs.Ytmoniecknimmdaa
open Go.RowKit
set_option maxRecDepth 100000 in
set_option maxHeartbeats 8000000 in
theorem relate_no {w : World} {P Q : Nat → Prop} {v v' : Value} {a b : A.Mac} (h : MachAt w P v a) (h' : MachAt w Q v' b) (hs : Sized a) (hs' : Sized b) (hfit : A.fit a b ≠ 0) :
    Calls Try.prog 14 #[v, v'] w fun e w' => e = .returned (.tuple #[.slice none 0 0, .int .i64 (A.fit a b)]) ∧ Frm (fun _ => False) w w' := by
  obtain ⟨A1, c1, A2, c2, rfl⟩ := h.form
  obtain ⟨B1, d1, B2, d2, rfl⟩ := h'.form
  have HB0 : Hid (Bx w _ (macC a A1 c1 A2 c2) (macC b B1 d1 B2 d2)) := Bx.new w _ _
  have HM := Lib.hid h
  have HM' := Lib.hid h'
  have HSZ := Lib.hid hs
  have HSZ' := Lib.hid hs'
  have HFIT := Lib.hid hfit
  have e0 := HB0.out.ba.cell 0
  have e1 := HB0.out.ba.cell 1
  have e2 := HB0.out.ba.cell 2
  have e3 := HB0.out.ba.cell 3
  have g0 := HB0.out.bb.cell 0
  have g1 := HB0.out.bb.cell 1
  have g2 := HB0.out.bb.cell 2
  have g3 := HB0.out.bb.cell 3
  simp only [macC] at e0 e1 e2 e3 g0 g1 g2 g3
  clear h h' hs hs' hfit
  go_enter Try.func14, Try.ntmps14
  go_wp2_with fail
  refine (fit_any (HM.out.keep0 HB0.out.fr) (HM'.out.keep0 HB0.out.fr) HSZ.out HSZ'.out).mono ?_
  rintro _ w1 ⟨rfl, f1⟩
  have HB1 := Lib.hid (HB0.out.call f1)
  clear e0 e1 e2 e3 g0 g1 g2 g3 f1 HB0
  have hne : (A.fit a b != 0) = true := by have := HFIT.out; simpa using this
  generalize hft : A.fit a b = ft at *
  have HFT := Lib.hid hft
  clear hft
  go_wp2_with fail
  go_ret2
  exact ⟨by rw [HFT.out]; rfl, HB1.out.fr⟩
set_option maxRecDepth 100000 in
set_option maxHeartbeats 8000000 in
theorem relate_apart {w : World} {P Q : Nat → Prop} {v v' : Value} {a b : A.Mac} {f : Nat} {l : List Int} {q : A.Pr} (h : MachAt w P v a) (h' : MachAt w Q v' b) (hs : Sized a) (hs' : Sized b) (hfit : A.fit a b = 0) (ht : A.Two a b) (he : A.diffO f a b = some (some (l, q))) (hf : f ≤ 100000) :
    Calls Try.prog 14 #[v, v'] w fun e w' => e = .returned (.tuple #[.slice none 0 0, .int .i64 8]) ∧ Frm (fun _ => False) w w' := by
  obtain ⟨A1, c1, A2, c2, rfl⟩ := h.form
  obtain ⟨B1, d1, B2, d2, rfl⟩ := h'.form
  have HB0 : Hid (Bx w _ (macC a A1 c1 A2 c2) (macC b B1 d1 B2 d2)) := Bx.new w _ _
  have HM := Lib.hid h
  have HM' := Lib.hid h'
  have HSZ := Lib.hid hs
  have HSZ' := Lib.hid hs'
  have HE := Lib.hid he
  have HT := Lib.hid ht
  have HFIT := Lib.hid hfit
  have e0 := HB0.out.ba.cell 0
  have e1 := HB0.out.ba.cell 1
  have e2 := HB0.out.ba.cell 2
  have e3 := HB0.out.ba.cell 3
  have g0 := HB0.out.bb.cell 0
  have g1 := HB0.out.bb.cell 1
  have g2 := HB0.out.bb.cell 2
  have g3 := HB0.out.bb.cell 3
  simp only [macC] at e0 e1 e2 e3 g0 g1 g2 g3
  clear h h' hs hs' he ht hfit
  go_enter Try.func14, Try.ntmps14
  go_wp2_with fail
  refine (fit_any (HM.out.keep0 HB0.out.fr) (HM'.out.keep0 HB0.out.fr) HSZ.out HSZ'.out).mono ?_
  rintro _ w1 ⟨rfl, f1⟩
  have HB1 := Lib.hid (HB0.out.call f1)
  rw [HFIT.out]
  clear e0 e1 e2 e3 g0 g1 g2 g3 f1 HB0
  have e0 := HB1.out.ba.cell 0
  have e1 := HB1.out.ba.cell 1
  have e2 := HB1.out.ba.cell 2
  have e3 := HB1.out.ba.cell 3
  have g0 := HB1.out.bb.cell 0
  have g1 := HB1.out.bb.cell 1
  have g2 := HB1.out.bb.cell 2
  have g3 := HB1.out.bb.cell 3
  simp only [macC] at e0 e1 e2 e3 g0 g1 g2 g3
  go_wp2_with fail
  refine (diff_any (HM.out.keep0 HB1.out.fr) (HM'.out.keep0 HB1.out.fr) HT.out HE.out hf).mono ?_
  rintro _ w2 ⟨u, rfl, hu, f2⟩
  have HB2 := Lib.hid (HB1.out.call f2)
  clear e0 e1 e2 e3 g0 g1 g2 g3 f2 HB1 hu
  simp only [pairV]
  go_wp2_with fail
  go_ret2
  exact ⟨rfl, HB2.out.fr.alloc _⟩
set_option maxRecDepth 100000 in
set_option maxHeartbeats 8000000 in
theorem relate_nil {w : World} {P Q : Nat → Prop} {v v' : Value} {a b : A.Mac} {f : Nat} (h : MachAt w P v a) (h' : MachAt w Q v' b) (hs : Sized a) (hs' : Sized b) (hfit : A.fit a b = 0) (ht : A.Two a b) (he : A.diffO f a b = some none) (hf : f ≤ 100000) (hst : (a.start, b.start) = (-1, -1)) :
    Calls Try.prog 14 #[v, v'] w fun e w' => e = .returned (.tuple #[.slice none 0 0, .int .i64 0]) ∧ Frm (fun _ => False) w w' := by
  obtain ⟨A1, c1, A2, c2, rfl⟩ := h.form
  obtain ⟨B1, d1, B2, d2, rfl⟩ := h'.form
  have HB0 : Hid (Bx w _ (macC a A1 c1 A2 c2) (macC b B1 d1 B2 d2)) := Bx.new w _ _
  have HM := Lib.hid h
  have HM' := Lib.hid h'
  have HSZ := Lib.hid hs
  have HSZ' := Lib.hid hs'
  have HE := Lib.hid he
  have HT := Lib.hid ht
  have HFIT := Lib.hid hfit
  have HST := Lib.hid hst
  have e0 := HB0.out.ba.cell 0
  have e1 := HB0.out.ba.cell 1
  have e2 := HB0.out.ba.cell 2
  have e3 := HB0.out.ba.cell 3
  have g0 := HB0.out.bb.cell 0
  have g1 := HB0.out.bb.cell 1
  have g2 := HB0.out.bb.cell 2
  have g3 := HB0.out.bb.cell 3
  simp only [macC] at e0 e1 e2 e3 g0 g1 g2 g3
  clear h h' hs hs' he ht hfit hst
  go_enter Try.func14, Try.ntmps14
  go_wp2_with fail
  refine (fit_any (HM.out.keep0 HB0.out.fr) (HM'.out.keep0 HB0.out.fr) HSZ.out HSZ'.out).mono ?_
  rintro _ w1 ⟨rfl, f1⟩
  have HB1 := Lib.hid (HB0.out.call f1)
  rw [HFIT.out]
  clear e0 e1 e2 e3 g0 g1 g2 g3 f1 HB0
  have e0 := HB1.out.ba.cell 0
  have e1 := HB1.out.ba.cell 1
  have e2 := HB1.out.ba.cell 2
  have e3 := HB1.out.ba.cell 3
  have g0 := HB1.out.bb.cell 0
  have g1 := HB1.out.bb.cell 1
  have g2 := HB1.out.bb.cell 2
  have g3 := HB1.out.bb.cell 3
  simp only [macC] at e0 e1 e2 e3 g0 g1 g2 g3
  go_wp2_with fail
  refine (diff_any (HM.out.keep0 HB1.out.fr) (HM'.out.keep0 HB1.out.fr) HT.out HE.out hf).mono ?_
  rintro _ w2 ⟨rfl, f2⟩
  have HB2 := Lib.hid (HB1.out.call f2)
  clear e0 e1 e2 e3 g0 g1 g2 g3 f2 HB1
  have HB3 := Lib.hid (HB2.out.call ((Frm.refl _ w2).alloc (.cells #[.int .i64 0, .int .i64 0] 50)))
  have e0 := HB3.out.ba.cell 0
  have e1 := HB3.out.ba.cell 1
  have e2 := HB3.out.ba.cell 2
  have e3 := HB3.out.ba.cell 3
  have g0 := HB3.out.bb.cell 0
  have g1 := HB3.out.bb.cell 1
  have g2 := HB3.out.bb.cell 2
  have g3 := HB3.out.bb.cell 3
  simp only [macC] at e0 e1 e2 e3 g0 g1 g2 g3
  simp only [pairV]
  go_wp2_with fail
  refine (starts_any (HM.out.keep0 HB3.out.fr) (HM'.out.keep0 HB3.out.fr)).mono ?_
  rintro _ w3 ⟨rfl, f3⟩
  have HB4 := Lib.hid (HB3.out.call f3)
  clear e0 e1 e2 e3 g0 g1 g2 g3 f3 HB2 HB3
  rw [HST.out]
  simp only [pairV]
  go_wp2_with fail
  refine (nowhere_any w3).mono ?_
  rintro _ w4 ⟨rfl, f4⟩
  have HB5 := Lib.hid (HB4.out.call f4)
  clear f4 HB4
  simp only [pairV]
  go_wp2_with fail
  go_ret2
  exact ⟨rfl, HB5.out.fr⟩
end Go.Proofs.Ytmoniecknimmdaa
end
section
namespace Go.Proofs.Ytmoniecknimmdaa
open Go.RowKit
/-- What Relate hands back. -/
def RelPost (w : World) (a b : A.Mac) (e : Ending) (w' : World) : Prop := Frm (fun _ => False) w w' ∧ ∃ u err, e = .returned (.tuple #[u, .int .i64 err]) ∧ (A.fit a b ≠ 0 → err = A.fit a b) ∧ (A.fit a b = 0 → (∃ l, A.Dist a b l) → err = 8) ∧ (A.fit a b = 0 → (¬ ∃ l, A.Dist a b l) → err = 0 ∧ ∃ l, Prs2 w' (fun _ => True) u l ∧ A.check a b l = 0 ∧ l.length ≤ 20000)
theorem relate_all {w : World} {P Q : Nat → Prop} {v v' : Value} {a b : A.Mac} (h : MachAt w P v a) (h' : MachAt w Q v' b) (hs : Sized a) (hs' : Sized b) (hN : A.fit a b = 0 → (1 + a.next.length) * (1 + b.next.length) ≤ 20000) :
    Calls Try.prog 14 #[v, v'] w (RelPost w a b) := by
  by_cases hf : A.fit a b = 0
  case neg => exact (relate_no h h' hs hs' hf).mono fun e w' ⟨he, F⟩ => ⟨F, _, _, he, fun _ => rfl, fun h => absurd h hf, fun h => absurd h hf⟩
  have ht := A.fit_two hf
  have hna := ht.na
  have hnb := ht.nb
  rcases A.diffO_spec ht (f := 20000) (by omega) with ⟨hd, hno⟩ | ⟨l, hd, hl⟩
  case inr => exact (relate_apart h h' hs hs' hf ht hd (by decide)).mono fun e w' ⟨he, F⟩ => ⟨F, _, _, he, fun h => absurd hf h, fun _ _ => rfl, fun _ hn => absurd ⟨l, hl.1⟩ hn⟩
  by_cases hst : (a.start, b.start) = (-1, -1)
  · exact (relate_nil h h' hs hs' hf ht hd (by decide) hst).mono fun e w' ⟨he, F⟩ => ⟨F, _, _, he, fun h => absurd hf h, fun _ hy => absurd hy hno, fun _ _ => ⟨rfl, [], ⟨none, 0, rfl, fun k hk => absurd hk (by simp)⟩, A.check_nil hf hst, by simp⟩⟩
  · obtain ⟨ts, rows, hsr, hF, hin, hcl⟩ := A.search_ok ht (hN hf) hst (f := 20000) (by decide)
    have hB : ∀ z ∈ ts, BPr z := fun z hz => BPr.of_in ht (hF.good z hz).1
    obtain ⟨zs, hzs⟩ : ∃ zs : List DP, zs.map (·.1) = ts := by
      clear hsr hF hin hcl
      induction ts with
      | nil => exact ⟨[], rfl⟩
      | cons z ts ih =>
        obtain ⟨zs, e⟩ := ih fun x hx => hB x (List.mem_cons_of_mem _ hx)
        exact ⟨⟨z, hB z List.mem_cons_self⟩ :: zs, by simp [e]⟩
    have hlen : zs.length = ts.length := by rw [← hzs]; simp
    have hl1 := hF.len
    have hl2 := hN hf
    have hpos : 0 < ts.length := List.length_pos_of_mem hin
    refine (relate_same (zs := zs) (rows := rows) h h' hs hs' hf ht hd (by decide) hst (by rw [hzs]; exact hsr) (by omega) (by omega)).mono fun e w' ⟨u, zs', he, hp, hso, ho, F⟩ => ⟨F, u, 0, he, fun h => absurd hf h, fun _ hy => absurd hy hno, fun _ _ => ⟨rfl, zs'.map (fun z : DP => z.1), ?_, ?_, ?_⟩⟩
    · obtain ⟨g, c, rfl, _⟩ := own_some ho (by omega)
      have hzl : zs'.length = zs.length := hp.length_eq
      rw [← hzl] at ho
      have := own_prs ho rfl (k := zs'.length) (Nat.le_refl _)
      rw [List.take_of_length_le (by simp), hzl] at this
      exact this
    · refine A.check_sorted hf hno hF hin hcl (by rw [← hzs]; exact hp.map _) ?_
      rw [List.pairwise_map]
      exact hso.imp fun {x y} h => by
        have : decide (cfP y x < 0) = false := h
        have h2 := of_decide_eq_false this
        exact h2
    · rw [List.length_map, hp.length_eq]; omega
/-- What Differ hands back, at every two machines. -/
def DifPost (w : World) (a b : A.Mac) (e : Ending) (w' : World) : Prop := Frm (fun _ => False) w w' ∧ ∃ u first err, e = .returned (.tuple #[u, .bool first, .int .i64 err]) ∧ (A.fit a b ≠ 0 → u = .slice none 0 0 ∧ first = false ∧ err = A.fit a b) ∧ (A.fit a b = 0 → (¬ ∃ l, A.Dist a b l) → u = .slice none 0 0 ∧ first = false ∧ err = 7) ∧ (A.fit a b = 0 → ∀ l, A.Least0 a b l → err = 0 ∧ first = A.ends a (A.runP a b (a.start, b.start) l).1 ∧ Ints w' (fun _ => True) u l)
theorem differ_all {w : World} {P Q : Nat → Prop} {v v' : Value} {a b : A.Mac} (h : MachAt w P v a) (h' : MachAt w Q v' b) (hs : Sized a) (hs' : Sized b) :
    Calls Try.prog 13 #[v, v'] w (DifPost w a b) := by
  by_cases hf : A.fit a b = 0
  case neg => exact (differ_any (f := 20000) (r := none) h h' hs hs' (fun h => absurd h hf) (by decide)).mono fun e w' ⟨F, hd⟩ => ⟨F, _, _, _, (by rw [if_neg hf] at hd; exact hd), fun _ => ⟨rfl, rfl, rfl⟩, fun h => absurd h hf, fun h => absurd h hf⟩
  have ht := A.fit_two hf
  have hna := ht.na
  have hnb := ht.nb
  rcases A.diffO_spec ht (f := 20000) (by omega) with ⟨hd, hno⟩ | ⟨l, hd, hl⟩
  · exact (differ_any (f := 20000) (r := none) h h' hs hs' (fun _ => ⟨hd, fun _ _ h => by cases h⟩) (by decide)).mono fun e w' ⟨F, hd⟩ => ⟨F, _, _, _, (by rw [if_pos hf] at hd; exact hd), fun h => absurd hf h, fun _ _ => ⟨rfl, rfl, rfl⟩, fun _ l hl => absurd ⟨l, hl.1⟩ hno⟩
  · refine (differ_any (f := 20000) (r := some (l, A.runP a b (a.start, b.start) l)) h h' hs hs' (fun _ => ⟨hd, fun l' q e => ?_⟩) (by decide)).mono fun e w' ⟨F, hd⟩ => ?_
    · injection e with e
      injection e with e1 e2
      subst e1 e2
      exact ht.run hl.1.1 ⟨ht.fa.start, ht.fb.start⟩
    · rw [if_pos hf] at hd
      obtain ⟨u, he, hu⟩ := hd
      refine ⟨F, u, _, 0, he, fun h => absurd hf h, fun _ hn => absurd ⟨l, hl.1⟩ hn, fun _ l' hl' => ?_⟩
      have := A.least_uniq hl hl'
      subst this
      obtain ⟨A0, c, e1, e2⟩ := hu
      exact ⟨rfl, rfl, A0, c, e1, fun k hk => by obtain ⟨g, o, h1, _, h3⟩ := e2 k hk; exact ⟨g, o, h1, trivial, h3⟩⟩
end Go.Proofs.Ytmoniecknimmdaa
end
section
namespace Go.Proofs.Ytmoniecknimmdaa
open Go.RowKit
namespace A
theorem valid_of {m : Mac} (hf : Fits m) (hl : m.letters ≤ 300) (hn : m.next.length ≤ 4000) : valid m = 0 := by
  unfold valid
  rw [if_pos (fits_iff.2 hf), if_neg (by omega)]
theorem Eqv.nodist {a b : Mac} (hl : a.letters = b.letters) (h : Eqv a b a.start b.start) : ¬ ∃ l, Dist a b l := by
  rintro ⟨l, h1, h2⟩
  have key : ∀ (l : List Int) (x y : Int), OkW a l → from_ a x l = some (runS a x l) ∧ from_ b y l = some (runS b y l) := by
    intro l
    induction l with
    | nil => exact fun x y _ => ⟨rfl, rfl⟩
    | cons k l ih =>
      intro x y hw
      have hk := hw k (List.mem_cons_self ..)
      obtain ⟨g1, g2⟩ := ih (A.lead a x k) (A.lead b y k) fun z hz => hw z (List.mem_cons_of_mem _ hz)
      rw [from_, from_, if_pos hk, if_pos (by rw [← hl]; exact hk)]
      exact ⟨g1, g2⟩
  obtain ⟨g1, g2⟩ := key l a.start b.start h1
  have := h l _ _ g1 g2
  rw [runP_run] at h2
  unfold agree at h2
  dsimp only at h2
  rw [this] at h2
  simp at h2
theorem LeastOf.self {m o : Mac} (h : LeastOf m o) : LeastOf o o := ⟨h.mn, rfl, fun l u v h1 h2 => by rw [h1] at h2; injection h2 with h2; rw [h2], Nat.le_refl _⟩
theorem LeastOf.valid_ {m o : Mac} (hv : valid m = 0) (h : LeastOf m o) : valid o = 0 := by
  obtain ⟨hf, hl, hn⟩ := valid_fits hv
  have := h.le
  exact valid_of h.mn.fits (by rw [h.ll]; exact hl) (by omega)
/-- Least of what is least already. -/
theorem lst_least {m : Mac} (hv : valid m = 0) : lst (leastM m) = (leastM m, 0) := by
  have h := (leastM_is hv).2
  have hv2 := h.valid_ hv
  unfold lst
  rw [if_pos hv2]
  have h2 := (leastM_is hv2).2
  rw [h2.one h.self rfl fun l u v h1 h2 => by rw [h1] at h2; injection h2 with h2; rw [h2]]
theorem lst_valid {m : Mac} (hv : valid m = 0) : lst m = (leastM m, 0) := by
  unfold lst
  rw [if_pos hv]
/-- Least of the machine written anew. -/
theorem lst_renamed {m : Mac} {b : Nat} {cp : List Bool} (hv : valid m = 0) (hn : m.next.length ≤ 30) : valid (renamed m b cp) = 0 ∧ lst (renamed m b cp) = (leastM m, 0) ∧ fit m (renamed m b cp) = 0 ∧ ¬ ∃ l, Dist m (renamed m b cp) l := by
  obtain ⟨hf, hl, _⟩ := valid_fits hv
  have e := renamed_eqv (b := b) (cp := cp) hf
  have hv2 : valid (renamed m b cp) = 0 := valid_of (renamed_fits hf) (by rw [renamed_ll]; exact hl) (by rw [renamed_len]; omega)
  refine ⟨hv2, ?_, ?_, e.nodist renamed_ll.symm⟩
  · rw [lst_valid hv2]
    have := (leastM_is hv2).2.one (leastM_is hv).2 renamed_ll e.symm
    rw [this]
  · unfold fit
    rw [if_pos ⟨hv, hv2⟩, if_pos renamed_ll.symm]
theorem valid_sized {m : Mac} (hv : valid m = 0) : Sized m := by
  obtain ⟨hf, hl, hn⟩ := valid_fits hv
  exact fits_sized hf (by omega) hl
theorem valid_light {m : Mac} (hv : valid m = 0) : m.next.length ≤ 8000 ∧ m.fin.length ≤ 140737488355328 ∧ ∀ row ∈ m.next, row.length * 8 ≤ 140737488355328 := by
  obtain ⟨hf, hl, hn⟩ := valid_fits hv
  have h1 := hf.fin
  refine ⟨by omega, by omega, fun row hr => ?_⟩
  have := (hf.rows row hr).1
  omega
end A
set_option maxRecDepth 100000 in
set_option maxHeartbeats 16000000 in
theorem one_law {w : World} {P Q : Nat → Prop} {va vc : Value} {m : A.Mac} {b : Nat} {cp : List Bool} (ha : MachAt w P va m) (hc : Bools w Q vc cp) (hb : b ≤ 255) (sm : Sized m) :
    Calls Try.prog 4 #[va, .int .u8 (b : Int), vc] w fun e w' => e = .returned (.bool true) ∧ Frm (fun _ => False) w w' := by
  obtain ⟨A1, c1, A2, c2, rfl⟩ := ha.form
  have F0 : Frm (fun _ => False) w (w.alloc (.cells (macC m A1 c1 A2 c2) 25)) := (Frm.refl _ w).alloc _
  have bx := Blk.new w 25 (macC m A1 c1 A2 c2)
  have HB0 := Lib.hid bx
  have HF0 := Lib.hid F0
  have HM := Lib.hid ha
  have HS := Lib.hid sm
  have HC := Lib.hid hc
  clear ha sm F0 hc
  have e0 := bx.cell 0
  have e1 := bx.cell 1
  have e2 := bx.cell 2
  have e3 := bx.cell 3
  simp only [macC] at e0 e1 e2 e3
  clear bx
  go_enter Try.func4, Try.ntmps4
  go_wp2_with fail
  clear e0 e1 e2 e3
  refine (small_any (HM.out.keep0 HF0.out) HS.out).mono ?_
  rintro _ w1 ⟨rfl, f1⟩
  have HF1 := Lib.hid (HF0.out.trans f1)
  have HB1 := Lib.hid (f1.blk HB0.out id)
  clear f1 HF0 HB0
  cases hsm : A.small m with
  | false =>
    clear hsm
    go_wp2_with fail
    refine (awake_any _).mono ?_
    rintro _ w2 ⟨rfl, f2⟩
    have HF2 := Lib.hid (HF1.out.trans f2)
    clear f2 HF1
    go_wp2_with fail
    go_ret
    exact ⟨rfl, HF2.out⟩
  | true =>
    have hlen : m.next.length ≤ 30 ∧ m.letters ≤ 8 := by
      unfold A.small at hsm
      simp at hsm
      omega
    have HLEN := Lib.hid hlen
    clear hsm hlen
    have e0 := HB1.out.cell 0
    have e1 := HB1.out.cell 1
    have e2 := HB1.out.cell 2
    have e3 := HB1.out.cell 3
    simp only [macC] at e0 e1 e2 e3
    go_wp2_with fail
    clear e0 e1 e2 e3
    refine (rvalid_any (HM.out.keep0 HF1.out) HS.out).mono ?_
    rintro _ w2 ⟨rfl, f2⟩
    have HF2 := Lib.hid (HF1.out.trans f2)
    have HB2 := Lib.hid (f2.blk HB1.out id)
    clear f2 HF1 HB1
    by_cases hv : A.valid m = 0
    case neg =>
      have hv' : (A.valid m != 0) = true := by rw [bne_iff_ne]; exact hv
      clear hv
      go_wp2_with fail
      refine (awake_any _).mono ?_
      rintro _ w3 ⟨rfl, f3⟩
      have HF3 := Lib.hid (HF2.out.trans f3)
      clear f3 HF2
      go_wp2_with fail
      go_ret
      exact ⟨rfl, HF3.out⟩
    have HV := Lib.hid hv
    rw [hv]
    clear hv
    have e0 := HB2.out.cell 0
    have e1 := HB2.out.cell 1
    have e2 := HB2.out.cell 2
    have e3 := HB2.out.cell 3
    simp only [macC] at e0 e1 e2 e3
    go_wp2_with fail
    clear e0 e1 e2 e3
    refine (renamed_any (HM.out.keep0 HF2.out) (A.valid_fits HV.out).1 HLEN.out.1 HLEN.out.2 (HC.out.keep HF2.out fun _ _ => id) hb).mono ?_
    rintro _ w3 ⟨r3, rfl, m3, f3⟩
    obtain ⟨hv2, hl2, hfit, hnd⟩ := A.lst_renamed (b := b) (cp := cp) HV.out HLEN.out.1
    have hrl := A.renamed_len (m := m) (b := b) (cp := cp)
    obtain ⟨o2, ho2⟩ : ∃ o2, o2 = A.renamed m b cp := ⟨_, rfl⟩
    rw [← ho2] at hv2 hl2 hfit hnd hrl m3
    have HV2 := Lib.hid hv2
    have HL2 := Lib.hid hl2
    have HFIT := Lib.hid hfit
    have HND := Lib.hid hnd
    have HRL := Lib.hid hrl
    clear ho2 hv2 hl2 hfit hnd hrl
    obtain ⟨B1, d1, B2, d2, rfl⟩ := MachAt.form m3
    have hlst := A.lst_least HV.out
    have hls := (A.leastM_is HV.out).2
    have hso := hls.sized HV.out
    have hvo := hls.valid_ HV.out
    obtain ⟨o, ho⟩ : ∃ o, A.leastM m = o := ⟨_, rfl⟩
    rw [ho] at hlst hls hso hvo
    have HLO := Lib.hid hlst
    have HSO : Hid (Sized o) := hso
    have HLE : Hid (o.next.length ≤ m.next.length) := hls.le
    have HBL : Hid (o.next.length ≤ 8000 ∧ o.fin.length ≤ 140737488355328 ∧ ∀ row ∈ o.next, row.length * 8 ≤ 140737488355328) := A.valid_light hvo
    have HBD : Hid (m.fin.length ≤ 140737488355328 ∧ ∀ row ∈ m.next, row.length * 8 ≤ 140737488355328) := (A.valid_light HV.out).2
    have HRM : Hid ((1 + m.next.length) * (1 + o2.next.length) ≤ 20000) := show _ ≤ _ by
      have h1 := HLEN.out.1
      have h2 := HRL.out
      have : (1 + m.next.length) * (1 + o2.next.length) ≤ 31 * 61 := Nat.mul_le_mul (by omega) (by omega)
      omega
    clear hlst hls hso hvo
    have HF3 := Lib.hid (HF2.out.trans f3)
    have HB3 := Lib.hid (f3.blk HB2.out id)
    have HO3 := Lib.hid m3
    clear f3 HF2 HB2 m3
    obtain ⟨w4, hW4⟩ : ∃ w4, w4 = w3.alloc (.cells #[.int .i64 o2.letters, .int .i64 o2.start, .slice B1 o2.next.length d1, .slice B2 o2.fin.length d2] 25) := ⟨_, rfl⟩
    have FA : Frm (fun _ => False) w3 w4 := by rw [hW4]; exact (Frm.refl _ _).alloc _
    have HBO4 : Hid (Blk w4 w3.heap.size 25 #[.int .i64 o2.letters, .int .i64 o2.start, .slice B1 o2.next.length d1, .slice B2 o2.fin.length d2]) := by rw [hW4]; exact Blk.new w3 _ _
    have HB4 := Lib.hid (Frm.blk FA HB3.out id)
    have HO4 := Lib.hid (HO3.out.keep0 FA)
    have HF4 := Lib.hid (HF3.out.trans FA)
    clear HB3 HO3 HF3
    clear FA
    have e00 := HB4.out.cell 0
    have e01 := HB4.out.cell 1
    have e02 := HB4.out.cell 2
    have e03 := HB4.out.cell 3
    simp only [macC] at e00 e01 e02 e03
    rw [hW4] at e00 e01 e02 e03
    go_wp2_with fail
    rw [← hW4]
    clear e00 e01 e02 e03 hW4
    refine (copy_any (HM.out.keep0 HF4.out) (by have := HLEN.out.1; omega) HBD.out.1 HBD.out.2).mono ?_
    rintro _ w5 ⟨r5, rfl, m5, f⟩
    have HC5 := Lib.hid m5
    clear m5
    have HB5 := Lib.hid (Frm.blk f HB4.out id)
    have HBO5 := Lib.hid (Frm.blk f HBO4.out id)
    have HO5 := Lib.hid (HO4.out.keep0 f)
    have HF5 := Lib.hid (HF4.out.trans f)
    clear HB4 HBO4 HO4 HF4
    clear f
    go_wp2_with fail
    have hla := least_all HC5.out HS.out
    rw [A.lst_valid HV.out, ho] at hla
    refine hla.mono ?_
    clear hla
    rintro _ w6 ⟨r6, rfl, m6, f⟩
    obtain ⟨C1, h1, C2, h2, rfl⟩ := MachAt.form m6
    have HA6 := Lib.hid m6
    clear m6 HC5
    have HB6 := Lib.hid (Frm.blk f HB5.out id)
    have HBO6 := Lib.hid (Frm.blk f HBO5.out id)
    have HO6 := Lib.hid (HO5.out.keep0 f)
    have HF6 := Lib.hid (HF5.out.trans f)
    clear HB5 HBO5 HO5 HF5
    clear f
    obtain ⟨w7, hW7⟩ : ∃ w7, w7 = w6.alloc (.cells #[.int .i64 o.letters, .int .i64 o.start, .slice C1 o.next.length h1, .slice C2 o.fin.length h2] 25) := ⟨_, rfl⟩
    have FA : Frm (fun _ => False) w6 w7 := by rw [hW7]; exact (Frm.refl _ _).alloc _
    have HBA7 : Hid (Blk w7 w6.heap.size 25 #[.int .i64 o.letters, .int .i64 o.start, .slice C1 o.next.length h1, .slice C2 o.fin.length h2]) := by rw [hW7]; exact Blk.new w6 _ _
    have HB7 := Lib.hid (Frm.blk FA HB6.out id)
    have HBO7 := Lib.hid (Frm.blk FA HBO6.out id)
    have HO7 := Lib.hid (HO6.out.keep0 FA)
    have HA7 := Lib.hid (HA6.out.keep0 FA)
    have HF7 := Lib.hid (HF6.out.trans FA)
    clear HB6 HBO6 HO6 HA6 HF6
    clear FA
    have e00 := HBO7.out.cell 0
    have e01 := HBO7.out.cell 1
    have e02 := HBO7.out.cell 2
    have e03 := HBO7.out.cell 3
    rw [hW7] at e00 e01 e02 e03
    go_wp2_with fail
    rw [← hW7]
    clear e00 e01 e02 e03 hW7
    have hla := least_all HO7.out (A.valid_sized HV2.out)
    rw [HL2.out, ho] at hla
    refine hla.mono ?_
    clear hla
    rintro _ w8 ⟨r8, rfl, m8, f⟩
    obtain ⟨D1, j1, D2, j2, rfl⟩ := MachAt.form m8
    have HD8 := Lib.hid m8
    clear m8
    have HB8 := Lib.hid (Frm.blk f HB7.out id)
    have HBO8 := Lib.hid (Frm.blk f HBO7.out id)
    have HBA8 := Lib.hid (Frm.blk f HBA7.out id)
    have HO8 := Lib.hid (HO7.out.keep0 f)
    have HA8 := Lib.hid (HA7.out.keep0 f)
    have HF8 := Lib.hid (HF7.out.trans f)
    clear HB7 HBO7 HBA7 HO7 HA7 HF7
    clear f
    obtain ⟨w9, hW9⟩ : ∃ w9, w9 = w8.alloc (.cells #[.int .i64 o.letters, .int .i64 o.start, .slice D1 o.next.length j1, .slice D2 o.fin.length j2] 25) := ⟨_, rfl⟩
    have FA : Frm (fun _ => False) w8 w9 := by rw [hW9]; exact (Frm.refl _ _).alloc _
    have HBD9 : Hid (Blk w9 w8.heap.size 25 #[.int .i64 o.letters, .int .i64 o.start, .slice D1 o.next.length j1, .slice D2 o.fin.length j2]) := by rw [hW9]; exact Blk.new w8 _ _
    have HB9 := Lib.hid (Frm.blk FA HB8.out id)
    have HBO9 := Lib.hid (Frm.blk FA HBO8.out id)
    have HBA9 := Lib.hid (Frm.blk FA HBA8.out id)
    have HO9 := Lib.hid (HO8.out.keep0 FA)
    have HA9 := Lib.hid (HA8.out.keep0 FA)
    have HD9 := Lib.hid (HD8.out.keep0 FA)
    have HF9 := Lib.hid (HF8.out.trans FA)
    clear HB8 HBO8 HBA8 HO8 HA8 HD8 HF8
    clear FA
    have e00 := HBA9.out.cell 0
    have e01 := HBA9.out.cell 1
    have e02 := HBA9.out.cell 2
    have e03 := HBA9.out.cell 3
    rw [hW9] at e00 e01 e02 e03
    go_wp2_with fail
    rw [← hW9]
    clear e00 e01 e02 e03 hW9
    refine (copy_any HA9.out HBL.out.1 HBL.out.2.1 HBL.out.2.2).mono ?_
    rintro _ w10 ⟨r10, rfl, m10, f⟩
    have HC10 := Lib.hid m10
    clear m10
    have HB10 := Lib.hid (Frm.blk f HB9.out id)
    have HBO10 := Lib.hid (Frm.blk f HBO9.out id)
    have HBA10 := Lib.hid (Frm.blk f HBA9.out id)
    have HBD10 := Lib.hid (Frm.blk f HBD9.out id)
    have HO10 := Lib.hid (HO9.out.keep0 f)
    have HA10 := Lib.hid (HA9.out.keep0 f)
    have HD10 := Lib.hid (HD9.out.keep0 f)
    have HF10 := Lib.hid (HF9.out.trans f)
    clear HB9 HBO9 HBA9 HBD9 HO9 HA9 HD9 HF9
    clear f
    go_wp2_with fail
    have hla := least_all HC10.out HSO.out
    rw [HLO.out] at hla
    refine hla.mono ?_
    clear hla
    rintro _ w11 ⟨r11, rfl, m11, f⟩
    obtain ⟨E1, k1, E2, k2, rfl⟩ := MachAt.form m11
    have HE11 := Lib.hid m11
    clear m11 HC10
    have HB11 := Lib.hid (Frm.blk f HB10.out id)
    have HBO11 := Lib.hid (Frm.blk f HBO10.out id)
    have HBA11 := Lib.hid (Frm.blk f HBA10.out id)
    have HBD11 := Lib.hid (Frm.blk f HBD10.out id)
    have HO11 := Lib.hid (HO10.out.keep0 f)
    have HA11 := Lib.hid (HA10.out.keep0 f)
    have HD11 := Lib.hid (HD10.out.keep0 f)
    have HF11 := Lib.hid (HF10.out.trans f)
    clear HB10 HBO10 HBA10 HBD10 HO10 HA10 HD10 HF10
    clear f
    obtain ⟨w12, hW12⟩ : ∃ w12, w12 = w11.alloc (.cells #[.int .i64 o.letters, .int .i64 o.start, .slice E1 o.next.length k1, .slice E2 o.fin.length k2] 25) := ⟨_, rfl⟩
    have FA : Frm (fun _ => False) w11 w12 := by rw [hW12]; exact (Frm.refl _ _).alloc _
    have HBE12 : Hid (Blk w12 w11.heap.size 25 #[.int .i64 o.letters, .int .i64 o.start, .slice E1 o.next.length k1, .slice E2 o.fin.length k2]) := by rw [hW12]; exact Blk.new w11 _ _
    have HB12 := Lib.hid (Frm.blk FA HB11.out id)
    have HBO12 := Lib.hid (Frm.blk FA HBO11.out id)
    have HBA12 := Lib.hid (Frm.blk FA HBA11.out id)
    have HBD12 := Lib.hid (Frm.blk FA HBD11.out id)
    have HO12 := Lib.hid (HO11.out.keep0 FA)
    have HA12 := Lib.hid (HA11.out.keep0 FA)
    have HD12 := Lib.hid (HD11.out.keep0 FA)
    have HE12 := Lib.hid (HE11.out.keep0 FA)
    have HF12 := Lib.hid (HF11.out.trans FA)
    clear HB11 HBO11 HBA11 HBD11 HO11 HA11 HD11 HE11 HF11
    clear FA
    have e00 := HB12.out.cell 0
    have e01 := HB12.out.cell 1
    have e02 := HB12.out.cell 2
    have e03 := HB12.out.cell 3
    simp only [macC] at e00 e01 e02 e03
    have g00 := HBO12.out.cell 0
    have g01 := HBO12.out.cell 1
    have g02 := HBO12.out.cell 2
    have g03 := HBO12.out.cell 3
    rw [hW12] at e00 e01 e02 e03 g00 g01 g02 g03
    go_wp2_with fail
    rw [← hW12]
    clear e00 e01 e02 e03 g00 g01 g02 g03 hW12
    refine (differ_all (HM.out.keep0 HF12.out) HO12.out HS.out (A.valid_sized HV2.out)).mono ?_
    rintro _ w13 ⟨f, u13, fi13, er13, rfl, -, hd, -⟩
    obtain ⟨rfl, rfl, rfl⟩ := hd HFIT.out HND.out
    clear hd
    have HB13 := Lib.hid (Frm.blk f HB12.out id)
    have HBO13 := Lib.hid (Frm.blk f HBO12.out id)
    have HBA13 := Lib.hid (Frm.blk f HBA12.out id)
    have HBD13 := Lib.hid (Frm.blk f HBD12.out id)
    have HBE13 := Lib.hid (Frm.blk f HBE12.out id)
    have HO13 := Lib.hid (HO12.out.keep0 f)
    have HA13 := Lib.hid (HA12.out.keep0 f)
    have HD13 := Lib.hid (HD12.out.keep0 f)
    have HE13 := Lib.hid (HE12.out.keep0 f)
    have HF13 := Lib.hid (HF12.out.trans f)
    clear HB12 HBO12 HBA12 HBD12 HBE12 HO12 HA12 HD12 HE12 HF12
    clear f
    have e00 := HB13.out.cell 0
    have e01 := HB13.out.cell 1
    have e02 := HB13.out.cell 2
    have e03 := HB13.out.cell 3
    simp only [macC] at e00 e01 e02 e03
    have g00 := HBO13.out.cell 0
    have g01 := HBO13.out.cell 1
    have g02 := HBO13.out.cell 2
    have g03 := HBO13.out.cell 3
    go_wp2_with fail
    clear e00 e01 e02 e03 g00 g01 g02 g03
    refine (relate_all (HM.out.keep0 HF13.out) HO13.out HS.out (A.valid_sized HV2.out) fun _ => HRM.out).mono ?_
    rintro _ w14 ⟨f, u14, er14, rfl, -, -, hd⟩
    obtain ⟨rfl, l, hp14, hck, hll⟩ := hd HFIT.out HND.out
    clear hd
    have HP14 := Lib.hid hp14
    have HCK := Lib.hid hck
    have HLL := Lib.hid hll
    clear hp14 hck hll
    have HB14 := Lib.hid (Frm.blk f HB13.out id)
    have HBO14 := Lib.hid (Frm.blk f HBO13.out id)
    have HBA14 := Lib.hid (Frm.blk f HBA13.out id)
    have HBD14 := Lib.hid (Frm.blk f HBD13.out id)
    have HBE14 := Lib.hid (Frm.blk f HBE13.out id)
    have HO14 := Lib.hid (HO13.out.keep0 f)
    have HA14 := Lib.hid (HA13.out.keep0 f)
    have HD14 := Lib.hid (HD13.out.keep0 f)
    have HE14 := Lib.hid (HE13.out.keep0 f)
    have HF14 := Lib.hid (HF13.out.trans f)
    clear HB13 HBO13 HBA13 HBD13 HBE13 HO13 HA13 HD13 HE13 HF13
    clear f
    have e00 := HBA14.out.cell 0
    have e01 := HBA14.out.cell 1
    have e02 := HBA14.out.cell 2
    have e03 := HBA14.out.cell 3
    have e10 := HBD14.out.cell 0
    have e11 := HBD14.out.cell 1
    have e12 := HBD14.out.cell 2
    have e13 := HBD14.out.cell 3
    go_wp2_with fail
    clear e00 e01 e02 e03 e10 e11 e12 e13
    refine (rsame_any HA14.out HD14.out HSO.out).mono ?_
    rintro _ w15 ⟨rfl, f⟩
    have HB15 := Lib.hid (Frm.blk f HB14.out id)
    have HBO15 := Lib.hid (Frm.blk f HBO14.out id)
    have HBA15 := Lib.hid (Frm.blk f HBA14.out id)
    have HBD15 := Lib.hid (Frm.blk f HBD14.out id)
    have HBE15 := Lib.hid (Frm.blk f HBE14.out id)
    have HO15 := Lib.hid (HO14.out.keep0 f)
    have HA15 := Lib.hid (HA14.out.keep0 f)
    have HD15 := Lib.hid (HD14.out.keep0 f)
    have HE15 := Lib.hid (HE14.out.keep0 f)
    have HP15 := Lib.hid (HP14.out.keep f fun _ _ => id)
    have HF15 := Lib.hid (HF14.out.trans f)
    clear HB14 HBO14 HBA14 HBD14 HBE14 HO14 HA14 HD14 HE14 HP14 HF14
    clear f
    have e00 := HBA15.out.cell 0
    have e01 := HBA15.out.cell 1
    have e02 := HBA15.out.cell 2
    have e03 := HBA15.out.cell 3
    have e10 := HBE15.out.cell 0
    have e11 := HBE15.out.cell 1
    have e12 := HBE15.out.cell 2
    have e13 := HBE15.out.cell 3
    go_wp2_with fail
    clear e00 e01 e02 e03 e10 e11 e12 e13
    refine (rsame_any HA15.out HE15.out HSO.out).mono ?_
    rintro _ w16 ⟨rfl, f⟩
    have HB16 := Lib.hid (Frm.blk f HB15.out id)
    have HBO16 := Lib.hid (Frm.blk f HBO15.out id)
    have HBA16 := Lib.hid (Frm.blk f HBA15.out id)
    have HBD16 := Lib.hid (Frm.blk f HBD15.out id)
    have HBE16 := Lib.hid (Frm.blk f HBE15.out id)
    have HO16 := Lib.hid (HO15.out.keep0 f)
    have HA16 := Lib.hid (HA15.out.keep0 f)
    have HD16 := Lib.hid (HD15.out.keep0 f)
    have HE16 := Lib.hid (HE15.out.keep0 f)
    have HP16 := Lib.hid (HP15.out.keep f fun _ _ => id)
    have HF16 := Lib.hid (HF15.out.trans f)
    clear HB15 HBO15 HBA15 HBD15 HBE15 HO15 HA15 HD15 HE15 HP15 HF15
    clear f
    have e00 := HB16.out.cell 0
    have e01 := HB16.out.cell 1
    have e02 := HB16.out.cell 2
    have e03 := HB16.out.cell 3
    simp only [macC] at e00 e01 e02 e03
    have g00 := HBA16.out.cell 0
    have g01 := HBA16.out.cell 1
    have g02 := HBA16.out.cell 2
    have g03 := HBA16.out.cell 3
    have g10 := HBO16.out.cell 0
    have g11 := HBO16.out.cell 1
    have g12 := HBO16.out.cell 2
    have g13 := HBO16.out.cell 3
    have hle : (o.next.length : Int) ≤ (m.next.length : Int) := by have := HLE.out; omega
    obtain ⟨AP, cP, rfl, hPP⟩ := id HP16.out
    clear hPP
    go_wp2_with fail
    clear e00 e01 e02 e03 g00 g01 g02 g03 g10 g11 g12 g13
    refine (check_any (HM.out.keep0 HF16.out) HO16.out HP16.out HS.out (A.valid_sized HV2.out) (by have := HLL.out; unfold maxLen; omega)).mono ?_
    rintro _ w17 ⟨rfl, f⟩
    rw [HCK.out]
    have HF17 := Lib.hid (HF16.out.trans f)
    clear f
    go_wp2_with fail
    refine (awake_any _).mono ?_
    rintro _ w18 ⟨rfl, f⟩
    have HF18 := Lib.hid (HF17.out.trans f)
    clear f HF17
    go_wp2_with fail
    go_ret
    exact ⟨rfl, HF18.out⟩
end Go.Proofs.Ytmoniecknimmdaa
end
section
namespace Go.Proofs.Ytmoniecknimmdaa.OneP
open Go.ChangeShapes Go.WideShapes Go.ChangeAt Go.RowKit
theorem own : ownKnob Try.prog.godebug = none := by kernel_rfl
theorem laidOut : laidOutB Try.prog = true := by kernel_rfl
theorem kept {w w' : World} (h : Frm (fun _ => False) w w') (may : MemPlace → Prop) : w.keptBut w' may := by
  refine ⟨h.3.1, h.3.2, fun i hi => ?_⟩
  rw [h.2 i hi id]
  split <;> simp_all
/-- An argument reads behind the call as it did. -/
theorem stays {H : Type} {enc : TypeId × Value → H} {t : TypeId} (hr : Try.prog.readableRec t = true) (hrow : t < Try.prog.types.size) {W W' : World} {v : Value} {d : DataW H} {ps : List MemPlace}
    (h : DataW.Trod enc Try.prog W 0 (fun _ => true) true t v d ps) (F : Frm (fun _ => False) W W') (hlt : ∀ x ∈ ps, x.block < W.heap.size) : DataW.Trod enc Try.prog W' 0 (fun b => decide (b < W.heap.size)) true t v d ps :=
  WideElems.Trod_stays laidOut hr hrow h (fun x hx => by
    have h1 := F.2 x.block (hlt x hx) id
    cases x with
    | cell b off => exact World.cell?_of_block (w := W) (w' := W') (a := ⟨b, off, none⟩) h1
    | map b => exact h1) fun x hx => by simpa using hlt x hx
set_option maxRecDepth 100000 in
theorem lifted (os : Os) (started : os.Started) (H : Type) (enc : TypeId × Value → H) :
    ReturnsInHanded {} Try.checked os 4 .any (Rows.autoOneSpec.pre6 enc Try.prog Try.f4 Rows.autoOneRow.domain false) (Rows.autoOneSpec.post enc Try.prog Try.f4 false true false false) := by
  refine returnsInHanded_of_change_sized (C := Try.checked) own started (by kernel_rfl) Try.func4
    (ChangeSpec.witness6 (enc := enc) (C := Try.checked) false ⟨#[], #[.agg #[.int .i64 0, .int .i64 0, .slice none 0 0, .slice none 0 0], .int .u8 0, .slice none 0 0], []⟩ 8 (by kernel_rfl) (by kernel_rfl) (by kernel_rfl) (by kernel_rfl)) ?_
  intro W base args ds gs before hval0 hW hcnd hsz0 _
  have hval : ∀ (j : Nat) t v, Try.f4.params[j]? = some t → args[j]? = some v → Value.okWide Try.prog W .any base t v := hval0
  have hW' := hW
  obtain ⟨p, q, hA0, hV, rfl, hfz, hnd⟩ := hW
  have hA : DataW.TrodAll enc Try.prog W 0 (fun _ => true) true Try.f4.params.toList args.toList ds p := hA0
  have hsz : (DataW.weightsEach Try.prog (Try.f4.params.toList ++ Rows.autoOneSpec.plain.varTypes Try.prog) (ds ++ gs)).all (· ≤ reachBytes) = true := hsz0
  rw [Try.params4] at hA hval hsz
  obtain ⟨v0, vs0, d0, ds0, p0, q0, hargs, rfl, rfl, h0, r0⟩ := trodAll_cons hA
  obtain ⟨v1, vs1, d1, ds1, p1, q1, rfl, rfl, rfl, h1, r1⟩ := trodAll_cons r0
  obtain ⟨v2, vs2, d2, ds2, p2, q2, rfl, rfl, rfl, h2, r2⟩ := trodAll_cons r1
  obtain ⟨rfl, rfl, rfl⟩ := trodAll_nil r2
  obtain rfl : args = #[v0, v1, v2] := by cases args; simp_all
  obtain ⟨rfl, rfl⟩ := trodVars_none hV
  clear hA0 hval0
  simp only [List.append_nil] at hW'
  have hlt : ∀ x ∈ p0 ++ (p1 ++ p2), x.block < W.heap.size := fun x hx => hW'.lt x (by simpa using hx)
  have light : ∀ (j : Nat) (t : TypeId) (d : DataW H), [25, 5, 23][j]? = some t → [d0, d1, d2][j]? = some d → Light t d := fun j t d ht hd n hn => by
    have := List.all_eq_true.1 hsz n (DataW.weights_mem_each (j := j) (t := t) (d := d) (by
      match j, ht with
      | 0, ht => exact ht
      | 1, ht => exact ht
      | 2, ht => exact ht) (by
      match j, hd with
      | 0, hd => exact hd
      | 1, hd => exact hd
      | 2, hd => exact hd) n hn)
    simpa using this
  obtain ⟨m, ma, sa, sf, sr⟩ := mach_light (hval 0 25 v0 rfl rfl) h0 (light 0 _ _ rfl rfl)
  obtain ⟨x, hx⟩ : ∃ x : Int, v1 = .int .u8 x ∧ 0 ≤ x ∧ x ≤ 255 := by
    obtain ⟨z, rfl⟩ := okWide_int Try.underlying5 (hval 1 5 v1 rfl rfl)
    obtain ⟨f1, hf1⟩ := h1
    obtain ⟨x, e, _, wx⟩ := DataW.trod_int Try.underlying5 hf1
    have e' : z = x := by simpa [Value.cells] using e
    subst e'
    refine ⟨z, rfl, ?_⟩
    simp [Lit.wf, IntKind.min, IntKind.max, IntKind.bits, IntKind.signed] at wx
    omega
  obtain ⟨rfl, hx0, hx1⟩ := hx
  obtain ⟨b, rfl⟩ := Int.eq_ofNat_of_zero_le hx0
  obtain ⟨l, hl, sl⟩ : ∃ l, Bools W (fun _ => True) v2 l ∧ l.length ≤ reachBytes := by
    obtain ⟨A2, n2, c2, rfl⟩ := okWide_slice Try.underlying23 (hval 2 23 v2 rfl rfl)
    obtain ⟨f2, hf2⟩ := h2
    exact bools_light hf2 (light 2 _ _ rfl rfl)
  refine (one_law ma hl (by omega) sa).mono fun e W' ⟨he, F⟩ => ?_
  subst he
  exact ⟨_, rfl, _, _, _, _, _, _, hW', trodAll_cons_mk (shut_bool Try.underlying4 _) trodAll_mk0, trodAll_cons_mk (stays (by kernel_rfl) (of_decide_eq_true (by kernel_rfl)) h0 F fun x hx => hlt x (by simp [hx])) (trodAll_cons_mk (stays (by kernel_rfl) (of_decide_eq_true (by kernel_rfl)) h1 F fun x hx => hlt x (by simp [hx])) (trodAll_cons_mk (stays (by kernel_rfl) (of_decide_eq_true (by kernel_rfl)) h2 F fun x hx => hlt x (by simp [hx])) trodAll_mk0)), rfl, kept F _, fun h => by cases h⟩
theorem proved : Rows.AutoOneSaid :=
  OpenClaim.holds_of_wide 4 Try.f4 rfl rfl rfl rfl rfl rfl rfl ⟨rfl, rfl, rfl, rfl, rfl⟩ rfl rfl rfl rfl rfl (by kernel_rfl) Try.func4 (by kernel_rfl)
    (of_decide_eq_true (by kernel_rfl)) (by unfold Func.isWrapper; first | (rw [if_pos (by decide +kernel)]; kernel_rfl) | (rw [if_neg (by decide +kernel)]; exact ⟨rfl, rfl⟩))
    (fun os started H enc _ => lifted os started H enc)
end Go.Proofs.Ytmoniecknimmdaa.OneP
namespace Go.Proofs.Ytmoniecknimmdaa
/-- AutoOne. -/
theorem autoOne_holds : Rows.AutoOneSaid := OneP.proved
end Go.Proofs.Ytmoniecknimmdaa
end
