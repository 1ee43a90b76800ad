/- Words for memory: blocks known whole, what a call may change. How machines lie in memory; fits and Valid. Valid, lead, ends, Accepts. Accepts. fit, starts, nowherePair, leadPair, agree, inOrder. agree, inOrder. isRelation. newJoined: each state by itself. joined.end. joined.join. shows: where pairs have their places. shows. Check. wordOf: up to the reversal. Contracts of the program's functions, with no condition beyond what each theorem states. -/
import Derived.Test.YtldmjpnldgekaaaProg
import Derived.WalkKit
import Derived.WalkSpells
import Derived.WalkLawsBesides
import Derived.Deep.QuietTactic
import Derived.BigQuiet
import Derived.Lib.Hide
import Derived.Deep.LoopGhost
import Derived.StillTailTactics
import Derived.Deep.RegionHeld3
import Derived.IntWalk
import Derived.Laws.AppendOwnNone
import Derived.Below
import Derived.Laws.OwnMore
import Derived.Deep.AppendLies
import Derived.Deep.Draws
import Derived.Laws.Rows
import Derived.Test.YtldmjpnldgekaaaC01
import Derived.Deep.OwnRows
import Derived.Test.YtldmjpnldgekaaaShelf
section
namespace Go.Proofs.Ytldmjpnldgekaaa
open Go.RowKit
/-- Block g is just the cells cs of element type t, none frozen. -/
def Blk (w : World) (g : Nat) (t : TypeId) (cs : Array Value) : Prop := w.heap[g]? = some (.cells cs t (0, 0))
section
variable {w w' : World} {g : Nat} {t : TypeId} {cs : Array Value}
theorem Blk.lt (h : Blk w g t cs) : g < w.heap.size := by
  rcases Nat.lt_or_ge g w.heap.size with hlt | hge
  · exact hlt
  · unfold Blk at h; rw [Array.getElem?_eq_none hge] at h; cases h
theorem Blk.cell (h : Blk w g t cs) (i : Nat) : w.cell? ⟨g, i, none⟩ = cs[i]? := cell_of_row w g i cs t (0, 0) h
theorem Blk.frozen (h : Blk w g t cs) (i : Nat) : w.frozen? ⟨g, i, none⟩ = false := by
  unfold Blk at h
  simp [World.frozen?, h]
theorem Blk.new (w : World) (t : TypeId) (cs : Array Value) : Blk (w.alloc (.cells cs t)) w.heap.size t cs := heap_alloc_new w _
theorem Blk.drew (h : Blk w g t cs) : Blk w.drew g t cs := h
theorem Blk.drewN (h : Blk w g t cs) (n : Nat) : Blk (w.drewN n) g t cs := h
theorem Blk.alloc (h : Blk w g t cs) (o : Obj) : Blk (w.alloc o) g t cs := (Below.heap_alloc w o g h.lt).trans h
theorem Blk.set_ (h : Blk w g t cs) (i : Nat) (u : Value) : Blk (w.setCell ⟨g, i, none⟩ u) g t (cs.setIfInBounds i u) := by
  unfold Blk at h ⊢
  simp [World.setCell, Array.getElem?_modify, h]
theorem Blk.below {B : Nat} (h : Blk w g t cs) (hb : Below B w w') (hg : g < B) : Blk w' g t cs := (hb.block g hg).trans h
theorem Blk.grown {row : Option Nat} (h : Blk w g t cs) (hb : w.grownBy w' row) (hg : some g ≠ row) : Blk w' g t cs := (hb.block g h.lt hg).trans h
theorem Blk.far (h : Blk w g t cs) {p : Addr} (hp : g ≠ p.block) (u : Value) : Blk (w.setCell p u) g t cs := (Below.heap_setCell w p u g hp).trans h
end
/-- What a call may change: new blocks, and the blocks of E. -/
structure FrmC (E : Nat → Prop) (h h' : Array Obj) (io : Prop) : Prop where
  f1 : h.size ≤ h'.size
  f2 : ∀ b, b < h.size → ¬ E b → h'[b]? = h[b]?
  f3 : io
def Frm (E : Nat → Prop) (w w' : World) : Prop := FrmC E w.heap w'.heap (w'.os = w.os ∧ w'.output = w.output)
section
variable {E E' : Nat → Prop} {w w' w'' : World} {g : Nat} {t : TypeId} {cs : Array Value}
theorem Frm.refl (E : Nat → Prop) (w : World) : Frm E w w := ⟨Nat.le_refl _, fun _ _ _ => rfl, rfl, rfl⟩
theorem Frm.trans (h : Frm E w w') (h' : Frm E w' w'') : Frm E w w'' :=
  ⟨Nat.le_trans h.1 h'.1, fun b hb he => (h'.2 b (Nat.lt_of_lt_of_le hb h.1) he).trans (h.2 b hb he), h'.3.1.trans h.3.1, h'.3.2.trans h.3.2⟩
theorem Frm.mono (h : Frm E w w') (hE : ∀ b, b < w.heap.size → E b → E' b) : Frm E' w w' := ⟨h.1, fun b hb he => h.2 b hb fun h => he (hE b hb h), h.3⟩
theorem Frm.alloc (h : Frm E w w') (o : Obj) : Frm E w (w'.alloc o) :=
  ⟨Nat.le_trans h.1 (by simp), fun b hb he => (Below.heap_alloc w' o b (Nat.lt_of_lt_of_le hb h.1)).trans (h.2 b hb he), h.3⟩
theorem Frm.drew (h : Frm E w w') : Frm E w w'.drew := h
theorem Frm.drewN (h : Frm E w w') (n : Nat) : Frm E w (w'.drewN n) := h
theorem Frm.set_ (h : Frm E w w') {p : Addr} (hp : p.block < w.heap.size → E p.block) (u : Value) : Frm E w (w'.setCell p u) :=
  ⟨Nat.le_trans h.1 (by simp), fun b hb he => (Below.heap_setCell w' p u b (fun e => he (by subst e; exact hp hb))).trans (h.2 b hb he), h.3⟩
theorem Frm.below {B : Nat} (h : Frm E w w') (hb : Below B w' w'') (hB : w.heap.size ≤ B) : Frm E w w'' :=
  ⟨Nat.le_trans h.1 hb.size, fun b hlt he => (hb.block b (by omega)).trans (h.2 b hlt he), hb.os.trans h.3.1, hb.output.trans h.3.2⟩
theorem Frm.grown {row : Option Nat} (h : Frm E w w') (hg : w'.grownBy w'' row) (hr : ∀ g, row = some g → g < w.heap.size → E g) : Frm E w w'' :=
  ⟨Nat.le_trans h.1 hg.size, fun b hlt he => (hg.block b (Nat.lt_of_lt_of_le hlt h.1) (fun e => he (hr b e.symm hlt))).trans (h.2 b hlt he), hg.os.trans h.3.1, hg.output.trans h.3.2⟩
theorem Frm.own {v : Value} {n size : Nat} {e : TypeId} {xs : List Value} (h : Frm E w w') (ho : w'.ownsRow w.heap.size e size v n xs) (hg : w'.grownBy w'' v.ownBlock) : Frm E w w'' :=
  h.grown hg fun g hg hlt => absurd (ho.lt g hg).1 (by omega)
theorem lt_of_cell {a : Addr} {v : Value} (h : w.cell? a = some v) : a.block < w.heap.size := by
  rcases Nat.lt_or_ge a.block w.heap.size with hlt | hge
  · exact hlt
  · unfold World.cell? at h; rw [Array.getElem?_eq_none hge] at h; cases h
theorem Frm.cell {a : Addr} {v : Value} (h : Frm E w w') (he : ¬ E a.block) (hc : w.cell? a = some v) : w'.cell? a = some v := by
  rw [← hc]; unfold World.cell?; rw [h.2 _ (lt_of_cell hc) he]
theorem Frm.heap {o : Obj} (h : Frm E w w') (he : ¬ E g) (hg : w.heap[g]? = some o) : w'.heap[g]? = some o := by
  rw [← hg]; exact h.2 g (by rcases Nat.lt_or_ge g w.heap.size with h | h; exact h; rw [Array.getElem?_eq_none h] at hg; cases hg) he
theorem Frm.row {E : Nat → Prop} {base base' : Nat} {e : TypeId} {size n : Nat} {v : Value} {xs : List Value} (h : Frm E w w') (ho : w.ownsRow base e size v n xs) (he : ∀ g, v.ownBlock = some g → ¬ E g) (hb : base' ≤ base) : w'.ownsRow base' e size v n xs := by
  refine ⟨ho.1, ?_⟩
  rcases ho.2 with hn | ⟨g, cap, cur, rfl, h1, h2, h3⟩
  · exact .inl hn
  · exact .inr ⟨g, cap, cur, rfl, Nat.le_trans hb h1, h.heap (he g rfl) h2, h3⟩
theorem Frm.blk (h : Frm E w w') (hg : Blk w g t cs) (he : ¬ E g) : Blk w' g t cs := (h.2 g hg.lt he).trans hg
end
/-- Blocks of element type e stay as they are. -/
def Keeps (e : TypeId) (w w' : World) : Prop := ∀ (g : Nat) (cur : Array Value), w.heap[g]? = some (Obj.cells cur e (0, 0)) → w'.heap[g]? = w.heap[g]?
section
variable {e e' : TypeId} {w w' w'' : World} {E : Nat → Prop}
theorem lt_of_heap {g : Nat} {o : Obj} (h : w.heap[g]? = some o) : g < w.heap.size := by
  rcases Nat.lt_or_ge g w.heap.size with hlt | hge
  · exact hlt
  · rw [Array.getElem?_eq_none hge] at h; cases h
theorem Keeps.refl (e : TypeId) (w : World) : Keeps e w w := fun _ _ _ => rfl
theorem Keeps.trans (h : Keeps e w w') (h' : Keeps e w' w'') : Keeps e w w'' := fun g cur hg => (h' g cur ((h g cur hg).trans hg)).trans (h g cur hg)
theorem Frm.keeps (h : Frm E w w') (he : ∀ g cur, E g → w.heap[g]? ≠ some (Obj.cells cur e (0, 0))) : Keeps e w w' := fun g cur hg => h.2 g (lt_of_heap hg) fun hE => he g cur hE hg
theorem Frm.keeps1 {g : Nat} {cs : Array Value} (h : Frm (· = g) w w') (hb : Blk w g e' cs) (hne : e' ≠ e) : Keeps e w w' := h.keeps fun g' cur hg' hc => by
  subst hg'
  unfold Blk at hb
  rw [hb] at hc
  injection hc with hc
  injection hc with _ ht
  exact hne ht
theorem Frm.keeps0 (h : Frm (fun _ => False) w w') : Keeps e w w' := h.keeps fun _ _ h => h.elim
theorem Keeps.alloc (h : Keeps e w w') (o : Obj) : Keeps e w (w'.alloc o) := h.trans ((Frm.refl (fun _ => False) w').alloc o).keeps0
theorem Keeps.set_ {g t : Nat} {cs : Array Value} (h : Keeps e w w') (hb : Blk w' g t cs) (hne : t ≠ e) (i : Nat) (u : Value) : Keeps e w (w'.setCell ⟨g, i, none⟩ u) :=
  h.trans (((Frm.refl (· = g) w').set_ (fun _ => rfl) u).keeps1 hb hne)
theorem Keeps.grown {base size n : Nat} {v : Value} {xs : List Value} (h : Keeps e w w') (ho : w'.ownsRow base e' size v n xs) (hne : e' ≠ e) (hg : w'.grownBy w'' v.ownBlock) : Keeps e w w'' := by
  refine h.trans fun g cur hc => hg.block g (lt_of_heap hc) fun he => ?_
  rcases ho.2 with ⟨rfl, _⟩ | ⟨g', cap, cur', rfl, _, hh, _⟩
  · simp [Value.ownBlock] at he
  · have : g = g' := by simpa [Value.ownBlock] using he
    subst this
    rw [hc] at hh
    injection hh with hh
    injection hh with _ ht
    exact hne ht.symm
theorem Keeps.row {base size n : Nat} {v : Value} {xs : List Value} (h : Keeps e w w') (ho : w.ownsRow base e size v n xs) : w'.ownsRow base e size v n xs := by
  refine ⟨ho.1, ?_⟩
  rcases ho.2 with hn | ⟨g, cap, cur, rfl, h1, h2, h3⟩
  · exact .inl hn
  · exact .inr ⟨g, cap, cur, rfl, h1, (h g cur h2).trans h2, h3⟩
end
theorem own_base {w : World} {base base' size n : Nat} {e : TypeId} {v : Value} {xs : List Value} (ho : w.ownsRow base e size v n xs) (h : base' ≤ base) : w.ownsRow base' e size v n xs :=
  ⟨ho.1, ho.2.imp id fun ⟨g, cap, cur, h1, h2, h3⟩ => ⟨g, cap, cur, h1, Nat.le_trans h h2, h3⟩⟩
theorem blk_at {w : World} {t : TypeId} {cs : Array Value} {n : Nat} (hn : w.heap.size = n) : Blk (w.alloc (.cells cs t)) n t cs := by subst hn; exact Blk.new w t cs
theorem ret_int {k : IntKind} {a b : Int} (h : a = b) : Ending.returned (.int k a) = .returned (.int k b) := by rw [h]
theorem ret_bool {a b : Bool} (h : a = b) : Ending.returned (.bool a) = .returned (.bool b) := by rw [h]
end Go.Proofs.Ytldmjpnldgekaaa
end
section
namespace Go.Proofs.Ytldmjpnldgekaaa
open Go.RowKit
/-- A slice of ints that reads as a list, its cells in blocks of P. -/
def Ints (w : World) (P : Nat → Prop) (v : Value) (l : List Int) : Prop := ∃ A c, v = .slice A l.length c ∧ ∀ k (hk : k < l.length), ∃ g o, A = some ⟨g, o, none⟩ ∧ P g ∧ w.cell? ⟨g, o + k, none⟩ = some (.int .i64 l[k])
def Bools (w : World) (P : Nat → Prop) (v : Value) (l : List Bool) : Prop := ∃ A c, v = .slice A l.length c ∧ ∀ k (hk : k < l.length), ∃ g o, A = some ⟨g, o, none⟩ ∧ P g ∧ w.cell? ⟨g, o + k, none⟩ = some (.bool l[k])
def Rows2 (w : World) (P : Nat → Prop) (v : Value) (l : List (List Int)) : Prop := ∃ A c, v = .slice A l.length c ∧ ∀ k (hk : k < l.length), ∃ g o rv, A = some ⟨g, o, none⟩ ∧ P g ∧ w.cell? ⟨g, o + k, none⟩ = some rv ∧ Ints w P rv l[k]
/-- A machine's value. -/
def MachAt (w : World) (P : Nat → Prop) (v : Value) (m : A.Mac) : Prop := ∃ nv ev, v = .agg #[.int .i64 m.letters, .int .i64 m.start, nv, ev] ∧ Rows2 w P nv m.next ∧ Bools w P ev m.fin
section
variable {w w' : World} {P E : Nat → Prop} {v : Value}
theorem Ints.keep {l : List Int} (h : Ints w P v l) (F : Frm E w w') (hE : ∀ b, P b → ¬ E b) : Ints w' P v l := by
  obtain ⟨A, c, e, h⟩ := h
  exact ⟨A, c, e, fun k hk => by obtain ⟨g, o, h1, h2, h3⟩ := h k hk; exact ⟨g, o, h1, h2, F.cell (hE g h2) h3⟩⟩
theorem Bools.keep {l : List Bool} (h : Bools w P v l) (F : Frm E w w') (hE : ∀ b, P b → ¬ E b) : Bools w' P v l := by
  obtain ⟨A, c, e, h⟩ := h
  exact ⟨A, c, e, fun k hk => by obtain ⟨g, o, h1, h2, h3⟩ := h k hk; exact ⟨g, o, h1, h2, F.cell (hE g h2) h3⟩⟩
theorem Rows2.keep {l : List (List Int)} (h : Rows2 w P v l) (F : Frm E w w') (hE : ∀ b, P b → ¬ E b) : Rows2 w' P v l := by
  obtain ⟨A, c, e, h⟩ := h
  exact ⟨A, c, e, fun k hk => by obtain ⟨g, o, rv, h1, h2, h3, h4⟩ := h k hk; exact ⟨g, o, rv, h1, h2, F.cell (hE g h2) h3, h4.keep F hE⟩⟩
theorem MachAt.keep {m : A.Mac} (h : MachAt w P v m) (F : Frm E w w') (hE : ∀ b, P b → ¬ E b) : MachAt w' P v m := by
  obtain ⟨nv, ev, e, h1, h2⟩ := h
  exact ⟨nv, ev, e, h1.keep F hE, h2.keep F hE⟩
theorem MachAt.keep0 {m : A.Mac} (h : MachAt w P v m) (F : Frm (fun _ => False) w w') : MachAt w' P v m := h.keep F fun _ _ => id
end
theorem okRow_split {m : A.Mac} {row : List Int} : A.okRow m row = (decide ((row.length : Int) = m.letters) && row.all fun x => decide (-1 ≤ x) && decide (x < m.next.length)) := rfl
set_option maxRecDepth 100000 in
set_option maxHeartbeats 2000000 in
theorem fits_any {w : World} {P : Nat → Prop} {v : Value} {m : A.Mac} (h : MachAt w P v m) (hn : m.next.length ≤ maxLen) (he : m.fin.length ≤ maxLen) (hr : ∀ row ∈ m.next, row.length ≤ maxLen) :
    Calls Try.prog 50 #[v] w fun e w' => e = .returned (.bool (A.fits m)) ∧ Frm (fun _ => False) w w' := by
  obtain ⟨nv, ev, rfl, ⟨A1, c1, rfl, hN⟩, ⟨A2, c2, rfl, hE⟩⟩ := h
  obtain ⟨lt, st, nx, fn⟩ := m
  dsimp only at *
  have HN := Lib.hid hN
  have HRL := Lib.hid hr
  clear hN hE hr
  have bx := Blk.new w 25 #[.int .i64 lt, .int .i64 st, .slice A1 nx.length c1, .slice A2 fn.length c2]
  have x0 := bx.cell 0
  have x1 := bx.cell 1
  have x2 := bx.cell 2
  have x3 := bx.cell 3
  have BX := Lib.hid bx
  have F0 : Hid (Frm (fun _ => False) w (w.alloc (.cells #[.int .i64 lt, .int .i64 st, .slice A1 nx.length c1, .slice A2 fn.length c2] 25))) := (Frm.refl _ w).alloc _
  clear bx
  unfold maxLen at hn he
  by_cases a1 : lt < 0
  · have HX : Hid (A.fits ⟨lt, st, nx, fn⟩ = false) := Bool.eq_false_iff.2 fun h => by have := (A.fits_iff.1 h).letters; dsimp only at this; omega
    go_enter Try.func50, Try.ntmps50
    go_wp2_with fail
    go_ret
    exact ⟨ret_bool HX.out.symm, by first | exact F0.out | exact F0.out.drew⟩
  by_cases a2 : nx.length = fn.length
  · have hlen : ((nx.length : Int) != (fn.length : Int)) = false := by simp [a2]
    have HA2 := Lib.hid a2
    clear a2
    have a1' : 0 ≤ lt := by omega
    by_cases a3 : st < -1
    · have HX : Hid (A.fits ⟨lt, st, nx, fn⟩ = false) := Bool.eq_false_iff.2 fun h => by have := (A.fits_iff.1 h).start.1; dsimp only at this; omega
      go_enter Try.func50, Try.ntmps50
      go_wp2_with fail
      go_ret
      exact ⟨ret_bool HX.out.symm, by first | exact F0.out | exact F0.out.drew⟩
    by_cases a4 : (nx.length : Int) ≤ st
    · have HX : Hid (A.fits ⟨lt, st, nx, fn⟩ = false) := Bool.eq_false_iff.2 fun h => by have := (A.fits_iff.1 h).start.2; dsimp only at this; omega
      have a3' : -1 ≤ st := by omega
      go_enter Try.func50, Try.ntmps50
      go_wp2_with fail
      go_ret
      exact ⟨ret_bool HX.out.symm, by first | exact F0.out | exact F0.out.drew⟩
    have a3' : -1 ≤ st := by omega
    have a4' : st < (nx.length : Int) := by omega
    by_cases a5 : st = -1
    · subst a5
      by_cases a6 : 0 < nx.length
      · have HX : Hid (A.fits ⟨lt, -1, nx, fn⟩ = false) := Bool.eq_false_iff.2 fun h => by have := (A.fits_iff.1 h).none rfl; dsimp only at this; omega
        have a6' : (0 : Int) < (nx.length : Int) := by omega
        go_enter Try.func50, Try.ntmps50
        go_wp2_with fail
        go_ret
        exact ⟨ret_bool HX.out.symm, by first | exact F0.out | exact F0.out.drew⟩
      · obtain rfl : nx = [] := List.length_eq_zero_iff.1 (by omega)
        have HX : Hid (A.fits ⟨lt, -1, [], fn⟩ = true) := A.fits_iff.2 ⟨a1', HA2.out, ⟨by dsimp only; omega, by simp⟩, fun _ => rfl, fun row hr => by cases hr⟩
        go_enter Try.func50, Try.ntmps50
        go_wp2_with fail
        go_loopg [44] 1 (fun n i wr => i = .int .i64 0 ∧ Hid (Frm (fun _ => False) w wr))
        case atStart => exact ⟨rfl, by first | exact F0 | exact F0.out.drew⟩
        case round =>
          obtain ⟨rfl, F⟩ := hrel
          go_wp2_with fail
          go_ret
          exact ⟨ret_bool HX.out.symm, F.out⟩
    · have HH : Hid (A.fits ⟨lt, st, nx, fn⟩ = nx.all (A.okRow ⟨lt, st, nx, fn⟩)) := show _ = _ by
        unfold A.fits
        have a2 := HA2.out
        simp [a1', a2, a3', a5]
        omega
      go_enter Try.func50, Try.ntmps50
      go_wp2_with fail
      go_loopg [44] (nx.length + 1) (fun n i wr => ∃ k : Nat, k ≤ nx.length ∧ n = nx.length + 1 - k ∧ i = .int .i64 (k : Int) ∧ Hid (Blk wr w.heap.size 25 #[.int .i64 lt, .int .i64 st, .slice A1 nx.length c1, .slice A2 fn.length c2]) ∧ Hid (A.fits ⟨lt, st, nx, fn⟩ = (nx.drop k).all (A.okRow ⟨lt, st, nx, fn⟩)) ∧ Hid (Frm (fun _ => False) w wr))
      case atStart => exact ⟨0, Nat.zero_le _, rfl, rfl, by first | exact BX | exact BX.out.drew, HH, by first | exact F0 | exact F0.out.drew⟩
      case round =>
        obtain ⟨k, hk, rfl, rfl, X, HK, F⟩ := hrel
        have y0 := X.out.cell 0
        have y2 := X.out.cell 2
        by_cases hlt : k < nx.length
        · have hlt' : (k : Int) < (nx.length : Int) := by omega
          obtain ⟨g, o, rv, hA, -, hc, A3, c3, rfl, hrow⟩ := HN.out k hlt
          subst hA
          have hc' := F.out.cell id hc
          have hrl := HRL.out _ (List.getElem_mem hlt)
          have HS : Hid ((nx.drop k).all (A.okRow ⟨lt, st, nx, fn⟩) = (A.okRow ⟨lt, st, nx, fn⟩ nx[k] && (nx.drop (k + 1)).all (A.okRow ⟨lt, st, nx, fn⟩))) := show _ = _ by rw [List.drop_eq_getElem_cons hlt, List.all_cons]
          have HRow := Lib.hid hrow
          generalize nx[k] = row at *
          unfold maxLen at hrl
          clear hc hrow
          by_cases hl : (row.length : Int) = lt
          · have hb : ((row.length : Int) != lt) = false := by rw [hl]; simp
            have HO : Hid (A.okRow ⟨lt, st, nx, fn⟩ row = row.all fun x => decide (-1 ≤ x) && decide (x < (nx.length : Int))) := show _ = _ by rw [okRow_split]; simp [hl]
            go_wp2_with fail
            go_loopg [55] (row.length + 1) (fun n i wr => ∃ j : Nat, j ≤ row.length ∧ n = row.length + 1 - j ∧ i = .int .i64 (j : Int) ∧ Hid (Blk wr w.heap.size 25 #[.int .i64 lt, .int .i64 st, .slice (some ⟨g, o, none⟩) nx.length c1, .slice A2 fn.length c2]) ∧ Hid (A.okRow ⟨lt, st, nx, fn⟩ row = (row.drop j).all fun x => decide (-1 ≤ x) && decide (x < (nx.length : Int))) ∧ Hid (Frm (fun _ => False) w wr))
            case atStart => exact ⟨0, Nat.zero_le _, rfl, rfl, by first | exact X | exact X.out.drew, HO, by first | exact F | exact F.out.drew⟩
            case round =>
              obtain ⟨j, hj, rfl, rfl, X, HJ, F⟩ := hrel
              have y2 := X.out.cell 2
              by_cases hltj : j < row.length
              · have hltj' : (j : Int) < (row.length : Int) := by omega
                obtain ⟨g3, o3, hA3, -, hcj⟩ := HRow.out j hltj
                subst hA3
                have hcj' := F.out.cell id hcj
                have HSJ : Hid (((row.drop j).all fun x => decide (-1 ≤ x) && decide (x < (nx.length : Int))) = ((decide (-1 ≤ row[j]) && decide (row[j] < (nx.length : Int))) && (row.drop (j + 1)).all fun x => decide (-1 ≤ x) && decide (x < (nx.length : Int)))) := show _ = _ by rw [List.drop_eq_getElem_cons hltj, List.all_cons]
                generalize row[j] = x at *
                clear hcj
                by_cases b1 : x < -1
                · have HF : Hid (A.fits ⟨lt, st, nx, fn⟩ = false) := show _ = _ by rw [HK.out, HS.out, HJ.out, HSJ.out, decide_eq_false (show ¬ -1 ≤ x by omega)]; simp
                  go_wp2_with fail
                  go_ret
                  exact ⟨ret_bool HF.out.symm, by first | exact F.out | exact F.out.drew⟩
                have b1' : -1 ≤ x := by omega
                by_cases b2 : (nx.length : Int) ≤ x
                · have HF : Hid (A.fits ⟨lt, st, nx, fn⟩ = false) := show _ = _ by rw [HK.out, HS.out, HJ.out, HSJ.out, decide_eq_false (show ¬ x < (nx.length : Int) by omega)]; simp
                  go_wp2_with fail
                  go_ret
                  exact ⟨ret_bool HF.out.symm, by first | exact F.out | exact F.out.drew⟩
                have b2' : x < (nx.length : Int) := by omega
                have HJ2 : Hid (A.okRow ⟨lt, st, nx, fn⟩ row = (row.drop (j + 1)).all fun x => decide (-1 ≤ x) && decide (x < (nx.length : Int))) := show _ = _ by rw [HJ.out, HSJ.out, decide_eq_true b1', decide_eq_true b2']; simp
                go_wp2_with fail
                go_roundg (row.length + 1 - (j + 1))
                case measure => omega
                case rel => exact ⟨j + 1, by omega, rfl, by go_num, by first | exact X | exact X.out.drew, HJ2, by first | exact F | exact F.out.drew⟩
              · have hltj' : ¬ (j : Int) < (row.length : Int) := by omega
                have HK2 : Hid (A.fits ⟨lt, st, nx, fn⟩ = (nx.drop (k + 1)).all (A.okRow ⟨lt, st, nx, fn⟩)) := show _ = _ by rw [HK.out, HS.out, HJ.out, List.drop_of_length_le (by omega)]; simp
                go_wp2_with fail
                go_roundg (nx.length + 1 - (k + 1))
                case measure => omega
                case rel => exact ⟨k + 1, by omega, rfl, by go_num, X, HK2, F⟩
          · have hb : ((row.length : Int) != lt) = true := by rw [bne_iff_ne]; exact hl
            have HF : Hid (A.fits ⟨lt, st, nx, fn⟩ = false) := show _ = _ by rw [HK.out, HS.out, okRow_split]; simp [hl]
            go_wp2_with fail
            go_ret
            exact ⟨ret_bool HF.out.symm, by first | exact F.out | exact F.out.drew⟩
        · have hlt' : ¬ (k : Int) < (nx.length : Int) := by omega
          have HF : Hid (A.fits ⟨lt, st, nx, fn⟩ = true) := show _ = _ by rw [HK.out, List.drop_of_length_le (by omega)]; rfl
          go_wp2_with fail
          go_ret
          exact ⟨ret_bool HF.out.symm, F.out⟩
  · have hlen : ((nx.length : Int) != (fn.length : Int)) = true := by rw [bne_iff_ne]; omega
    have HX : Hid (A.fits ⟨lt, st, nx, fn⟩ = false) := Bool.eq_false_iff.2 fun h => a2 (A.fits_iff.1 h).fin
    have a1' : 0 ≤ lt := by omega
    go_enter Try.func50, Try.ntmps50
    go_wp2_with fail
    go_ret
    exact ⟨ret_bool HX.out.symm, by first | exact F0.out | exact F0.out.drew⟩
end Go.Proofs.Ytldmjpnldgekaaa
end
section
namespace Go.Proofs.Ytldmjpnldgekaaa
open Go.RowKit
def Sized (m : A.Mac) : Prop := m.next.length ≤ maxLen ∧ m.fin.length ≤ maxLen ∧ ∀ row ∈ m.next, row.length ≤ maxLen
theorem MachAt.form {w : World} {P : Nat → Prop} {v : Value} {m : A.Mac} (h : MachAt w P v m) : ∃ A1 c1 A2 c2, v = .agg #[.int .i64 m.letters, .int .i64 m.start, .slice A1 m.next.length c1, .slice A2 m.fin.length c2] := by
  obtain ⟨nv, ev, rfl, ⟨A1, c1, rfl, _⟩, ⟨A2, c2, rfl, _⟩⟩ := h
  exact ⟨A1, c1, A2, c2, rfl⟩
set_option maxRecDepth 100000 in
set_option maxHeartbeats 2000000 in
theorem valid_any {w : World} {P : Nat → Prop} {v : Value} {m : A.Mac} (h : MachAt w P v m) (hs : Sized m) :
    Calls Try.prog 27 #[v] w fun e w' => e = .returned (.int .i64 (A.valid m)) ∧ Frm (fun _ => False) w w' := by
  obtain ⟨A1, c1, A2, c2, rfl⟩ := h.form
  have F0 : Frm (fun _ => False) w (w.alloc (.cells #[.int .i64 m.letters, .int .i64 m.start, .slice A1 m.next.length c1, .slice A2 m.fin.length c2] 25)) := (Frm.refl _ w).alloc _
  have HM := Lib.hid (h.keep0 F0)
  have HF0 := Lib.hid F0
  have bx := Lib.hid (Blk.new w 25 #[.int .i64 m.letters, .int .i64 m.start, .slice A1 m.next.length c1, .slice A2 m.fin.length c2])
  have HSZ := Lib.hid hs
  have hn := hs.1
  unfold maxLen at hn
  have HX : Hid (A.valid m = if A.fits m then (if 300 < m.letters ∨ 4000 < m.next.length then 5 else 0) else 1) := rfl
  clear h F0 hs
  have y0 := bx.out.cell 0
  have y1 := bx.out.cell 1
  have y2 := bx.out.cell 2
  have y3 := bx.out.cell 3
  go_enter Try.func27, Try.ntmps27
  go_wp2_with fail
  refine (fits_any HM.out HSZ.out.1 HSZ.out.2.1 HSZ.out.2.2).mono ?_
  rintro _ w1 ⟨rfl, f1⟩
  have F1 := Lib.hid (HF0.out.trans f1)
  have x0 := (f1.blk bx.out id).cell 0
  have x2 := (f1.blk bx.out id).cell 2
  clear f1 y0 y1 y2 y3
  cases hf : A.fits m
  · have HY : Hid (A.valid m = 1) := show _ = _ by rw [HX.out, hf]; rfl
    clear hf
    go_wp2_with fail
    go_ret
    exact ⟨ret_int HY.out.symm, F1.out⟩
  · by_cases h1 : 300 < m.letters
    · have HY : Hid (A.valid m = 5) := show _ = _ by rw [HX.out, hf]; simp [h1]
      clear hf
      go_wp2_with fail
      go_ret
      exact ⟨ret_int HY.out.symm, by first | exact F1.out | exact F1.out.drew⟩
    · have h1' : m.letters ≤ 300 := by omega
      by_cases h2 : 4000 < m.next.length
      · have h2' : (4000 : Int) < (m.next.length : Int) := by omega
        have HY : Hid (A.valid m = 5) := show _ = _ by rw [HX.out, hf]; simp [h2]
        clear hf
        go_wp2_with fail
        go_ret
        exact ⟨ret_int HY.out.symm, by first | exact F1.out | exact F1.out.drew⟩
      · have h2' : (m.next.length : Int) ≤ 4000 := by omega
        have HY : Hid (A.valid m = 0) := show _ = _ by rw [HX.out, hf]; simp [h1, h2]
        clear hf
        go_wp2_with fail
        go_ret
        exact ⟨ret_int HY.out.symm, by first | exact F1.out | exact F1.out.drew⟩
theorem MachAt.next_at {w : World} {P : Nat → Prop} {m : A.Mac} {A1 A2 : Option Addr} {c1 c2 : Nat} (h : MachAt w P (.agg #[.int .i64 m.letters, .int .i64 m.start, .slice A1 m.next.length c1, .slice A2 m.fin.length c2]) m) {k : Nat} (hk : k < m.next.length) :
    ∃ g o A3 c3, A1 = some ⟨g, o, none⟩ ∧ w.cell? ⟨g, o + k, none⟩ = some (.slice A3 m.next[k].length c3) ∧ ∀ j (hj : j < m.next[k].length), ∃ g3 o3, A3 = some ⟨g3, o3, none⟩ ∧ P g3 ∧ w.cell? ⟨g3, o3 + j, none⟩ = some (.int .i64 m.next[k][j]) := by
  obtain ⟨nv, ev, e, ⟨A1', c1', rfl, h1⟩, _⟩ := h
  simp only [Value.agg.injEq, Array.mk.injEq, List.cons.injEq, Value.slice.injEq] at e
  obtain ⟨_, _, ⟨rfl, _, rfl⟩, _⟩ := e
  obtain ⟨g, o, rv, hA, _, hc, A3, c3, rfl, hr⟩ := h1 k hk
  exact ⟨g, o, A3, c3, hA, hc, hr⟩
theorem MachAt.fin_at {w : World} {P : Nat → Prop} {m : A.Mac} {A1 A2 : Option Addr} {c1 c2 : Nat} (h : MachAt w P (.agg #[.int .i64 m.letters, .int .i64 m.start, .slice A1 m.next.length c1, .slice A2 m.fin.length c2]) m) {k : Nat} (hk : k < m.fin.length) :
    ∃ g o, A2 = some ⟨g, o, none⟩ ∧ w.cell? ⟨g, o + k, none⟩ = some (.bool m.fin[k]) := by
  obtain ⟨nv, ev, e, _, ⟨A2', c2', rfl, h2⟩⟩ := h
  simp only [Value.agg.injEq, Array.mk.injEq, List.cons.injEq, Value.slice.injEq] at e
  obtain ⟨_, _, _, ⟨rfl, _, rfl⟩, _⟩ := e
  obtain ⟨g, o, hA, _, hc⟩ := h2 k hk
  exact ⟨g, o, hA, hc⟩
set_option maxRecDepth 100000 in
set_option maxHeartbeats 2000000 in
theorem lead_any {w : World} {P : Nat → Prop} {v : Value} {m : A.Mac} (h : MachAt w P v m) (hf : A.Fits m) (s k : Int) (hs : A.In m s) (hk : 0 ≤ k) (hl : k < m.letters) :
    Calls Try.prog 29 #[v, .int .i64 s, .int .i64 k] w fun e w' => e = .returned (.int .i64 (A.lead m s k)) ∧ Frm (fun _ => False) w w' := by
  obtain ⟨A1, c1, A2, c2, rfl⟩ := h.form
  have F0 : Frm (fun _ => False) w (w.alloc (.cells #[.int .i64 m.letters, .int .i64 m.start, .slice A1 m.next.length c1, .slice A2 m.fin.length c2] 25)) := (Frm.refl _ w).alloc _
  have HM := Lib.hid h
  have HF0 := Lib.hid F0
  have y2 := (Blk.new w 25 #[.int .i64 m.letters, .int .i64 m.start, .slice A1 m.next.length c1, .slice A2 m.fin.length c2]).cell 2
  obtain ⟨s0, s1⟩ := hs
  have HX : Hid (A.lead m s k = if s = -1 then -1 else (m.next.getD s.toNat []).getD k.toNat 0) := rfl
  clear h F0
  by_cases h1 : s = -1
  · subst h1
    go_enter Try.func29, Try.ntmps29
    go_wp2_with fail
    go_ret
    exact ⟨ret_int (by rw [HX.out]; rfl), HF0.out⟩
  · obtain ⟨i, rfl⟩ := Int.eq_ofNat_of_zero_le (show 0 ≤ s by omega)
    obtain ⟨j, rfl⟩ := Int.eq_ofNat_of_zero_le hk
    have hi : i < m.next.length := by omega
    obtain ⟨hr, _⟩ := hf.rows _ (List.getElem_mem hi)
    have hj : j < m.next[i].length := by omega
    obtain ⟨g, o, A3, c3, hA, hc, hrow⟩ := HM.out.next_at hi
    obtain ⟨g3, o3, hA3, _, hcj⟩ := hrow j hj
    subst hA hA3
    have d0 := HF0.out.cell id hc
    have d1 := HF0.out.cell id hcj
    have HY : Hid (A.lead m i j = m.next[i][j]) := show _ = _ by
      rw [HX.out, if_neg h1]
      simp [hi, hj]
    have hb : ((i : Int) == -1) = false := by rw [beq_eq_false_iff_ne]; exact h1
    have hj' : (j : Int) < (m.next[i].length : Int) := by omega
    clear hc hcj hrow hr hf
    generalize m.next[i][j] = x at *
    clear hj
    generalize m.next[i].length = len at *
    go_enter Try.func29, Try.ntmps29
    go_wp2_with fail
    go_ret
    exact ⟨ret_int HY.out.symm, by first | exact HF0.out | exact HF0.out.drew⟩
set_option maxRecDepth 100000 in
set_option maxHeartbeats 2000000 in
theorem ends_any {w : World} {P : Nat → Prop} {v : Value} {m : A.Mac} (h : MachAt w P v m) (hf : A.Fits m) (s : Int) (hs : A.In m s) :
    Calls Try.prog 30 #[v, .int .i64 s] w fun e w' => e = .returned (.bool (A.ends m s)) ∧ Frm (fun _ => False) w w' := by
  obtain ⟨A1, c1, A2, c2, rfl⟩ := h.form
  have F0 : Frm (fun _ => False) w (w.alloc (.cells #[.int .i64 m.letters, .int .i64 m.start, .slice A1 m.next.length c1, .slice A2 m.fin.length c2] 25)) := (Frm.refl _ w).alloc _
  have HM := Lib.hid h
  have HF0 := Lib.hid F0
  have y3 := (Blk.new w 25 #[.int .i64 m.letters, .int .i64 m.start, .slice A1 m.next.length c1, .slice A2 m.fin.length c2]).cell 3
  obtain ⟨s0, s1⟩ := hs
  have HX : Hid (A.ends m s = (!decide (s = -1) && m.fin.getD s.toNat false)) := rfl
  clear h F0
  by_cases h1 : s = -1
  · subst h1
    go_enter Try.func30, Try.ntmps30
    go_wp2_with fail
    go_ret
    exact ⟨ret_bool (by rw [HX.out]; rfl), by first | exact HF0.out | exact HF0.out.drew⟩
  · obtain ⟨i, rfl⟩ := Int.eq_ofNat_of_zero_le (show 0 ≤ s by omega)
    have hl := hf.fin
    have hi : i < m.fin.length := by omega
    obtain ⟨g, o, hA, hc⟩ := HM.out.fin_at hi
    subst hA
    have d0 := HF0.out.cell id hc
    have HY : Hid (A.ends m i = m.fin[i]) := show _ = _ by
      rw [HX.out]
      simp [hi, h1]
    have hb : ((i : Int) != -1) = true := by rw [bne_iff_ne]; exact h1
    have hi' : (i : Int) < (m.fin.length : Int) := by omega
    generalize m.fin[i] = x at *
    clear hc hf hl
    go_enter Try.func30, Try.ntmps30
    go_wp2_with fail
    go_ret
    exact ⟨ret_bool HY.out.symm, by first | exact HF0.out | exact HF0.out.drew⟩
end Go.Proofs.Ytldmjpnldgekaaa
end
section
namespace Go.Proofs.Ytldmjpnldgekaaa
open Go.RowKit
theorem mach_box {w : World} {P : Nat → Prop} {v : Value} {m : A.Mac} (h : MachAt w P v m) : ∃ A1 c1 A2 c2, v = .agg #[.int .i64 m.letters, .int .i64 m.start, .slice A1 m.next.length c1, .slice A2 m.fin.length c2] ∧
    Blk (w.alloc (.cells #[.int .i64 m.letters, .int .i64 m.start, .slice A1 m.next.length c1, .slice A2 m.fin.length c2] 25)) w.heap.size 25 #[.int .i64 m.letters, .int .i64 m.start, .slice A1 m.next.length c1, .slice A2 m.fin.length c2] := by
  obtain ⟨A1, c1, A2, c2, e⟩ := h.form
  exact ⟨A1, c1, A2, c2, e, Blk.new w _ _⟩
set_option maxRecDepth 100000 in
set_option maxHeartbeats 2000000 in
theorem accepts_any {w : World} {P Q : Nat → Prop} {v vw : Value} {m : A.Mac} {l : List Int} (h : MachAt w P v m) (hs : Sized m) (hw : Ints w Q vw l) (hwl : l.length ≤ maxLen) :
    Calls Try.prog 16 #[v, vw] w fun e w' => e = .returned (.bool (A.accepts m l)) ∧ Frm (fun _ => False) w w' := by
  obtain ⟨A1, c1, A2, c2, rfl, bx⟩ := mach_box h
  have F0 : Frm (fun _ => False) w (w.alloc (.cells #[.int .i64 m.letters, .int .i64 m.start, .slice A1 m.next.length c1, .slice A2 m.fin.length c2] 25)) := (Frm.refl _ w).alloc _
  have HM := Lib.hid (h.keep0 F0)
  have HF0 := Lib.hid F0
  have BX := Lib.hid bx
  obtain ⟨AW, cw, rfl, hW⟩ := hw
  have HW := Lib.hid hW
  have HSZ := Lib.hid hs
  have y0 := bx.cell 0
  have y1 := bx.cell 1
  have y2 := bx.cell 2
  have y3 := bx.cell 3
  have HX : Hid (A.accepts m l = if A.valid m = 0 then (match A.from_ m m.start l with | none => false | some s => A.ends m s) else false) := rfl
  unfold maxLen at hwl
  clear h F0 bx hW hs
  go_enter Try.func16, Try.ntmps16
  go_wp2_with fail
  refine (valid_any HM.out HSZ.out).mono ?_
  rintro _ w1 ⟨rfl, f1⟩
  have F1 := Lib.hid (HF0.out.trans f1)
  have BX1 := Lib.hid (f1.blk BX.out id)
  have HM1 := Lib.hid (HM.out.keep0 f1)
  have x1 := BX1.out.cell 1
  clear f1 y0 y1 y2 y3
  by_cases hv : A.valid m = 0
  · have HY : Hid (A.accepts m l = match A.from_ m m.start l with | none => false | some s => A.ends m s) := show _ = _ by rw [HX.out, if_pos hv]
    have fits := (A.valid_fits hv).1
    have HFI := Lib.hid fits
    rw [hv]
    clear hv
    go_wp2_with fail
    go_loopg [5, 15] (l.length + 1) (fun n st i wr => ∃ (k : Nat) (s : Int), k ≤ l.length ∧ n = l.length + 1 - k ∧ st = .int .i64 s ∧ i = .int .i64 (k : Int) ∧ A.In m s ∧ Hid (A.from_ m m.start l = A.from_ m s (l.drop k)) ∧ Hid (Blk wr w.heap.size 25 #[.int .i64 m.letters, .int .i64 m.start, .slice A1 m.next.length c1, .slice A2 m.fin.length c2]) ∧ Hid (MachAt wr P (.agg #[.int .i64 m.letters, .int .i64 m.start, .slice A1 m.next.length c1, .slice A2 m.fin.length c2]) m) ∧ Hid (Frm (fun _ => False) w wr))
    case atStart => exact ⟨0, m.start, Nat.zero_le _, rfl, rfl, rfl, HFI.out.start, rfl, BX1, HM1, F1⟩
    case round =>
      obtain ⟨k, s, hk, rfl, rfl, rfl, hin, HK, X, M, F⟩ := hrel
      have z0 := X.out.cell 0
      have z1 := X.out.cell 1
      have z2 := X.out.cell 2
      have z3 := X.out.cell 3
      by_cases hlt : k < l.length
      · have hlt' : (k : Int) < (l.length : Int) := by omega
        obtain ⟨g, o, hA, _, hc⟩ := HW.out k hlt
        subst hA
        have hc' := F.out.cell id hc
        have HS : Hid (l.drop k = l[k] :: l.drop (k + 1)) := List.drop_eq_getElem_cons hlt
        generalize l[k] = x at *
        clear hc
        have HFR : Hid (A.from_ m s (x :: l.drop (k + 1)) = if 0 ≤ x ∧ x < m.letters then A.from_ m (A.lead m s x) (l.drop (k + 1)) else none) := rfl
        by_cases b1 : x < 0
        · have HZ : Hid (A.accepts m l = false) := show _ = _ by rw [HY.out, HK.out, HS.out, HFR.out, if_neg (by omega)]
          go_wp2_with fail
          go_ret
          exact ⟨ret_bool HZ.out.symm, by first | exact F.out | exact F.out.drew⟩
        by_cases b2 : m.letters ≤ x
        · have b1' : 0 ≤ x := by omega
          have HZ : Hid (A.accepts m l = false) := show _ = _ by rw [HY.out, HK.out, HS.out, HFR.out, if_neg (by omega)]
          go_wp2_with fail
          go_ret
          exact ⟨ret_bool HZ.out.symm, by first | exact F.out | exact F.out.drew⟩
        have b1' : 0 ≤ x := by omega
        have b2' : x < m.letters := by omega
        have HK2 : Hid (A.from_ m m.start l = A.from_ m (A.lead m s x) (l.drop (k + 1))) := show _ = _ by rw [HK.out, HS.out, HFR.out, if_pos ⟨b1', b2'⟩]
        go_wp2_with fail
        refine (lead_any M.out HFI.out s x hin b1' b2').mono ?_
        rintro _ w2 ⟨rfl, f2⟩
        have F2 := Lib.hid (F.out.trans f2)
        have X2 := Lib.hid (f2.blk X.out id)
        have M2 := Lib.hid (M.out.keep0 f2)
        have hin2 := HFI.out.lead hin b1' b2'
        clear f2 z0 z1 z2 z3
        go_wp2_with fail
        go_roundg (l.length + 1 - (k + 1))
        case measure => omega
        case rel => exact ⟨k + 1, _, by omega, rfl, rfl, by go_num, hin2, HK2, X2, M2, F2⟩
      · have hlt' : ¬ (k : Int) < (l.length : Int) := by omega
        have HZ : Hid (A.accepts m l = A.ends m s) := show _ = _ by rw [HY.out, HK.out, List.drop_of_length_le (by omega)]; rfl
        go_wp2_with fail
        refine (ends_any M.out HFI.out s hin).mono ?_
        rintro _ w2 ⟨rfl, f2⟩
        have F2 := Lib.hid (F.out.trans f2)
        clear f2
        go_wp2_with fail
        go_ret
        exact ⟨ret_bool HZ.out.symm, F2.out⟩
  · have hb : (A.valid m != 0) = true := by rw [bne_iff_ne]; exact hv
    have HY : Hid (A.accepts m l = false) := show _ = _ by rw [HX.out, if_neg hv]
    clear hv
    go_wp2_with fail
    go_ret
    exact ⟨ret_bool HY.out.symm, F1.out⟩
end Go.Proofs.Ytldmjpnldgekaaa
end
section
namespace Go.Proofs.Ytldmjpnldgekaaa
open Go.RowKit
def pairV (p : A.Pr) : Value := .agg #[.int .i64 p.1, .int .i64 p.2]
def macV (m : A.Mac) (A1 : Option Addr) (c1 : Nat) (A2 : Option Addr) (c2 : Nat) : Value := .agg #[.int .i64 m.letters, .int .i64 m.start, .slice A1 m.next.length c1, .slice A2 m.fin.length c2]
def macC (m : A.Mac) (A1 : Option Addr) (c1 : Nat) (A2 : Option Addr) (c2 : Nat) : Array Value := #[.int .i64 m.letters, .int .i64 m.start, .slice A1 m.next.length c1, .slice A2 m.fin.length c2]
set_option maxRecDepth 100000 in
set_option maxHeartbeats 2000000 in
theorem fit_any {w : World} {P Q : Nat → Prop} {v v' : Value} {a b : A.Mac} (h : MachAt w P v a) (h' : MachAt w Q v' b) (hs : Sized a) (hs' : Sized b) :
    Calls Try.prog 33 #[v, v'] w fun e w' => e = .returned (.int .i64 (A.fit a b)) ∧ Frm (fun _ => False) w w' := by
  obtain ⟨A1, c1, A2, c2, rfl⟩ := h.form
  obtain ⟨B1, d1, B2, d2, rfl⟩ := h'.form
  have F0 : Frm (fun _ => False) w ((w.alloc (.cells (macC a A1 c1 A2 c2) 25)).alloc (.cells (macC b B1 d1 B2 d2) 25)) := ((Frm.refl _ w).alloc _).alloc _
  have bx := (Blk.new w 25 (macC a A1 c1 A2 c2)).alloc (.cells (macC b B1 d1 B2 d2) 25)
  have by' := blk_at (w := w.alloc (.cells (macC a A1 c1 A2 c2) 25)) (t := 25) (cs := macC b B1 d1 B2 d2) (n := w.heap.size + 1) (by simp)
  have HM := Lib.hid (h.keep0 F0)
  have HM' := Lib.hid (h'.keep0 F0)
  have HF0 := Lib.hid F0
  have BX := Lib.hid bx
  have BY := Lib.hid by'
  have HSZ := Lib.hid (And.intro hs hs')
  have x0 := bx.cell 0
  have x1 := bx.cell 1
  have x2 := bx.cell 2
  have x3 := bx.cell 3
  have y0 := by'.cell 0
  have y1 := by'.cell 1
  have y2 := by'.cell 2
  have y3 := by'.cell 3
  have HX : Hid (A.fit a b = if A.valid a = 0 ∧ A.valid b = 0 then (if a.letters = b.letters then 0 else 4) else 1) := rfl
  simp only [macC] at x0 x1 x2 x3 y0 y1 y2 y3
  clear h h' F0 bx by' hs hs'
  go_enter Try.func33, Try.ntmps33
  go_wp2_with fail
  refine (valid_any (by exact HM.out) HSZ.out.1).mono ?_
  rintro _ w1 ⟨rfl, f1⟩
  have F1 := Lib.hid (HF0.out.trans f1)
  have BX1 := Lib.hid (f1.blk BX.out id)
  have BY1 := Lib.hid (f1.blk BY.out id)
  have HM1 := Lib.hid (HM'.out.keep0 f1)
  have z0 := BY1.out.cell 0
  have z1 := BY1.out.cell 1
  have z2 := BY1.out.cell 2
  have z3 := BY1.out.cell 3
  simp only [macC] at z0 z1 z2 z3
  clear f1 x0 x1 x2 x3 y0 y1 y2 y3
  by_cases hv : A.valid a = 0
  · rw [hv]
    go_wp2_with fail
    refine (valid_any (by exact HM1.out) HSZ.out.2).mono ?_
    rintro _ w2 ⟨rfl, f2⟩
    have F2 := Lib.hid (F1.out.trans f2)
    have a0 := (f2.blk BX1.out id).cell 0
    have b0 := (f2.blk BY1.out id).cell 0
    simp only [macC] at a0 b0
    clear f2 z0 z1 z2 z3
    by_cases hv' : A.valid b = 0
    · rw [hv']
      by_cases hl : a.letters = b.letters
      · have HY : Hid (A.fit a b = 0) := show _ = _ by rw [HX.out, if_pos ⟨hv, hv'⟩, if_pos hl]
        have hb : (a.letters != b.letters) = false := by rw [hl]; simp
        clear hv hv' hl
        go_wp2_with fail
        go_ret
        exact ⟨ret_int HY.out.symm, by first | exact F2.out | exact F2.out.drew⟩
      · have HY : Hid (A.fit a b = 4) := show _ = _ by rw [HX.out, if_pos ⟨hv, hv'⟩, if_neg hl]
        have hb : (a.letters != b.letters) = true := by rw [bne_iff_ne]; exact hl
        clear hv hv' hl
        go_wp2_with fail
        go_ret
        exact ⟨ret_int HY.out.symm, by first | exact F2.out | exact F2.out.drew⟩
    · have hb : (A.valid b != 0) = true := by rw [bne_iff_ne]; exact hv'
      have HY : Hid (A.fit a b = 1) := show _ = _ by rw [HX.out, if_neg (fun h => hv' h.2)]
      clear hv hv'
      go_wp2_with fail
      go_ret
      exact ⟨ret_int HY.out.symm, F2.out⟩
  · have hb : (A.valid a != 0) = true := by rw [bne_iff_ne]; exact hv
    have HY : Hid (A.fit a b = 1) := show _ = _ by rw [HX.out, if_neg (fun h => hv h.1)]
    clear hv
    go_wp2_with fail
    go_ret
    exact ⟨ret_int HY.out.symm, F1.out⟩
set_option maxHeartbeats 1000000 in
theorem nowhere_any (w : World) : Calls Try.prog 36 #[] w fun e w' => e = .returned (pairV (-1, -1)) ∧ Frm (fun _ => False) w w' := by
  go_enter Try.func36, Try.ntmps36
  go_wp2_with fail
  refine bodyPost_ret (v := pairV (-1, -1)) (by simp [results, Try.results36, go_sem, pairV]) rfl ⟨rfl, (Frm.refl _ w).alloc _⟩
set_option maxRecDepth 100000 in
set_option maxHeartbeats 2000000 in
theorem starts_any {w : World} {P Q : Nat → Prop} {v v' : Value} {a b : A.Mac} (h : MachAt w P v a) (h' : MachAt w Q v' b) :
    Calls Try.prog 35 #[v, v'] w fun e w' => e = .returned (pairV (a.start, b.start)) ∧ Frm (fun _ => False) w w' := by
  obtain ⟨A1, c1, A2, c2, rfl⟩ := h.form
  obtain ⟨B1, d1, B2, d2, rfl⟩ := h'.form
  have x1 := ((Blk.new w 25 (macC a A1 c1 A2 c2)).alloc (.cells (macC b B1 d1 B2 d2) 25)).cell 1
  have y1 := (blk_at (w := w.alloc (.cells (macC a A1 c1 A2 c2) 25)) (t := 25) (cs := macC b B1 d1 B2 d2) (n := w.heap.size + 1) (by simp)).cell 1
  have HF0 : Hid (Frm (fun _ => False) w ((w.alloc (.cells (macC a A1 c1 A2 c2) 25)).alloc (.cells (macC b B1 d1 B2 d2) 25))) := ((Frm.refl _ w).alloc _).alloc _
  simp only [macC] at x1 y1
  clear h h'
  go_enter Try.func35, Try.ntmps35
  go_wp2_with fail
  refine bodyPost_ret (v := pairV (a.start, b.start)) (by simp [results, Try.results35, go_sem, pairV]) rfl ⟨rfl, ?_⟩
  exact HF0.out.alloc _
/-- What a cell holds, whatever it is. -/
def held (w : World) (a : Addr) : Value := (w.cell? a).getD .nilFunc
/-- A result's block of two cells, whatever they hold. -/
def Res2 (w : World) (r : Nat) : Prop := ∃ x y, Blk w r 57 #[x, y]
theorem Res2.facts {w : World} {r : Nat} (h : Res2 w r) : w.cell? ⟨r, 0, none⟩ = some (held w ⟨r, 0, none⟩) ∧ w.cell? ⟨r, 1, none⟩ = some (held w ⟨r, 1, none⟩) ∧ w.frozen? ⟨r, 0, none⟩ = false ∧ w.frozen? ⟨r, 1, none⟩ = false := by
  obtain ⟨x, y, h⟩ := h
  have h0 : w.cell? ⟨r, 0, none⟩ = some x := h.cell 0
  have h1 : w.cell? ⟨r, 1, none⟩ = some y := h.cell 1
  exact ⟨by rw [held, h0]; rfl, by rw [held, h1]; rfl, h.frozen 0, h.frozen 1⟩
theorem Res2.call {w w' : World} {r : Nat} (h : Res2 w r) (F : Frm (fun _ => False) w w') : Res2 w' r := by
  obtain ⟨x, y, h⟩ := h
  exact ⟨x, y, F.blk h id⟩
theorem Res2.set_ {w : World} {r : Nat} (h : Res2 w r) (u v : Value) : Res2 ((w.setCell ⟨r, 0, none⟩ u).setCell ⟨r, 1, none⟩ v) r := by
  obtain ⟨x, y, h⟩ := h
  exact ⟨_, _, (h.set_ 0 u).set_ 1 v⟩
theorem Frm.set2 {w : World} (r : Nat) (u v : Value) : Frm (· = r) w ((w.setCell ⟨r, 0, none⟩ u).setCell ⟨r, 1, none⟩ v) := ((Frm.refl (· = r) w).set_ (p := ⟨r, 0, none⟩) (fun _ => rfl) u).set_ (p := ⟨r, 1, none⟩) (fun _ => rfl) v
set_option maxRecDepth 100000 in
set_option maxHeartbeats 2000000 in
theorem leadPair_any {w : World} {P Q : Nat → Prop} {v v' : Value} {a b : A.Mac} (h : MachAt w P v a) (h' : MachAt w Q v' b) (ht : A.Two a b) (p : A.Pr) (k : Int) (hp : A.InP a b p) (h0 : 0 ≤ k) (hk : k < a.letters) :
    Calls Try.prog 39 #[v, v', pairV p, .int .i64 k] w fun e w' => e = .returned (pairV (A.leadP a b p k)) ∧ Frm (fun _ => False) w w' := by
  obtain ⟨p1, p2⟩ := p
  obtain ⟨A1, c1, A2, c2, rfl⟩ := h.form
  obtain ⟨B1, d1, B2, d2, rfl⟩ := h'.form
  have HM := Lib.hid h
  have HM' := Lib.hid h'
  have HFA := Lib.hid ht.fa
  have HFB := Lib.hid ht.fb
  have HPA := Lib.hid hp.1
  have HPB := Lib.hid hp.2
  have hk' : k < b.letters := by rw [← ht.ll]; exact hk
  clear h h' ht hp
  simp only [pairV]
  go_enter Try.func39, Try.ntmps39
  go_wp2_with fail
  obtain ⟨W, hW⟩ : ∃ W, W = (((w.alloc (.cells (macC a A1 c1 A2 c2) 25)).alloc (.cells (macC b B1 d1 B2 d2) 25)).alloc (.cells #[.int .i64 p1, .int .i64 p2] 57)).alloc (.cells #[.int .i64 0, .int .i64 0] 57) := ⟨_, rfl⟩
  have F0 : Frm (fun _ => False) w W := by rw [hW]; exact ((((Frm.refl _ w).alloc _).alloc _).alloc _).alloc _
  have b1 : Blk W w.heap.size 25 (macC a A1 c1 A2 c2) := by rw [hW]; exact (((Blk.new w _ _).alloc _).alloc _).alloc _
  have b2 : Blk W (w.heap.size + 1) 25 (macC b B1 d1 B2 d2) := by rw [hW]; exact ((blk_at (by simp)).alloc _).alloc _
  have b3 : Blk W (w.heap.size + 1 + 1) 57 #[.int .i64 p1, .int .i64 p2] := by rw [hW]; exact (blk_at (by simp)).alloc _
  have HMW := Lib.hid (HM.out.keep0 F0)
  have HMW' := Lib.hid (HM'.out.keep0 F0)
  have b4 : Blk W (w.heap.size + 1 + 1 + 1) 57 #[.int .i64 0, .int .i64 0] := by rw [hW]; exact blk_at (by simp)
  have e0 := b1.cell 0
  have e1 := b1.cell 1
  have e2 := b1.cell 2
  have e3 := b1.cell 3
  have g0 := b2.cell 0
  have g1 := b2.cell 1
  have g2 := b2.cell 2
  have g3 := b2.cell 3
  have q0 := b3.cell 0
  have q1 := b3.cell 1
  have HF0 := Lib.hid F0
  simp only [macC] at e0 e1 e2 e3 g0 g1 g2 g3
  rw [show (((w.alloc (.cells #[.int .i64 a.letters, .int .i64 a.start, .slice A1 a.next.length c1, .slice A2 a.fin.length c2] 25)).alloc (.cells #[.int .i64 b.letters, .int .i64 b.start, .slice B1 b.next.length d1, .slice B2 b.fin.length d2] 25)).alloc (.cells #[.int .i64 p1, .int .i64 p2] 57)).alloc (.cells #[.int .i64 0, .int .i64 0] 57) = W from hW.symm]
  clear hW b1 b2 b3 F0
  have r4 : Res2 W (w.heap.size + 1 + 1 + 1) := ⟨_, _, b4⟩
  go_region_held3 (fun w' => w'.cell? ⟨w.heap.size, 0, none⟩ = some (.int .i64 a.letters) ∧ w'.cell? ⟨w.heap.size, 1, none⟩ = some (.int .i64 a.start) ∧ w'.cell? ⟨w.heap.size, 2, none⟩ = some (.slice A1 a.next.length c1) ∧ w'.cell? ⟨w.heap.size, 3, none⟩ = some (.slice A2 a.fin.length c2) ∧ w'.cell? ⟨w.heap.size + 1, 0, none⟩ = some (.int .i64 b.letters) ∧ w'.cell? ⟨w.heap.size + 1, 1, none⟩ = some (.int .i64 b.start) ∧ w'.cell? ⟨w.heap.size + 1, 2, none⟩ = some (.slice B1 b.next.length d1) ∧ w'.cell? ⟨w.heap.size + 1, 3, none⟩ = some (.slice B2 b.fin.length d2) ∧ w'.cell? ⟨w.heap.size + 1 + 1, 0, none⟩ = some (.int .i64 p1) ∧ w'.cell? ⟨w.heap.size + 1 + 1, 1, none⟩ = some (.int .i64 p2) ∧ w'.cell? ⟨w.heap.size + 1 + 1 + 1, 0, none⟩ = some (held w' ⟨w.heap.size + 1 + 1 + 1, 0, none⟩) ∧ w'.cell? ⟨w.heap.size + 1 + 1 + 1, 1, none⟩ = some (held w' ⟨w.heap.size + 1 + 1 + 1, 1, none⟩) ∧ w'.frozen? ⟨w.heap.size + 1 + 1 + 1, 0, none⟩ = false ∧ w'.frozen? ⟨w.heap.size + 1 + 1 + 1, 1, none⟩ = false ∧ Res2 w' (w.heap.size + 1 + 1 + 1) ∧ Frm (· = w.heap.size + 1 + 1 + 1) W w')
    (first | exact ⟨e0, e1, e2, e3, g0, g1, g2, g3, q0, q1, (r4).facts.1, (r4).facts.2.1, (r4).facts.2.2.1, (r4).facts.2.2.2, r4, Frm.refl _ _⟩ | exact ⟨e0, e1, e2, e3, g0, g1, g2, g3, q0, q1, ((r4.call (Frm.refl _ W).drew)).facts.1, ((r4.call (Frm.refl _ W).drew)).facts.2.1, ((r4.call (Frm.refl _ W).drew)).facts.2.2.1, ((r4.call (Frm.refl _ W).drew)).facts.2.2.2, (r4.call (Frm.refl _ W).drew), (Frm.refl _ _).drew⟩ | (go_split_ands; exact ⟨Frm.cell (by assumption) id (by assumption), Frm.cell (by assumption) id (by assumption), Frm.cell (by assumption) id (by assumption), Frm.cell (by assumption) id (by assumption), Frm.cell (by assumption) id (by assumption), Frm.cell (by assumption) id (by assumption), Frm.cell (by assumption) id (by assumption), Frm.cell (by assumption) id (by assumption), Frm.cell (by assumption) id (by assumption), Frm.cell (by assumption) id (by assumption), ((Res2.call (w' := _) (by assumption) (by assumption))).facts.1, ((Res2.call (w' := _) (by assumption) (by assumption))).facts.2.1, ((Res2.call (w' := _) (by assumption) (by assumption))).facts.2.2.1, ((Res2.call (w' := _) (by assumption) (by assumption))).facts.2.2.2, (Res2.call (w' := _) (by assumption) (by assumption)), Frm.trans (by assumption) (Frm.mono (E := fun _ => False) (by assumption) fun _ _ h => h.elim)⟩) | (go_split_ands; exact ⟨Frm.cell (Frm.set2 (w.heap.size + 1 + 1 + 1) _ _) (by dsimp only; omega) (by assumption), Frm.cell (Frm.set2 (w.heap.size + 1 + 1 + 1) _ _) (by dsimp only; omega) (by assumption), Frm.cell (Frm.set2 (w.heap.size + 1 + 1 + 1) _ _) (by dsimp only; omega) (by assumption), Frm.cell (Frm.set2 (w.heap.size + 1 + 1 + 1) _ _) (by dsimp only; omega) (by assumption), Frm.cell (Frm.set2 (w.heap.size + 1 + 1 + 1) _ _) (by dsimp only; omega) (by assumption), Frm.cell (Frm.set2 (w.heap.size + 1 + 1 + 1) _ _) (by dsimp only; omega) (by assumption), Frm.cell (Frm.set2 (w.heap.size + 1 + 1 + 1) _ _) (by dsimp only; omega) (by assumption), Frm.cell (Frm.set2 (w.heap.size + 1 + 1 + 1) _ _) (by dsimp only; omega) (by assumption), Frm.cell (Frm.set2 (w.heap.size + 1 + 1 + 1) _ _) (by dsimp only; omega) (by assumption), Frm.cell (Frm.set2 (w.heap.size + 1 + 1 + 1) _ _) (by dsimp only; omega) (by assumption), ((Res2.set_ (by assumption) _ _)).facts.1, ((Res2.set_ (by assumption) _ _)).facts.2.1, ((Res2.set_ (by assumption) _ _)).facts.2.2.1, ((Res2.set_ (by assumption) _ _)).facts.2.2.2, (Res2.set_ (by assumption) _ _), Frm.trans (by assumption) (Frm.set2 _ _ _)⟩))
    (first | (go_at_call_of 29 (Value.int IntKind.i64 p1); obtain ⟨-, -, -, -, -, -, -, -, -, -, -, -, -, -, -, hFx⟩ := ‹_ ∧ _ ∧ _ ∧ _ ∧ _ ∧ _ ∧ _ ∧ _ ∧ _ ∧ _ ∧ _ ∧ _ ∧ _ ∧ _ ∧ _ ∧ Frm (· = w.heap.size + 1 + 1 + 1) W _›; have hFy := Frm.mono (E' := fun _ => False) (Frm.trans (E := (· = w.heap.size + 1 + 1 + 1)) (HF0.out.mono fun _ _ h => h.elim) hFx) (fun b hb h => by omega); refine (lead_any (HM.out.keep0 hFy) HFA.out p1 k HPA.out h0 hk).mono ?_; clear hFx hFy; rintro e w3 ⟨rfl, f3⟩)
           | (go_at_call_of 29 (Value.int IntKind.i64 p2); obtain ⟨-, -, -, -, -, -, -, -, -, -, -, -, -, -, -, hFx⟩ := ‹_ ∧ _ ∧ _ ∧ _ ∧ _ ∧ _ ∧ _ ∧ _ ∧ _ ∧ _ ∧ _ ∧ _ ∧ _ ∧ _ ∧ _ ∧ Frm (· = w.heap.size + 1 + 1 + 1) W _›; have hFy := Frm.mono (E' := fun _ => False) (Frm.trans (E := (· = w.heap.size + 1 + 1 + 1)) (HF0.out.mono fun _ _ h => h.elim) hFx) (fun b hb h => by omega); refine (lead_any (HM'.out.keep0 hFy) HFB.out p2 k HPB.out h0 hk').mono ?_; clear hFx hFy; rintro e w3 ⟨rfl, f3⟩))
  have hW3 : Frm (fun _ => False) W w3 := Frm.trans (Frm.refl _ W).drew (Frm.trans (by assumption) f3)
  have hB := hW3.blk b4 id
  have hfr : Frm (fun _ => False) w ((w3.setCell ⟨w.heap.size + 1 + 1 + 1, 0, none⟩ (.int .i64 (A.lead a p1 k))).setCell ⟨w.heap.size + 1 + 1 + 1, 1, none⟩ (.int .i64 (A.lead b p2 k))) := Frm.mono (E := (· = w.heap.size + 1 + 1 + 1)) ((HF0.out.mono fun _ _ h => h.elim).trans ((hW3.mono fun _ _ h => h.elim).trans (Frm.set2 _ _ _))) fun b hb h => by omega
  have hb2 : Blk ((w3.setCell ⟨w.heap.size + 1 + 1 + 1, 0, none⟩ (.int .i64 (A.lead a p1 k))).setCell ⟨w.heap.size + 1 + 1 + 1, 1, none⟩ (.int .i64 (A.lead b p2 k))) (w.heap.size + 1 + 1 + 1) 57 #[.int .i64 (A.lead a p1 k), .int .i64 (A.lead b p2 k)] := (hB.set_ 0 _).set_ 1 _
  have d0 := hb2.cell 0
  have d1 := hb2.cell 1
  have HFR := Lib.hid hfr
  clear hfr hb2 hW3 hB e0 e1 e2 e3 g0 g1 g2 g3 q0 q1 b4 r4
  go_wp2_with fail
  refine bodyPost_ret (v := pairV (A.leadP a b (p1, p2) k)) (by simp [results, Try.results39, go_sem, pairV, A.leadP, d0, d1]) rfl ⟨rfl, HFR.out⟩
end Go.Proofs.Ytldmjpnldgekaaa
end
section
namespace Go.Proofs.Ytldmjpnldgekaaa
open Go.RowKit
set_option maxRecDepth 100000 in
set_option maxHeartbeats 2000000 in
theorem agree_any {w : World} {P Q : Nat → Prop} {v v' : Value} {a b : A.Mac} (h : MachAt w P v a) (h' : MachAt w Q v' b) (ht : A.Two a b) (p : A.Pr) (hp : A.InP a b p) :
    Calls Try.prog 57 #[v, v', pairV p] w fun e w' => e = .returned (.bool (A.agree a b p)) ∧ Frm (fun _ => False) w w' := by
  obtain ⟨p1, p2⟩ := p
  obtain ⟨A1, c1, A2, c2, rfl⟩ := h.form
  obtain ⟨B1, d1, B2, d2, rfl⟩ := h'.form
  have HM := Lib.hid h
  have HM' := Lib.hid h'
  have HFA := Lib.hid ht.fa
  have HFB := Lib.hid ht.fb
  have HPA := Lib.hid hp.1
  have HPB := Lib.hid hp.2
  clear h h' ht hp
  simp only [pairV]
  go_enter Try.func57, Try.ntmps57
  go_wp2_with fail
  obtain ⟨W, hW⟩ : ∃ W, W = ((w.alloc (.cells (macC a A1 c1 A2 c2) 25)).alloc (.cells (macC b B1 d1 B2 d2) 25)).alloc (.cells #[.int .i64 p1, .int .i64 p2] 57) := ⟨_, rfl⟩
  have F0 : Frm (fun _ => False) w W := by rw [hW]; exact (((Frm.refl _ w).alloc _).alloc _).alloc _
  have b1 : Blk W w.heap.size 25 (macC a A1 c1 A2 c2) := by rw [hW]; exact ((Blk.new w _ _).alloc _).alloc _
  have b2 : Blk W (w.heap.size + 1) 25 (macC b B1 d1 B2 d2) := by rw [hW]; exact (blk_at (by simp)).alloc _
  have b3 : Blk W (w.heap.size + 1 + 1) 57 #[.int .i64 p1, .int .i64 p2] := by rw [hW]; exact blk_at (by simp)
  have HMW := Lib.hid (HM.out.keep0 F0)
  have HMW' := Lib.hid (HM'.out.keep0 F0)
  have e0 := b1.cell 0
  have e1 := b1.cell 1
  have e2 := b1.cell 2
  have e3 := b1.cell 3
  have g0 := b2.cell 0
  have g1 := b2.cell 1
  have g2 := b2.cell 2
  have g3 := b2.cell 3
  have q0 := b3.cell 0
  have q1 := b3.cell 1
  have HF0 := Lib.hid F0
  simp only [macC] at e0 e1 e2 e3 g0 g1 g2 g3
  rw [show ((w.alloc (.cells #[.int .i64 a.letters, .int .i64 a.start, .slice A1 a.next.length c1, .slice A2 a.fin.length c2] 25)).alloc (.cells #[.int .i64 b.letters, .int .i64 b.start, .slice B1 b.next.length d1, .slice B2 b.fin.length d2] 25)).alloc (.cells #[.int .i64 p1, .int .i64 p2] 57) = W from hW.symm]
  clear hW b1 b2 b3 F0
  go_region_held3 (fun w' => w'.cell? ⟨w.heap.size, 0, none⟩ = some (.int .i64 a.letters) ∧ w'.cell? ⟨w.heap.size, 1, none⟩ = some (.int .i64 a.start) ∧ w'.cell? ⟨w.heap.size, 2, none⟩ = some (.slice A1 a.next.length c1) ∧ w'.cell? ⟨w.heap.size, 3, none⟩ = some (.slice A2 a.fin.length c2) ∧ w'.cell? ⟨w.heap.size + 1, 0, none⟩ = some (.int .i64 b.letters) ∧ w'.cell? ⟨w.heap.size + 1, 1, none⟩ = some (.int .i64 b.start) ∧ w'.cell? ⟨w.heap.size + 1, 2, none⟩ = some (.slice B1 b.next.length d1) ∧ w'.cell? ⟨w.heap.size + 1, 3, none⟩ = some (.slice B2 b.fin.length d2) ∧ w'.cell? ⟨w.heap.size + 1 + 1, 0, none⟩ = some (.int .i64 p1) ∧ w'.cell? ⟨w.heap.size + 1 + 1, 1, none⟩ = some (.int .i64 p2) ∧ Frm (fun _ => False) W w')
    (first | exact ⟨e0, e1, e2, e3, g0, g1, g2, g3, q0, q1, Frm.refl _ _⟩ | exact ⟨e0, e1, e2, e3, g0, g1, g2, g3, q0, q1, (Frm.refl _ _).drew⟩ | (go_split_ands; exact ⟨Frm.cell (by assumption) id (by assumption), Frm.cell (by assumption) id (by assumption), Frm.cell (by assumption) id (by assumption), Frm.cell (by assumption) id (by assumption), Frm.cell (by assumption) id (by assumption), Frm.cell (by assumption) id (by assumption), Frm.cell (by assumption) id (by assumption), Frm.cell (by assumption) id (by assumption), Frm.cell (by assumption) id (by assumption), Frm.cell (by assumption) id (by assumption), Frm.trans (by assumption) (by assumption)⟩))
    (first | (go_at_call_of 30 (Value.int IntKind.i64 p1); obtain ⟨-, -, -, -, -, -, -, -, -, -, hFx⟩ := ‹_ ∧ _ ∧ _ ∧ _ ∧ _ ∧ _ ∧ _ ∧ _ ∧ _ ∧ _ ∧ Frm (fun _ => False) W _›; refine (ends_any (HMW.out.keep0 hFx) HFA.out p1 HPA.out).mono ?_; clear hFx; rintro e w3 ⟨rfl, f3⟩) | (go_at_call_of 30 (Value.int IntKind.i64 p2); obtain ⟨-, -, -, -, -, -, -, -, -, -, hFx⟩ := ‹_ ∧ _ ∧ _ ∧ _ ∧ _ ∧ _ ∧ _ ∧ _ ∧ _ ∧ _ ∧ Frm (fun _ => False) W _›; refine (ends_any (HMW'.out.keep0 hFx) HFB.out p2 HPB.out).mono ?_; clear hFx; rintro e w3 ⟨rfl, f3⟩))
  have hW3 : Frm (fun _ => False) W w3 := Frm.trans (Frm.refl _ W).drew (Frm.trans (by assumption) f3)
  have HFR := Lib.hid (HF0.out.trans hW3)
  clear hW3 e0 e1 e2 e3 g0 g1 g2 g3 q0 q1
  go_wp2_with fail
  go_ret
  exact ⟨rfl, HFR.out⟩

set_option maxHeartbeats 1000000 in
theorem inOrder_any (w : World) (p q : A.Pr) (hp : -1 ≤ p.1 ∧ p.1 ≤ 100000 ∧ -1 ≤ p.2 ∧ p.2 ≤ 100000) (hq : -1 ≤ q.1 ∧ q.1 ≤ 100000 ∧ -1 ≤ q.2 ∧ q.2 ≤ 100000) :
    Calls Try.prog 41 #[pairV p, pairV q] w fun e w' => e = .returned (.int .i64 (A.ord p q)) ∧ Frm (fun _ => False) w w' := by
  obtain ⟨p1, p2⟩ := p
  obtain ⟨q1, q2⟩ := q
  dsimp only at hp hq
  obtain ⟨h1, h2, h3, h4⟩ := hp
  obtain ⟨h5, h6, h7, h8⟩ := hq
  have F0 : Hid (Frm (fun _ => False) w ((w.alloc (.cells #[.int .i64 p1, .int .i64 p2] 57)).alloc (.cells #[.int .i64 q1, .int .i64 q2] 57))) := ((Frm.refl _ w).alloc _).alloc _
  have x0 := ((Blk.new w 57 #[.int .i64 p1, .int .i64 p2]).alloc (.cells #[.int .i64 q1, .int .i64 q2] 57)).cell 0
  have x1 := ((Blk.new w 57 #[.int .i64 p1, .int .i64 p2]).alloc (.cells #[.int .i64 q1, .int .i64 q2] 57)).cell 1
  have by' := blk_at (w := w.alloc (.cells #[.int .i64 p1, .int .i64 p2] 57)) (t := 57) (cs := #[.int .i64 q1, .int .i64 q2]) (n := w.heap.size + 1) (by simp)
  have y0 := by'.cell 0
  have y1 := by'.cell 1
  have HX : Hid (A.ord (p1, p2) (q1, q2) = if p1 ≠ q1 then p1 - q1 else p2 - q2) := rfl
  clear by'
  simp only [pairV]
  by_cases h : p1 = q1
  · subst h
    have hb : (p1 != p1) = false := by simp
    go_enter Try.func41, Try.ntmps41
    go_wp2_with fail
    go_ret
    exact ⟨ret_int (by rw [HX.out]; simp), by first | exact F0.out | exact F0.out.drew | exact F0.out.drew.drew⟩
  · have hb : (p1 != q1) = true := by rw [bne_iff_ne]; exact h
    have HH := Lib.hid h
    clear h
    go_enter Try.func41, Try.ntmps41
    go_wp2_with fail
    go_ret
    exact ⟨ret_int (by rw [HX.out, if_pos HH.out]), by first | exact F0.out | exact F0.out.drew | exact F0.out.drew.drew⟩
end Go.Proofs.Ytldmjpnldgekaaa
end
section
namespace Go.Proofs.Ytldmjpnldgekaaa
open Go.RowKit
/-- A slice of pairs that reads as a list. -/
def Prs2 (w : World) (P : Nat → Prop) (v : Value) (l : List A.Pr) : Prop := ∃ A c, v = .slice A l.length c ∧ ∀ k (hk : k < l.length), ∃ g o, A = some ⟨g, o, none⟩ ∧ P g ∧ w.cell? ⟨g, o + k * 2, none⟩ = some (.int .i64 l[k].1) ∧ w.cell? ⟨g, o + k * 2 + 1, none⟩ = some (.int .i64 l[k].2)
theorem Prs2.keep {w w' : World} {P E : Nat → Prop} {v : Value} {l : List A.Pr} (h : Prs2 w P v l) (F : Frm E w w') (hE : ∀ b, P b → ¬ E b) : Prs2 w' P v l := by
  obtain ⟨A, c, e, h⟩ := h
  exact ⟨A, c, e, fun k hk => by obtain ⟨g, o, h1, h2, h3, h4⟩ := h k hk; exact ⟨g, o, h1, h2, F.cell (hE g h2) h3, F.cell (hE g h2) h4⟩⟩
set_option maxRecDepth 100000 in
set_option maxHeartbeats 4000000 in
theorem isRel_any {w : World} {P Q R : Nat → Prop} {v v' vl : Value} {a b : A.Mac} {l : List A.Pr} (h : MachAt w P v a) (h' : MachAt w Q v' b) (hl : Prs2 w R vl l) (ha : a.next.length ≤ 4000) (hb : b.next.length ≤ 4000) (hll : l.length ≤ maxLen) :
    Calls Try.prog 42 #[v, v', vl] w fun e w' => e = .returned (.bool (A.isRel a b l)) ∧ Frm (fun _ => False) w w' := by
  obtain ⟨A1, c1, A2, c2, rfl⟩ := h.form
  obtain ⟨B1, d1, B2, d2, rfl⟩ := h'.form
  obtain ⟨AL, cl, rfl, hL⟩ := hl
  have HL := Lib.hid hL
  unfold maxLen at hll
  clear h h' hL
  go_enter Try.func42, Try.ntmps42
  go_wp2_with fail
  refine (nowhere_any _).mono ?_
  rintro _ w1 ⟨rfl, f1⟩
  have F1 : Hid (Frm (fun _ => False) w w1) := Frm.trans (((Frm.refl _ w).alloc _).alloc _) f1
  have BX : Hid (Blk w1 w.heap.size 25 (macC a A1 c1 A2 c2)) := f1.blk ((Blk.new w _ _).alloc _) id
  have BY : Hid (Blk w1 (w.heap.size + 1) 25 (macC b B1 d1 B2 d2)) := f1.blk (blk_at (by simp)) id
  clear f1
  simp only [pairV]
  go_wp2_with fail
  go_loopg [13] (l.length + 1) (fun n i wr => ∃ (k : Nat) (last : A.Pr), k ≤ l.length ∧ n = l.length + 1 - k ∧ i = .int .i64 (k : Int) ∧ (-1 ≤ last.1 ∧ last.1 ≤ 100000 ∧ -1 ≤ last.2 ∧ last.2 ≤ 100000) ∧ Hid (A.isRel a b l = A.relFrom a b last (l.drop k)) ∧ Hid (Blk wr w1.heap.size 57 #[.int .i64 last.1, .int .i64 last.2]) ∧ Hid (Blk wr w.heap.size 25 (macC a A1 c1 A2 c2)) ∧ Hid (Blk wr (w.heap.size + 1) 25 (macC b B1 d1 B2 d2)) ∧ Hid (Frm (fun _ => False) w wr))
  case atStart => exact ⟨0, (-1, -1), Nat.zero_le _, rfl, rfl, by simp, rfl, Blk.new w1 _ _, BX.out.alloc _, BY.out.alloc _, F1.out.alloc _⟩
  case round =>
    obtain ⟨k, last, hk, rfl, rfl, hlast, HK, Z, X, Y, F⟩ := hrel
    by_cases hlt : k < l.length
    · have hlt' : (k : Int) < (l.length : Int) := by omega
      obtain ⟨g, o, hA, _, hc0, hc1⟩ := HL.out k hlt
      subst hA
      have c0 := F.out.cell id hc0
      have c1' := F.out.cell id hc1
      have HS : Hid (l.drop k = l[k] :: l.drop (k + 1)) := List.drop_eq_getElem_cons hlt
      generalize l[k] = p at *
      obtain ⟨p1, p2⟩ := p
      obtain ⟨l1, l2⟩ := last
      dsimp only at c0 c1' hlast
      obtain ⟨hl1, hl2, hl3, hl4⟩ := hlast
      have HFR : Hid (A.relFrom a b (l1, l2) ((p1, p2) :: l.drop (k + 1)) = (A.okPair a b (p1, p2) && (decide (A.ord (l1, l2) (p1, p2) < 0) && A.relFrom a b (p1, p2) (l.drop (k + 1))))) := rfl
      have HOK : Hid (A.okPair a b (p1, p2) = (decide (-1 ≤ p1) && (decide (p1 < a.next.length) && (decide (-1 ≤ p2) && decide (p2 < b.next.length))))) := rfl
      have pb := Blk.new wr 57 #[.int .i64 p1, .int .i64 p2]
      have q0 := pb.cell 0
      have q1 := pb.cell 1
      have x2 := (X.out.alloc (.cells #[.int .i64 p1, .int .i64 p2] 57)).cell 2
      have y2 := (Y.out.alloc (.cells #[.int .i64 p1, .int .i64 p2] 57)).cell 2
      have z0 := (Z.out.alloc (.cells #[.int .i64 p1, .int .i64 p2] 57)).cell 0
      have z1 := (Z.out.alloc (.cells #[.int .i64 p1, .int .i64 p2] 57)).cell 1
      have zf0 := (Z.out.alloc (.cells #[.int .i64 p1, .int .i64 p2] 57)).frozen 0
      have zf1 := (Z.out.alloc (.cells #[.int .i64 p1, .int .i64 p2] 57)).frozen 1
      have PB := Lib.hid pb
      simp only [macC] at x2 y2
      clear hc0 hc1 pb
      by_cases a1 : p1 < -1
      · have na1 : ¬ -1 ≤ p1 := by omega
        have HZ : Hid (A.isRel a b l = false) := show _ = _ by rw [HK.out, HS.out, HFR.out, HOK.out]; simp [na1]
        go_wp2_with fail
        go_ret
        exact ⟨ret_bool HZ.out.symm, by first | exact F.out.alloc _ | exact (F.out.alloc _).drew⟩
      by_cases a2 : (a.next.length : Int) ≤ p1
      · have na2 : ¬ p1 < (a.next.length : Int) := by omega
        have a1' : -1 ≤ p1 := by omega
        have HZ : Hid (A.isRel a b l = false) := show _ = _ by rw [HK.out, HS.out, HFR.out, HOK.out]; simp [na2]
        go_wp2_with fail
        go_ret
        exact ⟨ret_bool HZ.out.symm, by first | exact F.out.alloc _ | exact (F.out.alloc _).drew⟩
      by_cases a3 : p2 < -1
      · have na3 : ¬ -1 ≤ p2 := by omega
        have a1' : -1 ≤ p1 := by omega
        have a2' : p1 < (a.next.length : Int) := by omega
        have HZ : Hid (A.isRel a b l = false) := show _ = _ by rw [HK.out, HS.out, HFR.out, HOK.out]; simp [na3]
        go_wp2_with fail
        go_ret
        exact ⟨ret_bool HZ.out.symm, by first | exact F.out.alloc _ | exact (F.out.alloc _).drew⟩
      by_cases a4 : (b.next.length : Int) ≤ p2
      · have na4 : ¬ p2 < (b.next.length : Int) := by omega
        have a1' : -1 ≤ p1 := by omega
        have a2' : p1 < (a.next.length : Int) := by omega
        have a3' : -1 ≤ p2 := by omega
        have HZ : Hid (A.isRel a b l = false) := show _ = _ by rw [HK.out, HS.out, HFR.out, HOK.out]; simp [na4]
        go_wp2_with fail
        go_ret
        exact ⟨ret_bool HZ.out.symm, by first | exact F.out.alloc _ | exact (F.out.alloc _).drew⟩
      have a1' : -1 ≤ p1 := by omega
      have a2' : p1 < (a.next.length : Int) := by omega
      have a3' : -1 ≤ p2 := by omega
      have a4' : p2 < (b.next.length : Int) := by omega
      have HOK2 : Hid (A.okPair a b (p1, p2) = true) := show _ = _ by rw [HOK.out]; simp [a1', a2', a3', a4']
      go_wp2_with fail
      refine (inOrder_any _ (l1, l2) (p1, p2) ⟨hl1, hl2, hl3, hl4⟩ ⟨a1', by dsimp only; omega, a3', by dsimp only; omega⟩).mono ?_
      rintro _ w2 ⟨rfl, f2⟩
      have G2 := Lib.hid ((F.out.alloc (.cells #[.int .i64 p1, .int .i64 p2] 57)).trans f2)
      have Z2 := Lib.hid (f2.blk (Z.out.alloc _) id)
      have X2 := Lib.hid (f2.blk (X.out.alloc _) id)
      have Y2 := Lib.hid (f2.blk (Y.out.alloc _) id)
      have PB2 := Lib.hid (f2.blk PB.out id)
      have HLB : Hid (wr.heap.size ≤ w2.heap.size ∧ w1.heap.size < wr.heap.size) := ⟨by have := f2.1; simp at this; omega, Z.out.lt⟩
      clear f2 q0 q1 x2 y2 z0 z1 zf0 zf1
      have HFR2 : Hid (A.isRel a b l = (decide (A.ord (l1, l2) (p1, p2) < 0) && A.relFrom a b (p1, p2) (l.drop (k + 1)))) := show _ = _ by rw [HK.out, HS.out, HFR.out, HOK2.out]; rfl
      generalize A.ord (l1, l2) (p1, p2) = d at *
      by_cases hd : 0 ≤ d
      · have HZ : Hid (A.isRel a b l = false) := show _ = _ by rw [HFR2.out, decide_eq_false (by omega)]; rfl
        go_wp2_with fail
        go_ret
        exact ⟨ret_bool HZ.out.symm, G2.out⟩
      · have hd' : d < 0 := by omega
        have HK2 : Hid (A.isRel a b l = A.relFrom a b (p1, p2) (l.drop (k + 1))) := show _ = _ by rw [HFR2.out, decide_eq_true hd']; rfl
        have q0 := PB2.out.cell 0
        have q1 := PB2.out.cell 1
        have z0 := Z2.out.cell 0
        have z1 := Z2.out.cell 1
        have zf0 := Z2.out.frozen 0
        have zf1 := Z2.out.frozen 1
        go_wp2_with fail
        have hz := Z2.out.lt
        have hlb := HLB.out
        have hwl : w.heap.size ≤ w1.heap.size := F1.out.1
        have hx := X2.out.lt
        have hx1 := BX.out.lt
        have hy1 := BY.out.lt
        go_roundg (l.length + 1 - (k + 1))
        case measure => omega
        case rel =>
          have FS := Frm.set2 (w := w2) w1.heap.size (.int .i64 p1) (.int .i64 p2)
          refine ⟨k + 1, (p1, p2), by omega, rfl, by go_num, ⟨a1', by dsimp only; omega, a3', by dsimp only; omega⟩, HK2, ?_, ?_, ?_, ?_⟩
          · exact (Z2.out.set_ 0 _).set_ 1 _
          · exact FS.blk X2.out (by omega)
          · exact FS.blk Y2.out (by omega)
          · exact Frm.mono (E := (· = w1.heap.size)) ((G2.out.mono fun _ _ h => h.elim).trans FS) fun b hb h => by omega
    · have hlt' : ¬ (k : Int) < (l.length : Int) := by omega
      have HZ : Hid (A.isRel a b l = true) := show _ = _ by rw [HK.out, List.drop_of_length_le (by omega)]; rfl
      go_wp2_with fail
      go_ret
      exact ⟨ret_bool HZ.out.symm, F.out⟩
end Go.Proofs.Ytldmjpnldgekaaa
end
section
namespace Go.Proofs.Ytldmjpnldgekaaa
open Go.RowKit
/-- A row of ints as cells. -/
def intCs (l : List Int) : Array Value := (l.map fun x => Value.int .i64 x).toArray
theorem intCs_made (n : Nat) : madeCells #[.int .i64 0] n = intCs (List.replicate n 0) := by
  apply Array.toList_inj.1
  rw [toList_madeCells_one]
  simp [intCs]
theorem intCs_get {l : List Int} {i : Nat} (hi : i < l.length) : (intCs l)[i]? = some (.int .i64 l[i]) := by simp [intCs, hi]
theorem intCs_getD {l : List Int} {i : Nat} (hi : i < l.length) : (intCs l)[i]? = some (.int .i64 (l.getD i 0)) := by simp [intCs, hi]
theorem intCs_set (l : List Int) (i : Nat) (x : Int) : (intCs l).setIfInBounds i (.int .i64 x) = intCs (l.set i x) := by
  apply Array.toList_inj.1
  simp [intCs]
/-- What keeps joined states: a block with the number of states and the row, and the row's own block. -/
def Jn (w : World) (pb g : Nat) (s : Int) (l : List Int) : Prop := Blk w pb 119 #[.int .i64 s, .slice (some ⟨g, 0, none⟩) l.length l.length] ∧ Blk w g 3 (intCs l) ∧ pb ≠ g
theorem Frm.jn {E : Nat → Prop} {w w' : World} {pb g : Nat} {s : Int} {l : List Int} (F : Frm E w w') (h : Jn w pb g s l) (h1 : ¬ E pb) (h2 : ¬ E g) : Jn w' pb g s l := ⟨F.blk h.1 h1, F.blk h.2.1 h2, h.2.2⟩
theorem info_int : (Try.prog.info? 3).map (fun i => (i.zero, i.size, i.bytes)) = some (some (.int .i64 0), 1, 8) := by kernel_rfl
namespace A
/-- The first k numbers each by itself, the others 0. -/
def upTo (n k : Nat) : List Int := (List.range n).map fun i => if i < k then (i : Int) else 0
theorem upTo_zero (n : Nat) : upTo n 0 = List.replicate n 0 := by
  apply List.ext_getElem <;> simp [upTo]
theorem upTo_len (n k : Nat) : (upTo n k).length = n := by simp [upTo]
theorem upTo_set (n k : Nat) : (upTo n k).set k (k : Int) = upTo n (k + 1) := by
  apply List.ext_getElem
  · simp [upTo]
  · intro i h1 h2
    simp only [upTo, List.getElem_set, List.getElem_map, List.getElem_range]
    by_cases h : k = i
    · subst h; simp
    · by_cases h3 : i < k
      · rw [if_neg h, if_pos h3, if_pos (by omega)]
      · rw [if_neg h, if_neg h3, if_neg (by omega)]
end A
set_option maxRecDepth 100000 in
set_option maxHeartbeats 4000000 in
theorem newJoined_any (w : World) (a b : Nat) (ha : a ≤ 4000) (hb : b ≤ 4000) :
    Calls Try.prog 58 #[.int .i64 a, .int .i64 b] w fun e w' => e = .returned (.pointer (some ⟨w.heap.size + 1, 0, none⟩)) ∧ Jn w' (w.heap.size + 1) w.heap.size a (A.upTo (1 + a + b) (1 + a + b)) ∧ Frm (fun _ => False) w w' := by
  obtain ⟨N, hN⟩ : ∃ N, N = 1 + a + b := ⟨_, rfl⟩
  have hNb : N ≤ 8001 := by omega
  have hmk := run_make_row' (P := Try.prog) 37 3 (.int .i64 0) 8 Try.underlying37 info_int rfl .i64 .i64 N (by omega) (by omega)
  have hN' : Value.int .i64 (N : Int) = Value.int .i64 (1 + (a : Int) + b) := by rw [hN]; simp
  simp only [hN'] at hmk
  clear hN'
  rw [← hN]
  have HN := Lib.hid hN
  clear hN
  go_enter Try.func58, Try.ntmps58
  go_wp2_with fail
  rw [intCs_made]
  clear hmk
  go_wp2_with fail
  go_loopg [20] (N + 1) (fun n i wr => ∃ k : Nat, k ≤ N ∧ n = N + 1 - k ∧ i = .int .i64 (k : Int) ∧ Hid (Blk wr (w.heap.size + 1) 119 #[.int .i64 a, .slice (some ⟨w.heap.size, 0, none⟩) N N]) ∧ Hid (Blk wr w.heap.size 3 (intCs (A.upTo N k))) ∧ Hid (Frm (fun _ => False) w wr))
  case atStart => exact ⟨0, Nat.zero_le _, rfl, rfl, blk_at (by simp), (by rw [A.upTo_zero]; exact (Blk.new w _ _).alloc _), ((Frm.refl _ w).alloc _).alloc _⟩
  case round =>
    obtain ⟨k, hk, rfl, rfl, X, Y, F⟩ := hrel
    have x1 := X.out.cell 1
    by_cases hlt : k < N
    · have hlt' : (k : Int) < (N : Int) := by omega
      have y0 := (Y.out.cell k).trans (intCs_get (by rw [A.upTo_len]; exact hlt))
      have yf := Y.out.frozen k
      generalize (A.upTo N k)[k]'(by rw [A.upTo_len]; exact hlt) = z at y0
      go_wp2_with fail
      go_roundg (N + 1 - (k + 1))
      case measure => omega
      case rel =>
        have hY := Y.out.set_ k (.int .i64 k)
        rw [intCs_set, A.upTo_set] at hY
        exact ⟨k + 1, by omega, rfl, by go_num, X.out.far (by dsimp only; omega) _, hY, F.out.set_ (fun h => by dsimp only at h; omega) _⟩
    · have hlt' : ¬ (k : Int) < (N : Int) := by omega
      obtain rfl : k = N := by omega
      go_wp2_with fail
      go_ret
      refine ⟨rfl, ⟨?_, Y.out, by omega⟩, F.out⟩
      rw [A.upTo_len]
      exact X.out
end Go.Proofs.Ytldmjpnldgekaaa
end
section
namespace Go.Proofs.Ytldmjpnldgekaaa
open Go.RowKit
namespace A
/-- Where a state leads in the row, the row shortened on the way; none if the steps do not suffice or a number is no state. -/
def endO : Nat → List Int → Int → Option (List Int × Int)
  | 0, _, _ => none
  | f + 1, l, n =>
    if 0 ≤ n ∧ n < l.length then
      (if l.getD n.toNat 0 = n then some (l, n)
       else if 0 ≤ l.getD n.toNat 0 ∧ l.getD n.toNat 0 < l.length then endO f (l.set n.toNat (l.getD (l.getD n.toNat 0).toNat 0)) (l.getD (l.getD n.toNat 0).toNat 0) else none)
    else none
end A
theorem toNat_of {x : Int} (h : 0 ≤ x) : ((x.toNat : Nat) : Int) = x := by omega
set_option maxRecDepth 100000 in
set_option maxHeartbeats 4000000 in
theorem end_any {w : World} {pb g f : Nat} {s : Int} {l l' : List Int} {n r : Int} (h : Jn w pb g s l) (he : A.endO f l n = some (l', r)) :
    Calls Try.prog 76 #[.pointer (some ⟨pb, 0, none⟩), .int .i64 n] w fun e w' => e = .returned (.int .i64 r) ∧ Jn w' pb g s l' ∧ l'.length = l.length ∧ Frm (· = g) w w' := by
  obtain ⟨N, hN⟩ : ∃ N, N = l.length := ⟨_, rfl⟩
  have HE := Lib.hid he
  obtain ⟨hx, hy, hpg⟩ := h
  rw [← hN] at hx
  have HX := Lib.hid hx
  have HY := Lib.hid hy
  have HN := Lib.hid hN
  clear he hx hy hN
  go_enter Try.func76, Try.ntmps76
  go_wp2_with fail
  go_loopg [1] f (fun f i wr => ∃ (l1 : List Int) (n1 : Int), i = .int .i64 n1 ∧ l1.length = N ∧ Hid (A.endO f l1 n1 = some (l', r)) ∧ Hid (Blk wr pb 119 #[.int .i64 s, .slice (some ⟨g, 0, none⟩) N N]) ∧ Hid (Blk wr g 3 (intCs l1)) ∧ Hid (Frm (· = g) w wr))
  case atStart => exact ⟨l, n, rfl, HN.out.symm, HE, HX, HY, Frm.refl _ w⟩
  case round =>
    obtain ⟨l1, n1, rfl, hl1, HE1, X, Y, F⟩ := hrel
    have x1 := X.out.cell 1
    cases gk with
    | zero => exact absurd HE1.out (by simp [A.endO])
    | succ f =>
    have he := HE1.out
    unfold A.endO at he
    split at he
    · rename_i hin
      obtain ⟨h0, h1⟩ := hin
      have h1' : n1 < (N : Int) := by omega
      obtain ⟨p, hp⟩ : ∃ p : Nat, n1 = (p : Int) := ⟨n1.toNat, by omega⟩
      subst hp
      have hp1 : p < l1.length := by omega
      have y0 := (Y.out.cell p).trans (intCs_getD hp1)
      have yf := Y.out.frozen p
      simp only [Int.toNat_natCast] at he
      generalize hz : l1.getD p 0 = z at *
      split at he
      · rename_i heq
        subst heq
        obtain ⟨rfl, rfl⟩ : l1 = l' ∧ (p : Int) = r := by simpa using he
        have hb : ((p : Int) != (p : Int)) = false := by simp
        clear he hz
        go_wp2_with fail
        go_ret
        exact ⟨rfl, ⟨by rw [hl1]; exact X.out, Y.out, hpg⟩, hl1.trans HN.out, F.out⟩
      · rename_i hne
        have hb : (z != (p : Int)) = true := by rw [bne_iff_ne]; exact hne
        split at he
        · rename_i hin2
          obtain ⟨h2, h3⟩ := hin2
          obtain ⟨q, hq⟩ : ∃ q : Nat, z = (q : Int) := ⟨z.toNat, by omega⟩
          subst hq
          have hq1 : q < l1.length := by omega
          simp only [Int.toNat_natCast] at he
          have z0 := (Y.out.cell q).trans (intCs_getD hq1)
          generalize hu : l1.getD q 0 = u at *
          have HE2 := Lib.hid he
          clear he hz hu hne
          have hb2 : (p : Int) < (N : Int) := by omega
          have hb3 : (q : Int) < (N : Int) := by omega
          go_wp2_with fail
          go_still_tail 18, (by kernel_rfl)
          go_wp2_with fail
          go_roundg f
          case measure => omega
          case rel =>
            have hY := Y.out.drew.set_ p (.int .i64 u)
            rw [intCs_set] at hY
            exact ⟨_, _, rfl, (by simpa using hl1), HE2, X.out.drew.far (by dsimp only; exact hpg) _, hY, F.out.drew.set_ (fun _ => rfl) _⟩
        · cases he
    · cases he
end Go.Proofs.Ytldmjpnldgekaaa
end
section
namespace Go.Proofs.Ytldmjpnldgekaaa
open Go.RowKit
namespace A
theorem endO_in : ∀ {f : Nat} {l l' : List Int} {n r : Int}, endO f l n = some (l', r) → 0 ≤ r ∧ r < l.length ∧ l'.length = l.length
  | 0, _, _, _, _, h => by simp [endO] at h
  | f + 1, l, l', n, r, h => by
    unfold endO at h
    split at h
    · rename_i hin
      split at h
      · rename_i heq
        simp only [Option.some.injEq, Prod.mk.injEq] at h
        obtain ⟨rfl, rfl⟩ := h
        exact ⟨hin.1, hin.2, rfl⟩
      · split at h
        · have := endO_in h
          simpa using this
        · cases h
    · cases h
/-- The number of the second state of a pair. -/
def other (s : Int) (p : Pr) : Int := if p.2 = -1 then 0 else 1 + s + p.2
def joinO (f : Nat) (s : Int) (l : List Int) (p : Pr) : Option (List Int × Bool) :=
  match endO f l (1 + p.1) with
  | none => none
  | some (l1, x) => match endO f l1 (other s p) with
    | none => none
    | some (l2, y) => some (l2.set x.toNat y, decide (x ≠ y))
end A
theorem bne_ne (x y : Int) : (x != y) = decide (x ≠ y) := by by_cases h : x = y <;> simp [h]
set_option maxRecDepth 100000 in
set_option maxHeartbeats 4000000 in
theorem join_any {w : World} {pb g f : Nat} {s : Int} {l l' : List Int} {p : A.Pr} {r : Bool} (h : Jn w pb g s l) (he : A.joinO f s l p = some (l', r)) (h1 : -1 ≤ p.1 ∧ p.1 ≤ 4000) (h2 : -1 ≤ p.2 ∧ p.2 ≤ 4000) (hs : 0 ≤ s ∧ s ≤ 4000) :
    Calls Try.prog 59 #[.pointer (some ⟨pb, 0, none⟩), pairV p] w fun e w' => e = .returned (.bool r) ∧ Jn w' pb g s l' ∧ l'.length = l.length ∧ Frm (· = g) w w' := by
  obtain ⟨p1, p2⟩ := p
  obtain ⟨h11, h12⟩ := h1
  obtain ⟨h21, h22⟩ := h2
  obtain ⟨hs1, hs2⟩ := hs
  dsimp only at h11 h12 h21 h22
  unfold A.joinO at he
  split at he
  · cases he
  rename_i l1 x hE1
  split at he
  · cases he
  rename_i l2 y hE2
  simp only [Option.some.injEq, Prod.mk.injEq] at he
  obtain ⟨rfl, rfl⟩ := he
  obtain ⟨hx0, hx1, hxl⟩ := A.endO_in hE1
  obtain ⟨hy0, hy1, hyl⟩ := A.endO_in hE2
  obtain ⟨xn, rfl⟩ : ∃ xn : Nat, x = (xn : Int) := ⟨x.toNat, by omega⟩
  have hxn : xn < l2.length := by omega
  have HJ0 : Hid (Jn (w.alloc (.cells #[.int .i64 p1, .int .i64 p2] 57)) pb g s l) := ((Frm.refl (fun _ => False) w).alloc _).jn h id id
  have HF0 : Hid (Frm (· = g) w (w.alloc (.cells #[.int .i64 p1, .int .i64 p2] 57))) := (Frm.refl _ w).alloc _
  have HE1 := Lib.hid hE1
  have x0 := HJ0.out.1.cell 0
  have hgp := h.2.2
  have HL := Lib.hid (hyl.trans hxl)
  clear hE1 hyl hxl hx1 hy1 hx0 h
  obtain ⟨o, ho⟩ : ∃ o, o = A.other s (p1, p2) := ⟨_, rfl⟩
  have HO : Hid (o = if p2 = -1 then 0 else 1 + s + p2) := ho
  rw [← ho] at hE2
  have HE2 := Lib.hid hE2
  clear hE2 ho
  simp only [pairV]
  by_cases hb : p2 = -1
  · subst hb
    obtain rfl : o = 0 := by rw [HO.out]; rfl
    go_enter Try.func59, Try.ntmps59
    go_wp2_with fail
    refine (end_any HJ0.out HE1.out).mono ?_
    rintro _ w1 ⟨rfl, J1, -, f1⟩
    have HJ1 := Lib.hid J1
    have HF1 := Lib.hid (HF0.out.trans f1)
    clear J1 f1 x0
    go_wp2_with fail
    refine (end_any HJ1.out HE2.out).mono ?_
    rintro _ w2 ⟨rfl, J2, -, f2⟩
    have HF2 := Lib.hid (HF1.out.trans f2)
    have x1 := J2.1.cell 1
    have y1 := (J2.2.1.cell xn).trans (intCs_getD hxn)
    have yf := J2.2.1.frozen xn
    have HJ2 := Lib.hid J2
    clear f2 J2
    go_wp2_with fail
    go_ret
    refine ⟨ret_bool (bne_ne _ _), ⟨?_, ?_, hgp⟩, by rw [List.length_set]; exact HL.out, HF2.out.set_ (fun _ => rfl) _⟩
    · rw [List.length_set]; exact HJ2.out.1.far (by dsimp only; exact hgp) _
    · rw [Int.toNat_natCast, ← intCs_set]; exact HJ2.out.2.1.set_ xn _
  · have hb1 : (p2 != -1) = true := by rw [bne_iff_ne]; exact hb
    obtain rfl : o = 1 + s + p2 := by rw [HO.out, if_neg hb]
    go_enter Try.func59, Try.ntmps59
    have q1 := (Blk.new w 57 #[.int .i64 p1, .int .i64 p2]).cell 1
    go_wp2_with fail
    go_region
    all_goals go_wp2_with fail
    have HJ0' : Hid (Jn (w.alloc (.cells #[.int .i64 p1, .int .i64 p2] 57)).drew pb g s l) := HJ0.out
    refine (end_any HJ0'.out HE1.out).mono ?_
    rintro _ w1 ⟨rfl, J1, -, f1⟩
    have HJ1 := Lib.hid J1
    have HF1 := Lib.hid (HF0.out.trans f1)
    clear J1 f1 x0
    go_wp2_with fail
    refine (end_any HJ1.out HE2.out).mono ?_
    rintro _ w2 ⟨rfl, J2, -, f2⟩
    have HF2 := Lib.hid (HF1.out.trans f2)
    have x1 := J2.1.cell 1
    have y1 := (J2.2.1.cell xn).trans (intCs_getD hxn)
    have yf := J2.2.1.frozen xn
    have HJ2 := Lib.hid J2
    clear f2 J2
    go_wp2_with fail
    go_ret
    refine ⟨ret_bool (bne_ne _ _), ⟨?_, ?_, hgp⟩, by rw [List.length_set]; exact HL.out, HF2.out.set_ (fun _ => rfl) _⟩
    · rw [List.length_set]; exact HJ2.out.1.far (by dsimp only; exact hgp) _
    · rw [Int.toNat_natCast, ← intCs_set]; exact HJ2.out.2.1.set_ xn _
end Go.Proofs.Ytldmjpnldgekaaa
end
section
namespace Go.Proofs.Ytldmjpnldgekaaa.A
/-- The place of a pair in the table. -/
def place (nb : Int) (q : Pr) : Int := (1 + q.1) * (1 + nb) + 1 + q.2
theorem mul_step {u v W : Int} (h : u < v) (hW : 0 ≤ W) : u * W + W ≤ v * W := by
  have := Int.mul_le_mul_of_nonneg_right (show u + 1 ≤ v by omega) hW
  rw [Int.add_mul] at this
  omega
theorem place_in {a b : Mac} {q : Pr} (h : InP a b q) : 0 ≤ place b.next.length q ∧ place b.next.length q < (1 + (a.next.length : Int)) * (1 + (b.next.length : Int)) := by
  obtain ⟨⟨h1, h2⟩, h3, h4⟩ := h
  unfold place
  have e1 := mul_step (u := 1 + q.1) (v := 1 + (a.next.length : Int)) (W := 1 + (b.next.length : Int)) (by omega) (by omega)
  have e2 : 0 ≤ (1 + q.1) * (1 + (b.next.length : Int)) := Int.mul_nonneg (by omega) (by omega)
  constructor <;> omega
theorem place_inj {a b : Mac} {p q : Pr} (h : InP a b p) (h' : InP a b q) (e : place b.next.length p = place b.next.length q) : p = q := by
  obtain ⟨p1, p2⟩ := p
  obtain ⟨q1, q2⟩ := q
  obtain ⟨⟨h1, h2⟩, h3, h4⟩ := h
  obtain ⟨⟨h5, h6⟩, h7, h8⟩ := h'
  unfold place at e
  dsimp only at *
  rcases Int.lt_trichotomy p1 q1 with hl | he | hg
  · have := mul_step (u := 1 + p1) (v := 1 + q1) (W := 1 + (b.next.length : Int)) (by omega) (by omega)
    omega
  · subst he
    have : p2 = q2 := by omega
    rw [this]
  · have := mul_step (u := 1 + q1) (v := 1 + p1) (W := 1 + (b.next.length : Int)) (by omega) (by omega)
    omega
/-- The pairs of a list, and the pair of nowhere and nowhere. -/
def among (l : List Pr) (q : Pr) : Bool := decide (q = (-1, -1)) || decide (q ∈ l)
def shows (a b : Mac) (l : List Pr) : Bool := among l (a.start, b.start) && l.all fun p => agree a b p && (List.range a.letters.toNat).all fun (k : Nat) => among l (leadP a b p k)
end Go.Proofs.Ytldmjpnldgekaaa.A
namespace Go.Proofs.Ytldmjpnldgekaaa
open Go.RowKit
/-- Block t is the table of the pairs for which S holds. -/
def Tb (w : World) (t : Nat) (a b : A.Mac) (M : Nat) (S : A.Pr → Bool) : Prop := ∃ cs : Array Value, Blk w t 4 cs ∧ cs.size = M ∧ ∀ q, A.InP a b q → cs[(A.place b.next.length q).toNat]? = some (.bool (S q))
theorem Tb.cell {w : World} {t : Nat} {a b : A.Mac} {M : Nat} {S : A.Pr → Bool} (h : Tb w t a b M S) {q : A.Pr} (hq : A.InP a b q) : w.cell? ⟨t, (A.place b.next.length q).toNat, none⟩ = some (.bool (S q)) := by
  obtain ⟨cs, hb, _, h⟩ := h
  exact (hb.cell _).trans (h q hq)
theorem Tb.frozen {w : World} {t : Nat} {a b : A.Mac} {M : Nat} {S : A.Pr → Bool} (h : Tb w t a b M S) (i : Nat) : w.frozen? ⟨t, i, none⟩ = false := by
  obtain ⟨cs, hb, _, h⟩ := h
  exact hb.frozen i
theorem Tb.frm {w w' : World} {t : Nat} {a b : A.Mac} {M : Nat} {S : A.Pr → Bool} {E : Nat → Prop} (h : Tb w t a b M S) (F : Frm E w w') (hE : ¬ E t) : Tb w' t a b M S := by
  obtain ⟨cs, hb, h1, h⟩ := h
  exact ⟨cs, F.blk hb hE, h1, h⟩
theorem Tb.set_ {w : World} {t : Nat} {a b : A.Mac} {M : Nat} {S S' : A.Pr → Bool} (h : Tb w t a b M S) {p : A.Pr} (hp : A.InP a b p) (hS : ∀ q, S' q = (decide (q = p) || S q)) : Tb (w.setCell ⟨t, (A.place b.next.length p).toNat, none⟩ (.bool true)) t a b M S' := by
  obtain ⟨cs, hb, h1, h⟩ := h
  refine ⟨_, hb.set_ _ _, by simpa using h1, fun q hq => ?_⟩
  rw [hS, Array.getElem?_setIfInBounds]
  by_cases e : q = p
  · subst e
    have := h q hq
    have hlt : (A.place b.next.length q).toNat < cs.size := by
      rcases Nat.lt_or_ge (A.place b.next.length q).toNat cs.size with h | h
      · exact h
      · rw [Array.getElem?_eq_none h] at this; cases this
    simp [hlt]
  · have hne : (A.place b.next.length p).toNat ≠ (A.place b.next.length q).toNat := fun he => e (A.place_inj hq hp (by have := (A.place_in hp).1; have := (A.place_in hq).1; omega))
    rw [if_neg hne, h q hq]
    simp [e]
theorem Tb.new {w : World} {a b : A.Mac} {M : Nat} (hM : (M : Int) = (1 + (a.next.length : Int)) * (1 + (b.next.length : Int))) : Tb (w.alloc (.cells (madeCells #[.bool false] M) 4)) w.heap.size a b M fun _ => false := by
  refine ⟨_, Blk.new w _ _, size_madeCells _ _, fun q hq => ?_⟩
  have := A.place_in hq
  rw [← Array.getElem?_toList, toList_madeCells_one, List.getElem?_replicate, if_pos (by omega)]
theorem info_bool : (Try.prog.info? 4).map (fun i => (i.zero, i.size, i.bytes)) = some (some (.bool false), 1, 1) := by kernel_rfl
set_option maxRecDepth 100000 in
set_option maxHeartbeats 4000000 in
theorem place_any {w : World} {wb : Nat} {a b : A.Mac} {p : A.Pr} (hw : Blk w wb 3 #[.int .i64 (1 + (b.next.length : Int))]) (hp : A.InP a b p) (ha : a.next.length ≤ 4000) (hb : b.next.length ≤ 4000) :
    Calls Try.prog 64 #[pairV p, .pointer (some ⟨wb, 0, none⟩)] w fun e w' => e = .returned (.int .i64 (A.place b.next.length p)) ∧ Frm (fun _ => False) w w' := by
  have hpl := A.place_in hp
  obtain ⟨⟨h1, h2⟩, h3, h4⟩ := hp
  obtain ⟨p1, p2⟩ := p
  obtain ⟨nb, hnb⟩ : ∃ nb, nb = b.next.length := ⟨_, rfl⟩
  rw [← hnb] at hw hpl hb h4 ⊢
  dsimp only at h1 h2 h3 h4
  have HM : Hid ((1 + (a.next.length : Int)) * (1 + (nb : Int)) ≤ 16008001) := by
    have := Int.mul_le_mul (show 1 + (a.next.length : Int) ≤ 4001 by omega) (show 1 + (nb : Int) ≤ 4001 by omega) (by omega) (by omega)
    exact this
  unfold A.place at hpl
  obtain ⟨h5, h6⟩ := hpl
  dsimp only at h5 h6
  have e1 : IntKind.i64.wrap (1 + p1) = 1 + p1 := IntWalk.i64_in _ (by omega)
  have e0 : 0 ≤ (1 + p1) * (1 + (nb : Int)) := Int.mul_nonneg (by omega) (by omega)
  have HNB := Lib.hid hnb
  clear hnb
  have HE2 : Hid (IntKind.i64.wrap ((1 + p1) * (1 + (nb : Int))) = (1 + p1) * (1 + (nb : Int))) := IntWalk.i64_in _ (by have := HM.out; omega)
  have HE3 : Hid (A.place nb (p1, p2) = (1 + p1) * (1 + (nb : Int)) + 1 + p2) := rfl
  rw [HE3.out]
  have HB : Hid ((1 + p1) * (1 + (nb : Int)) + 1 + p2 ≤ 16008001 ∧ 0 ≤ (1 + p1) * (1 + (nb : Int)) + 1 + p2) := show _ ∧ _ by have := HM.out; omega
  have x0 := (hw.alloc (.cells #[.int .i64 p1, .int .i64 p2] 57)).cell 0
  have F0 : Hid (Frm (fun _ => False) w (w.alloc (.cells #[.int .i64 p1, .int .i64 p2] 57))) := (Frm.refl _ w).alloc _
  have e2 := HE2.out
  have e3 : (1 + p1) * (1 + (nb : Int)) ≤ 16008001 := by have := HM.out; omega
  generalize hk : (1 + p1) * (1 + (nb : Int)) = k at *
  have hB := HB.out
  have hB1 := hB.1
  have hB2 := hB.2
  clear h5 h6 HM HE2 hB
  simp only [pairV]
  go_enter Try.func64, Try.ntmps64
  go_wp2_with fail
  go_ret
  exact ⟨rfl, F0.out⟩
end Go.Proofs.Ytldmjpnldgekaaa
end
section
namespace Go.Proofs.Ytldmjpnldgekaaa
open Go.RowKit
/-- What a run of shows keeps: the boxes of its machines, of the width, the table. -/
structure Sh (w0 w : World) (ca cb : Array Value) (a b : A.Mac) (M : Nat) (S : A.Pr → Bool) : Prop where
  fr : Frm (fun _ => False) w0 w
  ba : Blk w w0.heap.size 25 ca
  bb : Blk w (w0.heap.size + 1) 25 cb
  bw : Blk w (w0.heap.size + 2) 3 #[.int .i64 (1 + (b.next.length : Int))]
  tb : Tb w (w0.heap.size + 3) a b M S
theorem Sh.call {w0 w w' : World} {ca cb : Array Value} {a b : A.Mac} {M : Nat} {S : A.Pr → Bool} (h : Sh w0 w ca cb a b M S) (F : Frm (fun _ => False) w w') : Sh w0 w' ca cb a b M S :=
  ⟨h.fr.trans F, F.blk h.ba id, F.blk h.bb id, F.blk h.bw id, h.tb.frm F id⟩
theorem Sh.set_ {w0 w : World} {ca cb : Array Value} {a b : A.Mac} {M : Nat} {S S' : A.Pr → Bool} (h : Sh w0 w ca cb a b M S) {p : A.Pr} (hp : A.InP a b p) (hS : ∀ q, S' q = (decide (q = p) || S q)) (i : Nat) (hi : (A.place b.next.length p).toNat = i) :
    Sh w0 (w.setCell ⟨w0.heap.size + 3, i, none⟩ (.bool true)) ca cb a b M S' := by
  subst hi
  exact ⟨h.fr.set_ (fun hlt => by dsimp only at hlt; omega) _, h.ba.far (by dsimp only; omega) _, h.bb.far (by dsimp only; omega) _, h.bw.far (by dsimp only; omega) _, h.tb.set_ hp hS⟩
namespace A
theorem among_nil (q : Pr) : among [] q = (decide (q = (-1, -1)) || false) := by simp [among]
theorem among_take {l : List Pr} {k : Nat} (hk : k < l.length) (q : Pr) : among (l.take (k + 1)) q = (decide (q = l[k]) || among (l.take k) q) := by
  unfold among
  rw [List.take_succ_eq_append_getElem hk]
  simp only [List.mem_append, List.mem_singleton, Bool.decide_or]
  cases decide (q = (-1, -1)) <;> cases decide (q = l[k]) <;> cases decide (q ∈ List.take k l) <;> rfl
def rowOk (a b : Mac) (l : List Pr) (p : Pr) : Bool := agree a b p && (List.range a.letters.toNat).all fun (k : Nat) => among l (leadP a b p k)
theorem shows_eq (a b : Mac) (l : List Pr) : shows a b l = (among l (a.start, b.start) && l.all (rowOk a b l)) := rfl
theorem range_drop {n j : Nat} (h : j < n) (f : Nat → Bool) : ((List.range n).drop j).all f = (f j && ((List.range n).drop (j + 1)).all f) := by
  rw [List.drop_eq_getElem_cons (by simpa using h), List.all_cons, List.getElem_range]
theorem range_end {n j : Nat} (h : n ≤ j) (f : Nat → Bool) : ((List.range n).drop j).all f = true := by rw [List.drop_of_length_le (by simpa using h)]; rfl
theorem all_drop {l : List Pr} {k : Nat} (h : k < l.length) (f : Pr → Bool) : (l.drop k).all f = (f l[k] && (l.drop (k + 1)).all f) := by rw [List.drop_eq_getElem_cons h, List.all_cons]
end A
set_option maxRecDepth 100000 in
set_option maxHeartbeats 4000000 in
theorem shows_any {w : World} {P Q R : Nat → Prop} {v v' vl : Value} {a b : A.Mac} {l : List A.Pr} (h : MachAt w P v a) (h' : MachAt w Q v' b) (hl : Prs2 w R vl l) (ht : A.Two a b) (hin : ∀ p ∈ l, A.InP a b p) (hll : l.length ≤ maxLen) :
    Calls Try.prog 43 #[v, v', vl] w fun e w' => e = .returned (.bool (A.shows a b l)) ∧ Frm (fun _ => False) w w' := by
  obtain ⟨A1, c1, A2, c2, rfl⟩ := h.form
  obtain ⟨B1, d1, B2, d2, rfl⟩ := h'.form
  obtain ⟨AL, cl, rfl, hL⟩ := hl
  have HL := Lib.hid hL
  have HM := Lib.hid h
  have HM' := Lib.hid h'
  have HT := Lib.hid ht
  have HIN := Lib.hid hin
  have hna := ht.na
  have hnb := ht.nb
  have hla := ht.la
  unfold maxLen at hll
  clear h h' hL ht hin
  obtain ⟨M, hM⟩ : ∃ M : Nat, M = (1 + a.next.length) * (1 + b.next.length) := ⟨_, rfl⟩
  have hMb : M ≤ 16008001 := by rw [hM]; exact Nat.mul_le_mul (show 1 + a.next.length ≤ 4001 by omega) (show 1 + b.next.length ≤ 4001 by omega)
  have hmk := run_make_row' (P := Try.prog) 23 4 (.bool false) 1 Try.underlying23 info_bool rfl .i64 .i64 M (by omega) (by omega)
  have hM1 : (M : Int) = (1 + (a.next.length : Int)) * (1 + (b.next.length : Int)) := by rw [hM, Int.natCast_mul, Int.natCast_add, Int.natCast_add]; rfl
  have hM2 : IntKind.i64.wrap ((1 + (a.next.length : Int)) * (1 + (b.next.length : Int))) = M := by rw [← hM1]; exact IntWalk.i64_in _ (by omega)
  have HMM := Lib.hid hM1
  clear hM hM1
  have HPM : Hid (∀ q, A.InP a b q → ∃ i : Nat, A.place b.next.length q = (i : Int) ∧ (A.place b.next.length q).toNat = i ∧ (i : Int) < M) := fun q hq => by
    obtain ⟨h1, h2⟩ := A.place_in hq
    exact ⟨(A.place b.next.length q).toNat, by omega, rfl, by rw [HMM.out]; omega⟩
  obtain ⟨W, hW⟩ : ∃ W, W = (((w.alloc (.cells (macC a A1 c1 A2 c2) 25)).alloc (.cells (macC b B1 d1 B2 d2) 25)).alloc (.cells #[.int .i64 (1 + (b.next.length : Int))] 3)).alloc (.cells (madeCells #[.bool false] M) 4) := ⟨_, rfl⟩
  have HSH : Hid (Sh w W (macC a A1 c1 A2 c2) (macC b B1 d1 B2 d2) a b M fun _ => false) := show Sh _ _ _ _ _ _ _ _ by
    subst hW
    refine ⟨((((Frm.refl _ w).alloc _).alloc _).alloc _).alloc _, (((Blk.new w _ _).alloc _).alloc _).alloc _, ((blk_at (by simp)).alloc _).alloc _, (blk_at (by simp)).alloc _, ?_⟩
    have := Tb.new (w := (((w.alloc (.cells (macC a A1 c1 A2 c2) 25)).alloc (.cells (macC b B1 d1 B2 d2) 25)).alloc (.cells #[.int .i64 (1 + (b.next.length : Int))] 3))) HMM.out
    simpa using this
  simp only [macC] at hW
  have HWW := Lib.hid hW
  clear hW
  go_enter Try.func43, Try.ntmps43
  go_wp2_with fail
  rw [← HWW.out]
  clear hmk hM2
  refine (nowhere_any _).mono ?_
  rintro _ w1 ⟨rfl, f1⟩
  have HS1 := Lib.hid (HSH.out.call f1)
  clear f1
  have hinN : A.InP a b (-1, -1) := ⟨⟨by simp, by dsimp only; omega⟩, by simp, by dsimp only; omega⟩
  go_wp2_with fail
  refine (place_any HS1.out.bw hinN hna hnb).mono ?_
  rintro _ w2 ⟨rfl, f2⟩
  have HS2 := Lib.hid (HS1.out.call f2)
  clear f2
  obtain ⟨i0, hi0, hj0, hi1⟩ := HPM.out _ hinN
  rw [hi0]
  have t0 := HS2.out.tb.cell hinN
  have t1 := HS2.out.tb.frozen i0
  rw [hj0] at t0
  have HJ0 := Lib.hid hj0
  clear hi0 hj0
  go_wp2_with fail
  have HSA := Lib.hid ((HS2.out.set_ hinN (S' := A.among []) A.among_nil i0 HJ0.out))
  clear t0 t1 hi1 hinN
  go_loopg [34] (l.length + 1) (fun n i wr => ∃ k : Nat, k ≤ l.length ∧ n = l.length + 1 - k ∧ i = .int .i64 (k : Int) ∧ Hid (Sh w wr (macC a A1 c1 A2 c2) (macC b B1 d1 B2 d2) a b M (A.among (l.take k))))
  case atStart => exact ⟨0, Nat.zero_le _, rfl, rfl, HSA⟩
  case round =>
    obtain ⟨k, hk, rfl, rfl, HS⟩ := hrel
    by_cases hlt : k < l.length
    · have hlt' : (k : Int) < (l.length : Int) := by omega
      obtain ⟨g, o, hA, _, hc0, hc1⟩ := HL.out k hlt
      subst hA
      have c0 := HS.out.fr.cell id hc0
      have c1' := HS.out.fr.cell id hc1
      have hpin := HIN.out _ (List.getElem_mem hlt)
      have HTK : Hid (∀ q, A.among (l.take (k + 1)) q = (decide (q = l[k]) || A.among (l.take k) q)) := A.among_take hlt
      generalize l[k] = p at *
      obtain ⟨p1, p2⟩ := p
      dsimp only at c0 c1'
      have pb := Blk.new wr 57 #[.int .i64 p1, .int .i64 p2]
      have q0 := pb.cell 0
      have q1 := pb.cell 1
      have HSP := Lib.hid (HS.out.call ((Frm.refl _ wr).alloc (.cells #[.int .i64 p1, .int .i64 p2] 57)))
      clear hc0 hc1 pb
      go_wp2_with fail
      refine (place_any (p := (p1, p2)) HSP.out.bw hpin hna hnb).mono ?_
      rintro _ w3 ⟨rfl, f3⟩
      have HS3 := Lib.hid (HSP.out.call f3)
      obtain ⟨i3, hi3, hj3, hlt3⟩ := HPM.out _ hpin
      rw [hi3]
      have t0 := HS3.out.tb.cell hpin
      have t1 := HS3.out.tb.frozen i3
      rw [hj3] at t0
      have HJ3 := Lib.hid hj3
      have HPIN := Lib.hid hpin
      clear hi3 hj3 f3 hpin q0 q1 c0 c1'
      go_wp2_with fail
      go_roundg (l.length + 1 - (k + 1))
      case measure => omega
      case rel => exact ⟨k + 1, by omega, rfl, by go_num, HS3.out.set_ HPIN.out HTK.out i3 HJ3.out⟩
    · have hlt' : ¬ (k : Int) < (l.length : Int) := by omega
      obtain rfl : k = l.length := by omega
      rw [List.take_length] at HS
      have e0 := HS.out.ba.cell 0
      have e1 := HS.out.ba.cell 1
      have e2 := HS.out.ba.cell 2
      have e3 := HS.out.ba.cell 3
      have g0 := HS.out.bb.cell 0
      have g1 := HS.out.bb.cell 1
      have g2 := HS.out.bb.cell 2
      have g3 := HS.out.bb.cell 3
      simp only [macC] at e0 e1 e2 e3 g0 g1 g2 g3
      go_wp2_with fail
      clear e0 e1 e2 e3 g0 g1 g2 g3
      refine (starts_any (HM.out.keep0 HS.out.fr) (HM'.out.keep0 HS.out.fr)).mono ?_
      rintro _ w3 ⟨rfl, f3⟩
      have HS3 := Lib.hid (HS.out.call f3)
      clear f3
      have HIS : Hid (A.InP a b (a.start, b.start)) := ⟨HT.out.fa.start, HT.out.fb.start⟩
      go_wp2_with fail
      refine (place_any HS3.out.bw HIS.out hna hnb).mono ?_
      rintro _ w4 ⟨rfl, f4⟩
      have HS4 := Lib.hid (HS3.out.call f4)
      obtain ⟨i4, hi4, hj4, hlt4⟩ := HPM.out _ HIS.out
      rw [hi4]
      have t0 := HS4.out.tb.cell HIS.out
      rw [hj4] at t0
      have HAA : Hid (A.shows a b l = (A.among l (a.start, b.start) && l.all (A.rowOk a b l))) := A.shows_eq a b l
      clear hi4 hj4 f4
      generalize A.among l (a.start, b.start) = st at *
      cases st with
      | false =>
        go_wp2_with fail
        go_ret
        exact ⟨ret_bool (by rw [HAA.out]; rfl), HS4.out.fr⟩
      | true =>
        go_wp2_with fail
        have HS0 : Hid (A.shows a b l = (l.drop 0).all (A.rowOk a b l)) := HAA.out
        have hl0 := HT.out.fa.letters
        clear t0 HAA hlt4
        go_loopg [55] (l.length + 1) (fun n i wr => ∃ k : Nat, k ≤ l.length ∧ n = l.length + 1 - k ∧ i = .int .i64 (k : Int) ∧ Hid (A.shows a b l = (l.drop k).all (A.rowOk a b l)) ∧ Hid (Sh w wr (macC a A1 c1 A2 c2) (macC b B1 d1 B2 d2) a b M (A.among l)))
        case atStart => exact ⟨0, Nat.zero_le _, rfl, rfl, HS0, HS4⟩
        case round =>
          obtain ⟨k, hk, rfl, rfl, HK, HS⟩ := hrel
          by_cases hlt : k < l.length
          · have hlt' : (k : Int) < (l.length : Int) := by omega
            obtain ⟨g, o, hA, _, hc0, hc1⟩ := HL.out k hlt
            subst hA
            have c0 := HS.out.fr.cell id hc0
            have c1' := HS.out.fr.cell id hc1
            have HPIN : Hid (A.InP a b l[k]) := HIN.out _ (List.getElem_mem hlt)
            have HK1 : Hid ((l.drop k).all (A.rowOk a b l) = (A.rowOk a b l l[k] && (l.drop (k + 1)).all (A.rowOk a b l))) := A.all_drop hlt _
            generalize l[k] = p at *
            obtain ⟨p1, p2⟩ := p
            dsimp only at c0 c1'
            have HPB : Hid (Blk (wr.alloc (.cells #[.int .i64 p1, .int .i64 p2] 57)) wr.heap.size 57 #[.int .i64 p1, .int .i64 p2]) := Blk.new wr _ _
            have HSP := Lib.hid (HS.out.call ((Frm.refl _ wr).alloc (.cells #[.int .i64 p1, .int .i64 p2] 57)))
            have q0 := HPB.out.cell 0
            have q1 := HPB.out.cell 1
            have e0 := HSP.out.ba.cell 0
            have e1 := HSP.out.ba.cell 1
            have e2 := HSP.out.ba.cell 2
            have e3 := HSP.out.ba.cell 3
            have g0 := HSP.out.bb.cell 0
            have g1 := HSP.out.bb.cell 1
            have g2 := HSP.out.bb.cell 2
            have g3 := HSP.out.bb.cell 3
            simp only [macC] at e0 e1 e2 e3 g0 g1 g2 g3
            clear hc0 hc1
            go_wp2_with fail
            clear e0 e1 e2 e3 g0 g1 g2 g3 q0 q1 c0 c1'
            refine (agree_any (HM.out.keep0 HSP.out.fr) (HM'.out.keep0 HSP.out.fr) HT.out (p1, p2) HPIN.out).mono ?_
            rintro _ w5 ⟨rfl, f5⟩
            have HS5 := Lib.hid (HSP.out.call f5)
            have HPB5 := Lib.hid (f5.blk HPB.out id)
            have HRO : Hid (A.rowOk a b l (p1, p2) = (A.agree a b (p1, p2) && ((List.range a.letters.toNat).drop 0).all fun (k : Nat) => A.among l (A.leadP a b (p1, p2) k))) := rfl
            clear f5
            generalize A.agree a b (p1, p2) = ag at *
            cases ag with
            | false =>
              have HZ : Hid (A.shows a b l = false) := show _ = _ by rw [HK.out, HK1.out, HRO.out]; rfl
              go_wp2_with fail
              go_ret
              exact ⟨ret_bool HZ.out.symm, HS5.out.fr⟩
            | true =>
              have HK2 : Hid (A.shows a b l = (((List.range a.letters.toNat).drop 0).all (fun (k : Nat) => A.among l (A.leadP a b (p1, p2) k)) && (l.drop (k + 1)).all (A.rowOk a b l))) := show _ = _ by rw [HK.out, HK1.out, HRO.out]; rfl
              have e0 := HS5.out.ba.cell 0
              simp only [macC] at e0
              clear HK1 HRO
              go_wp2_with fail
              go_loopg [66] (a.letters.toNat + 1) (fun n i wr' => ∃ j : Nat, j ≤ a.letters.toNat ∧ n = a.letters.toNat + 1 - j ∧ i = .int .i64 (j : Int) ∧ Hid (A.shows a b l = (((List.range a.letters.toNat).drop j).all (fun (k : Nat) => A.among l (A.leadP a b (p1, p2) k)) && (l.drop (k + 1)).all (A.rowOk a b l))) ∧ Hid (Sh w wr' (macC a A1 c1 A2 c2) (macC b B1 d1 B2 d2) a b M (A.among l)) ∧ Hid (Blk wr' wr.heap.size 57 #[.int .i64 p1, .int .i64 p2]))
              case atStart => exact ⟨0, Nat.zero_le _, rfl, rfl, HK2, HS5, HPB5⟩
              case round =>
                clear HK2 HS5 HPB5 e0
                obtain ⟨j, hj, rfl, rfl, HJ, HS6, HPB6⟩ := hrel
                by_cases hltj : j < a.letters.toNat
                · have hltj' : (j : Int) < a.letters := by omega
                  have HJ1 : Hid (((List.range a.letters.toNat).drop j).all (fun (k : Nat) => A.among l (A.leadP a b (p1, p2) k)) = (A.among l (A.leadP a b (p1, p2) j) && ((List.range a.letters.toNat).drop (j + 1)).all (fun (k : Nat) => A.among l (A.leadP a b (p1, p2) k)))) := A.range_drop hltj _
                  have q0 := HPB6.out.cell 0
                  have q1 := HPB6.out.cell 1
                  have e0 := HS6.out.ba.cell 0
                  have e1 := HS6.out.ba.cell 1
                  have e2 := HS6.out.ba.cell 2
                  have e3 := HS6.out.ba.cell 3
                  have g0 := HS6.out.bb.cell 0
                  have g1 := HS6.out.bb.cell 1
                  have g2 := HS6.out.bb.cell 2
                  have g3 := HS6.out.bb.cell 3
                  simp only [macC] at e0 e1 e2 e3 g0 g1 g2 g3
                  go_wp2_with fail
                  clear e0 e1 e2 e3 g0 g1 g2 g3 q0 q1
                  refine (leadPair_any (HM.out.keep0 HS6.out.fr) (HM'.out.keep0 HS6.out.fr) HT.out (p1, p2) j HPIN.out (by omega) hltj').mono ?_
                  rintro _ w7 ⟨rfl, f7⟩
                  have HS7 := Lib.hid (HS6.out.call f7)
                  have HPB7 := Lib.hid (f7.blk HPB6.out id)
                  have HIL : Hid (A.InP a b (A.leadP a b (p1, p2) j)) := HT.out.lead HPIN.out (by omega) hltj'
                  clear f7
                  generalize A.leadP a b (p1, p2) j = q at *
                  go_wp2_with fail
                  refine (place_any HS7.out.bw HIL.out hna hnb).mono ?_
                  rintro _ w8 ⟨rfl, f8⟩
                  have HS8 := Lib.hid (HS7.out.call f8)
                  have HPB8 := Lib.hid (f8.blk HPB7.out id)
                  obtain ⟨i8, hi8, hj8, hlt8⟩ := HPM.out _ HIL.out
                  rw [hi8]
                  have t0 := HS8.out.tb.cell HIL.out
                  rw [hj8] at t0
                  clear hi8 hj8 f8
                  generalize A.among l q = am at *
                  cases am with
                  | false =>
                    have HZ : Hid (A.shows a b l = false) := show _ = _ by rw [HJ.out, HJ1.out]; rfl
                    go_wp2_with fail
                    go_ret
                    exact ⟨ret_bool HZ.out.symm, HS8.out.fr⟩
                  | true =>
                    have HJ2 : Hid (A.shows a b l = (((List.range a.letters.toNat).drop (j + 1)).all (fun (k : Nat) => A.among l (A.leadP a b (p1, p2) k)) && (l.drop (k + 1)).all (A.rowOk a b l))) := show _ = _ by rw [HJ.out, HJ1.out]; rfl
                    go_wp2_with fail
                    go_roundg (a.letters.toNat + 1 - (j + 1))
                    case measure => omega
                    case rel => exact ⟨j + 1, by omega, rfl, by go_num, HJ2, HS8, HPB8⟩
                · have hltj' : ¬ (j : Int) < a.letters := by omega
                  have HJ2 : Hid (A.shows a b l = (l.drop (k + 1)).all (A.rowOk a b l)) := show _ = _ by rw [HJ.out, A.range_end (by omega)]; rfl
                  go_wp2_with fail
                  go_roundg (l.length + 1 - (k + 1))
                  case measure => omega
                  case rel => exact ⟨k + 1, by omega, rfl, by go_num, HJ2, HS6⟩
          · have hlt' : ¬ (k : Int) < (l.length : Int) := by omega
            have HZ : Hid (A.shows a b l = true) := show _ = _ by rw [HK.out, List.drop_of_length_le (by omega)]; rfl
            go_wp2_with fail
            go_ret
            exact ⟨ret_bool HZ.out.symm, HS.out.fr⟩
end Go.Proofs.Ytldmjpnldgekaaa
end
section
namespace Go.Proofs.Ytldmjpnldgekaaa
open Go.RowKit
namespace A
def check (a b : Mac) (l : List Pr) : Int := if fit a b = 0 then (if isRel a b l then (if shows a b l then 0 else 8) else 2) else fit a b
theorem relFrom_in {a b : Mac} : ∀ {l : List Pr} {last : Pr}, relFrom a b last l = true → ∀ p ∈ l, InP a b p
  | [], _, _, p, hp => by cases hp
  | q :: l, last, h, p, hp => by
    unfold relFrom at h
    simp only [Bool.and_eq_true] at h
    obtain ⟨h1, _, h3⟩ := h
    rcases List.mem_cons.1 hp with rfl | hp
    · exact okPair_in.1 h1
    · exact relFrom_in h3 p hp
end A
/-- What a run with two machines keeps: their boxes. -/
structure Bx (w0 w : World) (ca cb : Array Value) : Prop where
  fr : Frm (fun _ => False) w0 w
  ba : Blk w w0.heap.size 25 ca
  bb : Blk w (w0.heap.size + 1) 25 cb
theorem Bx.call {w0 w w' : World} {ca cb : Array Value} (h : Bx w0 w ca cb) (F : Frm (fun _ => False) w w') : Bx w0 w' ca cb := ⟨h.fr.trans F, F.blk h.ba id, F.blk h.bb id⟩
theorem Bx.new (w0 : World) (ca cb : Array Value) : Bx w0 ((w0.alloc (.cells ca 25)).alloc (.cells cb 25)) ca cb :=
  ⟨((Frm.refl _ w0).alloc _).alloc _, (Blk.new w0 _ _).alloc _, blk_at (by simp)⟩
set_option maxRecDepth 100000 in
set_option maxHeartbeats 4000000 in
theorem check_any {w : World} {P Q R : Nat → Prop} {v v' vl : Value} {a b : A.Mac} {l : List A.Pr} (h : MachAt w P v a) (h' : MachAt w Q v' b) (hl : Prs2 w R vl l) (hs : Sized a) (hs' : Sized b) (hll : l.length ≤ maxLen) :
    Calls Try.prog 22 #[v, v', vl] w fun e w' => e = .returned (.int .i64 (A.check a b l)) ∧ Frm (fun _ => False) w w' := by
  obtain ⟨A1, c1, A2, c2, rfl⟩ := h.form
  obtain ⟨B1, d1, B2, d2, rfl⟩ := h'.form
  obtain ⟨AL, cl, rfl, hL⟩ := id hl
  have HF0 : Hid (Bx w _ (macC a A1 c1 A2 c2) (macC b B1 d1 B2 d2)) := Bx.new w _ _
  have HM := Lib.hid h
  have HM' := Lib.hid h'
  have HL := Lib.hid hl
  have HSZ := Lib.hid hs
  have HSZ' := Lib.hid hs'
  have HLL := Lib.hid hll
  have HX : Hid (A.check a b l = if A.fit a b = 0 then (if A.isRel a b l then (if A.shows a b l then 0 else 8) else 2) else A.fit a b) := rfl
  clear h h' hl hs hs' hll hL
  have e0 := HF0.out.ba.cell 0
  have e1 := HF0.out.ba.cell 1
  have e2 := HF0.out.ba.cell 2
  have e3 := HF0.out.ba.cell 3
  have g0 := HF0.out.bb.cell 0
  have g1 := HF0.out.bb.cell 1
  have g2 := HF0.out.bb.cell 2
  have g3 := HF0.out.bb.cell 3
  simp only [macC] at e0 e1 e2 e3 g0 g1 g2 g3
  go_enter Try.func22, Try.ntmps22
  go_wp2_with fail
  clear e0 e1 e2 e3 g0 g1 g2 g3
  refine (fit_any (HM.out.keep0 HF0.out.fr) (HM'.out.keep0 HF0.out.fr) HSZ.out HSZ'.out).mono ?_
  rintro _ w1 ⟨rfl, f1⟩
  have HF1 := Lib.hid (HF0.out.call f1)
  have HT : Hid (A.fit a b = 0 → A.Two a b) := A.fit_two
  clear f1
  generalize A.fit a b = ft at *
  by_cases hf : ft = 0
  · subst hf
    have HT1 := Lib.hid (HT.out rfl)
    have HI : Hid (A.isRel a b l = true → ∀ p ∈ l, A.InP a b p) := A.relFrom_in
    have e0 := HF1.out.ba.cell 0
    have e1 := HF1.out.ba.cell 1
    have e2 := HF1.out.ba.cell 2
    have e3 := HF1.out.ba.cell 3
    have g0 := HF1.out.bb.cell 0
    have g1 := HF1.out.bb.cell 1
    have g2 := HF1.out.bb.cell 2
    have g3 := HF1.out.bb.cell 3
    simp only [macC] at e0 e1 e2 e3 g0 g1 g2 g3
    go_wp2_with fail
    clear e0 e1 e2 e3 g0 g1 g2 g3
    refine (isRel_any (HM.out.keep0 HF1.out.fr) (HM'.out.keep0 HF1.out.fr) (HL.out.keep HF1.out.fr fun _ _ => id) HT1.out.na HT1.out.nb HLL.out).mono ?_
    rintro _ w2 ⟨rfl, f2⟩
    have HF2 := Lib.hid (HF1.out.call f2)
    clear f2
    generalize A.isRel a b l = rl at *
    cases rl with
    | false =>
      go_wp2_with fail
      go_ret
      exact ⟨ret_int (by rw [HX.out]; rfl), HF2.out.fr⟩
    | true =>
      have HI1 := Lib.hid (HI.out rfl)
      have e0 := HF2.out.ba.cell 0
      have e1 := HF2.out.ba.cell 1
      have e2 := HF2.out.ba.cell 2
      have e3 := HF2.out.ba.cell 3
      have g0 := HF2.out.bb.cell 0
      have g1 := HF2.out.bb.cell 1
      have g2 := HF2.out.bb.cell 2
      have g3 := HF2.out.bb.cell 3
      simp only [macC] at e0 e1 e2 e3 g0 g1 g2 g3
      go_wp2_with fail
      clear e0 e1 e2 e3 g0 g1 g2 g3
      refine (shows_any (HM.out.keep0 HF2.out.fr) (HM'.out.keep0 HF2.out.fr) (HL.out.keep HF2.out.fr fun _ _ => id) HT1.out HI1.out HLL.out).mono ?_
      rintro _ w3 ⟨rfl, f3⟩
      have HF3 := Lib.hid (HF2.out.call f3)
      clear f3
      generalize A.shows a b l = sh at *
      cases sh with
      | false =>
        go_wp2_with fail
        go_ret
        exact ⟨ret_int (by rw [HX.out]; rfl), HF3.out.fr⟩
      | true =>
        go_wp2_with fail
        go_ret
        exact ⟨ret_int (by rw [HX.out]; rfl), HF3.out.fr⟩
  · have hb : (ft != 0) = true := by rw [bne_iff_ne]; exact hf
    have HY : Hid (A.check a b l = ft) := show _ = _ by rw [HX.out, if_neg hf]
    clear hf
    go_wp2_with fail
    go_ret
    exact ⟨ret_int HY.out.symm, HF1.out.fr⟩
end Go.Proofs.Ytldmjpnldgekaaa
end
section
namespace Go.Proofs.Ytldmjpnldgekaaa
open Go.RowKit
namespace A
structure Tr where
  p : Pr
  before : Int
  letter : Int
/-- The letters back from a trail; none if the steps do not suffice or a number is no trail. -/
def back : Nat → List Tr → Int → List Int → Option (List Int)
  | 0, _, _, _ => none
  | f + 1, ts, at_, acc =>
    if at_ ≤ 0 then some acc
    else if h : at_.toNat < ts.length then back f ts ts[at_.toNat].before (acc ++ [ts[at_.toNat].letter]) else none
def wordO (f : Nat) (ts : List Tr) : Option (List Int) := (back f ts ((ts.length : Int) - 1) []).map List.reverse
end A
def trC (t : A.Tr) : List Value := [.int .i64 t.p.1, .int .i64 t.p.2, .int .i64 t.before, .int .i64 t.letter]
theorem trC_get : ∀ (ts : List A.Tr) (k i : Nat) (hk : k < ts.length), i < 4 → (ts.flatMap trC)[k * 4 + i]? = (trC ts[k])[i]?
  | t :: ts, 0, i, _, hi => by
    rw [List.flatMap_cons, Nat.zero_mul, Nat.zero_add, List.getElem?_append_left (by simpa [trC] using hi)]
    rfl
  | t :: ts, k + 1, i, hk, hi => by
    rw [List.flatMap_cons, List.getElem?_append_right (by simp only [trC, List.length_cons, List.length_nil]; omega)]
    have e : (k + 1) * 4 + i - (trC t).length = k * 4 + i := by simp only [trC, List.length_cons, List.length_nil]; omega
    rw [e, trC_get ts k i (by simpa using hk) hi]
    rfl
theorem add_zero_off (g j : Nat) : (⟨g, 0, none⟩ : Addr).add j = ⟨g, j, none⟩ := by unfold Addr.add; split <;> simp_all
/-- The trails that were found. -/
def Trs (w : World) (base : Nat) (v : Value) (ts : List A.Tr) : Prop := w.ownsRow base 90 4 v ts.length (ts.flatMap trC)
theorem Trs.at_ {w : World} {base : Nat} {TA : Option Addr} {c : Nat} {ts : List A.Tr} (h : Trs w base (.slice TA ts.length c) ts) {k : Nat} (hk : k < ts.length) : ∃ g, TA = some ⟨g, 0, none⟩ ∧ base ≤ g ∧ w.cell? ⟨g, k * 4, none⟩ = some (.int .i64 ts[k].p.1) ∧ w.cell? ⟨g, k * 4 + 1, none⟩ = some (.int .i64 ts[k].p.2) ∧ w.cell? ⟨g, k * 4 + 2, none⟩ = some (.int .i64 ts[k].before) ∧ w.cell? ⟨g, k * 4 + 3, none⟩ = some (.int .i64 ts[k].letter) := by
  rcases h.2 with ⟨e, hn⟩ | ⟨g, cap, cur, e, hb, _⟩
  · omega
  · injection e with e1 e2 e3
    subst e1
    have hc := @World.ownsRow.cells _ _ _ _ _ _ _ h g rfl
    have key : ∀ i (hi : i < 4) u, (trC ts[k])[i]? = some u → w.cell? ⟨g, k * 4 + i, none⟩ = some u := fun i hi u hu => by
      have this := hc (k * 4 + i) u (by rw [trC_get ts k i hk hi]; exact hu)
      rwa [add_zero_off] at this
    exact ⟨g, rfl, hb, key 0 (by omega) _ rfl, key 1 (by omega) _ rfl, key 2 (by omega) _ rfl, key 3 (by omega) _ rfl⟩
theorem own_form {w : World} {base size n : Nat} {e : TypeId} {v : Value} {xs : List Value} (h : w.ownsRow base e size v n xs) : ∃ A c, v = .slice A n c := by
  rcases h.2 with ⟨rfl, hn⟩ | ⟨g, cap, cur, rfl, _⟩
  · exact ⟨none, 0, by rw [hn]⟩
  · exact ⟨_, cap, rfl⟩
theorem own_ge {w : World} {base size n : Nat} {e : TypeId} {v : Value} {xs : List Value} (h : w.ownsRow base e size v n xs) : ∀ g, v.ownBlock = some g → base ≤ g := by
  intro g hg
  rcases h.2 with ⟨rfl, hn⟩ | ⟨g', cap, cur, rfl, h1, _⟩
  · cases hg
  · simp only [Value.ownBlock, Option.some.injEq] at hg
    omega
theorem Frm.setCells {E : Nat → Prop} {w : World} {g : Nat} (hE : g < w.heap.size → E g) : ∀ (vs : List Value) (o : Nat) (w' : World), Frm E w w' → Frm E w (w'.setCells g o vs)
  | [], _, _, F => F
  | v :: r, o, w', F => by
    unfold World.setCells
    exact Frm.setCells hE r (o + 1) _ (F.set_ (p := ⟨g, o, none⟩) hE v)
theorem reverse_any {w : World} {base : Nat} {u : Value} {l : List Int} (h : w.ownsRow base 3 1 u l.length (l.map fun x => Value.int .i64 x)) (hl : l.length ≤ 1000000000) :
    Calls Try.prog 77 #[u] w fun e w' => e = .returned (.tuple #[]) ∧ Ints w' (fun b => base ≤ b) u l.reverse ∧ Frm (fun b => base ≤ b) w w' := by
  have hc := @World.ownsRow.cells _ _ _ _ _ _ _ h
  rcases h.2 with ⟨rfl, hn⟩ | ⟨g, cap, cur, rfl, hb, hx, h1, h2, h3, h4⟩
  · obtain rfl : l = [] := List.length_eq_zero_iff.1 hn
    refine (Try.slices_Reverse_int_empty none 0 w).mono ?_
    rintro e w' ⟨rfl, rfl⟩
    exact ⟨rfl, ⟨none, 0, rfl, fun k hk => by simp at hk⟩, Frm.refl _ _⟩
  · have hcell : ∀ j, j < l.length → w.cell? ⟨g, 0 + j, none⟩ = some (.int .i64 (l.getD j 0)) := fun j hj => by
      have this := hc rfl j (.int .i64 (l.getD j 0)) (by simp [hj])
      rw [add_zero_off] at this
      rwa [Nat.zero_add]
    refine (Try.slices_Reverse_int_cells g 0 l.length cap l w (Nat.le_refl _) (by omega) hcell (fun j hj => Blk.frozen (cs := cur) hx _)).mono ?_
    rintro e w' ⟨rfl, q, rfl⟩
    rw [List.take_length]
    refine ⟨rfl, ⟨some ⟨g, 0, none⟩, cap, by rw [List.length_reverse], fun k hk => ⟨g, 0, rfl, hb, ?_⟩⟩, Frm.setCells (fun _ => hb) _ _ _ ((Frm.refl _ w).drewN q)⟩
    have hk' : k < l.length := by simpa using hk
    have := World.cell?_setCells_in g (l.reverse.map (Value.int .i64)) 0 (w.drewN q) (fun j hj => by
      have h := hcell j (by simpa using hj)
      have h' : (w.drewN q).cell? ⟨g, 0 + j, none⟩ = _ := h
      rw [h']; rfl) k (by simpa using hk')
    rw [this]
    simp
set_option maxRecDepth 100000 in
set_option maxHeartbeats 4000000 in
theorem wordOf_any {w : World} {base f : Nat} {v : Value} {ts : List A.Tr} {l : List Int} (h : Trs w base v ts) (he : A.wordO f ts = some l) (hlen : ts.length ≤ 1000000000) (hf : f ≤ 1000000000) :
    Calls Try.prog 60 #[v] w fun e w' => ∃ u, e = .returned u ∧ Ints w' (fun b => w.heap.size ≤ b) u l ∧ Frm (fun _ => False) w w' := by
  obtain ⟨TA, tc, rfl⟩ := own_form h
  have HT := Lib.hid h
  have HE := Lib.hid he
  clear h he
  go_enter Try.func60, Try.ntmps60
  go_wp2_with fail
  have he := HE.out
  unfold A.wordO at he
  rw [Option.map_eq_some_iff] at he
  obtain ⟨l', hb, rfl⟩ := he
  have HB := Lib.hid hb
  clear hb HE
  go_loopg [3, 4] f (fun n u i wr => ∃ (acc : List Int) (at_ : Int), i = .int .i64 at_ ∧ acc.length + n ≤ f ∧ Hid (A.back n ts at_ acc = some l') ∧ Hid (wr.ownsRow w.heap.size 3 1 u acc.length (acc.map fun x => Value.int .i64 x)) ∧ Hid (Frm (fun _ => False) w wr))
  case atStart => exact ⟨[], _, rfl, by simp, HB, World.ownsRow_nil _ _ _ _, Frm.refl _ w⟩
  case round =>
    obtain ⟨acc, at_, rfl, hal, HB, HO, HF⟩ := hrel
    cases gk with
    | zero => exact absurd HB.out (by simp [A.back])
    | succ n =>
    have hb := HB.out
    unfold A.back at hb
    split at hb
    · rename_i hle
      have hle' : ¬ (0 < at_) := by omega
      simp only [Option.some.injEq] at hb
      subst hb
      go_wp2_with fail
      refine (reverse_any HO.out (by omega)).mono ?_
      rintro _ w2 ⟨rfl, hI, f2⟩
      have HI := Lib.hid hI
      have HF2 : Hid (Frm (fun _ => False) w w2) := Frm.mono (E := fun b => w.heap.size ≤ b) ((HF.out.mono fun _ _ h => h.elim).trans f2) fun b hb h => by omega
      clear hI f2
      go_wp2_with fail
      go_ret
      exact ⟨_, rfl, HI.out, HF2.out⟩
    · rename_i hgt
      split at hb
      · rename_i hlt
        obtain ⟨q, rfl⟩ : ∃ q : Nat, at_ = (q : Int) := ⟨at_.toNat, by omega⟩
        simp only [Int.toNat_natCast] at hb hlt
        have hq : (q : Int) < (ts.length : Int) := by omega
        have hq0 : (0 : Int) < (q : Int) := by omega
        obtain ⟨g, rfl, hg, hc0, hc1, hc2, hc3⟩ := HT.out.at_ hlt
        have d2 := HF.out.cell id hc2
        have d3 := HF.out.cell id hc3
        obtain ⟨t, ht⟩ : ∃ t, t = ts[q]'hlt := ⟨_, rfl⟩
        rw [← ht] at d2 d3 hb
        have hc2' := hc2
        rw [← ht] at hc2'
        clear ht
        obtain ⟨⟨t1, t2⟩, bf, lt⟩ := t
        dsimp only at d2 d3 hb hc2'
        have HB2 := Lib.hid hb
        obtain ⟨A0, c0, rfl⟩ := own_form HO.out
        obtain ⟨i0, hi, hz0, hz1, hz2⟩ := info_parts info_int
        clear hb hc0 hc1 hc2 hc3
        go_wp2_with (at_builtin; refine wpList_append_own _ rfl _ _ 37 rfl w.heap.size 3 i0 (.int .i64 0) 1 8 Try.underlying37 hi hz0 hz1 hz2 rfl (by decide) _ _ _ rfl (HO.out.alloc _) ⟨wr.heap.size, 0, none⟩ 1 1 [.int .i64 lt] rfl rfl ?y1 ?y2 ?y3 ?y4 ?y5 ?_)
        case y2 => simp [Value.oneCell']
        case y3 => unfold maxLen; omega
        case y4 => omega
        case y5 => have := HF.out.1; first | omega | (simp; omega)
        intro v' w1 hown1 hgrow _
        have HF1 : Hid (Frm (fun _ => False) w w1) := (HF.out.alloc _).own (HO.out.alloc _) hgrow
        have HO1 : Hid (w1.ownsRow w.heap.size 3 1 v' (acc ++ [lt]).length ((acc ++ [lt]).map fun x => Value.int .i64 x)) := by
          rw [List.length_append, List.map_append]; exact hown1
        have HC2 := Lib.hid hc2'
        clear hown1 hgrow d2 d3 hi hz0 hz1 hz2
        have d2 := HF1.out.cell id HC2.out
        go_wp2_with fail
        go_roundg n
        case measure => omega
        case rel => exact ⟨_, _, rfl, by simp only [List.length_append, List.length_cons, List.length_nil]; omega, HB2, HO1, HF1⟩
      · cases hb
end Go.Proofs.Ytldmjpnldgekaaa
end
