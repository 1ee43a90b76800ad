/- The reference's Copy. Words for the reference's Shrunk: the machine of the classes as it is filled. The reference's least machine is the least one; plain. Contracts of the program's functions, with no condition beyond what each theorem states. -/
import Derived.Test.YtmoniecknimmdaaC09
import Derived.Test.YtmoniecknimmdaaC10
import Derived.Lib.SmallJoins
import Derived.Test.YtmoniecknimmdaaC08
section
namespace Go.Proofs.Ytmoniecknimmdaa
open Go.RowKit
theorem MachAt.below {w : World} {P : Nat → Prop} {v : Value} {m : A.Mac} (h : MachAt w P v m) : MachAt w (fun b => b < w.heap.size) v m := by
  obtain ⟨nv, ev, e, ⟨A1, c1, e1, h1⟩, ⟨A2, c2, e2, h2⟩⟩ := h
  refine ⟨nv, ev, e, ⟨A1, c1, e1, fun k hk => ?_⟩, ⟨A2, c2, e2, fun k hk => ?_⟩⟩
  · obtain ⟨g, o, rv, a1, a2, a3, A3, c3, e3, h3⟩ := h1 k hk
    refine ⟨g, o, rv, a1, cell_lt a3, a3, A3, c3, e3, fun j hj => ?_⟩
    obtain ⟨g', o', b1, b2, b3⟩ := h3 j hj
    exact ⟨g', o', b1, cell_lt b3, b3⟩
  · obtain ⟨g, o, a1, a2, a3⟩ := h2 k hk
    exact ⟨g, o, a1, cell_lt a3, a3⟩
def zeroM : Array Value := #[.int .i64 0, .int .i64 0, .slice none 0 0, .slice none 0 0]
/-- A machine's block in which the copy's numbers and End stand. -/
def Half (w : World) (n0 ob : Nat) (m : A.Mac) (nv : Value) : Prop := ∃ ev g, n0 ≤ g ∧ Fresh w 4 ev (m.fin.map Value.bool) g ∧ Blk w ob 25 #[.int .i64 m.letters, .int .i64 m.start, nv, ev]
theorem Half.frm {w w' : World} {n0 ob : Nat} {m : A.Mac} {nv : Value} {E : Nat → Prop} (h : Half w n0 ob m nv) (F : Frm E w w') (h1 : ¬ E ob) (h2 : ∀ g cs, Blk w g 4 cs → ¬ E g) : Half w' n0 ob m nv := by
  obtain ⟨ev, g, hg, hf, hb⟩ := h
  obtain ⟨c, cs, e, hb2, _⟩ := id hf
  exact ⟨ev, g, hg, hf.frm F (h2 g cs hb2), F.blk hb h1⟩
def pB (n0 : Nat) (xs : List Value) (e : TypeId) (v : Value) (w : World) : Prop := ∃ g, n0 ≤ g ∧ Fresh w e v xs g
def eB (n0 : Nat) (e : TypeId) (v : Value) (w : World) : Prop := ∃ b, v = .slice (some ⟨b, 0, none⟩) 0 0 ∧ n0 ≤ b ∧ Blk w b e #[]
/-- What a store into a machine's block does. -/
def RS (n0 : Nat) (a b : World) : Prop := ∃ ob c d, n0 ≤ ob ∧ Blk a ob 25 c ∧ Blk b ob 25 d ∧ c.size = 4 ∧ d.size = 4 ∧ Frm (fun x => x = ob) a b
theorem RS.blk {n0 g : Nat} {a b : World} {t : TypeId} {cs : Array Value} (h : RS n0 a b) (hb : Blk a g t cs) (ht : t ≠ 25) : Blk b g t cs := by
  obtain ⟨ob, c, d, _, h1, _, _, _, F⟩ := h
  refine F.blk hb fun e => ht ?_
  subst e
  have := hb.symm.trans h1
  simp only [Option.some.injEq, Obj.cells.injEq] at this
  exact this.2.1
theorem pB.rs {n0 : Nat} {xs : List Value} {e : TypeId} {v : Value} {a b : World} (h : pB n0 xs e v a) (r : RS n0 a b) (ht : e ≠ 25) : pB n0 xs e v b := by
  obtain ⟨g, hg, c, cs, e1, hb, hc⟩ := h
  exact ⟨g, hg, c, cs, e1, r.blk hb ht, hc⟩
theorem pB.q {n0 : Nat} {xs : List Value} {e : TypeId} {v : Value} {a b : World} (h : pB n0 xs e v a) (r : Frm (fun _ => False) a b) : pB n0 xs e v b := by
  obtain ⟨g, hg, hf⟩ := h
  exact ⟨g, hg, hf.frm r id⟩
theorem eB.rs {n0 : Nat} {e : TypeId} {v : Value} {a b : World} (h : eB n0 e v a) (r : RS n0 a b) (ht : e ≠ 25) : eB n0 e v b := by
  obtain ⟨g, e1, hg, hb⟩ := h
  exact ⟨g, e1, hg, r.blk hb ht⟩
theorem eB.q {n0 : Nat} {e : TypeId} {v : Value} {a b : World} (h : eB n0 e v a) (r : Frm (fun _ => False) a b) : eB n0 e v b := by
  obtain ⟨g, e1, hg, hb⟩ := h
  exact ⟨g, e1, hg, r.blk hb id⟩
/-- A pointer to a new machine's block. -/
def pM (n0 : Nat) (v : Value) (w : World) : Prop := ∃ b cs, v = .pointer (some ⟨b, 0, none⟩) ∧ n0 ≤ b ∧ cs.size = 4 ∧ Blk w b 25 cs
theorem pM.rs {n0 : Nat} {v : Value} {a b : World} (h : pM n0 v a) (r : RS n0 a b) : pM n0 v b := by
  obtain ⟨g, cs, e, hg, hs, hb⟩ := h
  obtain ⟨ob, c, d, _, h1, h2, h3, h4, F⟩ := r
  by_cases e' : g = ob
  · subst e'
    exact ⟨g, d, e, hg, h4, h2⟩
  · exact ⟨g, cs, e, hg, hs, F.blk hb e'⟩
theorem pM.q {n0 : Nat} {v : Value} {a b : World} (h : pM n0 v a) (r : Frm (fun _ => False) a b) : pM n0 v b := by
  obtain ⟨g, cs, e, hg, hs, hb⟩ := h
  exact ⟨g, cs, e, hg, hs, r.blk hb id⟩
/-- A machine's value whose End is a new row. -/
def bM (n0 : Nat) (m : A.Mac) (v : Value) (w : World) : Prop := ∃ ev, v = .agg #[.int .i64 m.letters, .int .i64 m.start, .slice none 0 0, ev] ∧ pB n0 (m.fin.map Value.bool) 4 ev w
def hM (n0 : Nat) (m : A.Mac) (v : Value) (w : World) : Prop := ∃ b, v = .pointer (some ⟨b, 0, none⟩) ∧ n0 ≤ b ∧ Half w n0 b m (.slice none 0 0)
theorem hM.q {n0 : Nat} {m : A.Mac} {v : Value} {a b : World} (h : hM n0 m v a) (r : Frm (fun _ => False) a b) : hM n0 m v b := by
  obtain ⟨ob, e, hg, hh⟩ := h
  exact ⟨ob, e, hg, hh.frm r id fun _ _ _ => id⟩
/-- The rows copied so far. -/
def RowsC (w : World) (n0 : Nat) (nv : Value) (rows : List (List Int)) : Prop := ∃ vals : List Value, vals.length = rows.length ∧ w.ownsRow n0 35 1 nv rows.length vals ∧ ∀ i (h : i < rows.length) (h' : i < vals.length), pB n0 (rows[i].map (Value.int .i64)) 3 vals[i] w
theorem own_type {w : World} {n0 n : Nat} {e : TypeId} {v : Value} {xs : List Value} (h : w.ownsRow n0 e 1 v n xs) {g : Nat} (hg : v.ownBlock = some g) : n0 ≤ g ∧ ∃ cs, Blk w g e cs := by
  rcases h.2 with ⟨rfl, _⟩ | ⟨g', cap, cur, rfl, h1, h2, _⟩
  · cases hg
  · injection hg with hg
    subst hg
    exact ⟨h1, cur, h2⟩
theorem blk_type {w : World} {g : Nat} {t t' : TypeId} {cs cs' : Array Value} (h : Blk w g t cs) (h' : Blk w g t' cs') : t = t' := by
  have := h.symm.trans h'
  simp only [Option.some.injEq, Obj.cells.injEq] at this
  exact this.2.1
theorem pB.fr {n0 : Nat} {xs : List Value} {e : TypeId} {v : Value} {a b : World} {E : Nat → Prop} (h : pB n0 xs e v a) (F : Frm E a b) (hE : ∀ g cs, Blk a g e cs → ¬ E g) : pB n0 xs e v b := by
  obtain ⟨g, hg, c, cs, e1, hb, hc⟩ := h
  exact ⟨g, hg, c, cs, e1, F.blk hb (hE g cs hb), hc⟩
theorem pB.bools {n0 : Nat} {l : List Bool} {v : Value} {w : World} (h : pB n0 (l.map Value.bool) 4 v w) : Bools w (fun b => n0 ≤ b) v l := by
  obtain ⟨g, hg, hf⟩ := h
  obtain ⟨A0, c, e, h⟩ := hf.bools
  exact ⟨A0, c, e, fun k hk => by obtain ⟨g', o, e1, e2, h3⟩ := h k hk; exact ⟨g', o, e1, by rw [e2]; exact hg, h3⟩⟩
theorem pB.ints {n0 : Nat} {l : List Int} {v : Value} {w : World} (h : pB n0 (l.map (Value.int .i64)) 3 v w) : Ints w (fun b => n0 ≤ b) v l := by
  obtain ⟨g, hg, hf⟩ := h
  obtain ⟨A0, c, e, h⟩ := hf.ints
  exact ⟨A0, c, e, fun k hk => by obtain ⟨g', o, e1, e2, h3⟩ := h k hk; exact ⟨g', o, e1, by rw [e2]; exact hg, h3⟩⟩
theorem RowsC.rows2 {w : World} {n0 : Nat} {nv : Value} {rows : List (List Int)} (h : RowsC w n0 nv rows) : Rows2 w (fun b => n0 ≤ b) nv rows := by
  obtain ⟨vals, h1, h2, h3⟩ := h
  obtain ⟨A0, c, rfl⟩ := own_form h2
  refine ⟨A0, c, rfl, fun k hk => ?_⟩
  have hk' : k < vals.length := by omega
  rcases h2.2 with ⟨_, hn⟩ | ⟨g, cap, cur, e, hb, _⟩
  · omega
  · injection e with e1 e2 e3
    subst e1
    have hc := @World.ownsRow.cells _ _ _ _ _ _ _ h2 g rfl k vals[k] (by simp [hk'])
    rw [add_zero_off] at hc
    exact ⟨g, 0, _, rfl, hb, by rw [Nat.zero_add]; exact hc, (h3 k hk hk').ints⟩
def oneB (n1 : Nat) (v9 v8 : Value) (w : World) : Prop := ∃ b, v9 = .slice (some ⟨b, 0, none⟩) 1 1 ∧ n1 ≤ b ∧ Blk w b 35 #[v8]
def growB (n0 k : Nat) (vals : List Value) (v10 v8 : Value) (w : World) : Prop := w.ownsRow n0 35 1 v10 (k + 1) (vals ++ [v8])
def RA (own : Option Nat) (a b : World) : Prop := Frm (fun x => own = some x) a b ∧ ∀ x, own = some x → ∃ cs, Blk a x 35 cs
def RB (ob : Nat) (a b : World) : Prop := Frm (fun x => x = ob) a b ∧ ∃ cs, Blk a ob 25 cs
theorem RA.blk {own : Option Nat} {g : Nat} {a b : World} {t : TypeId} {cs : Array Value} (h : RA own a b) (hb : Blk a g t cs) (ht : t ≠ 35) : Blk b g t cs :=
  h.1.blk hb fun e => by obtain ⟨cs', h'⟩ := h.2 g e; exact ht (blk_type hb h')
theorem RB.blk {ob g : Nat} {a b : World} {t : TypeId} {cs : Array Value} (h : RB ob a b) (hb : Blk a g t cs) (ht : t ≠ 25) : Blk b g t cs :=
  h.1.blk hb fun e => by obtain ⟨cs', h'⟩ := h.2; subst e; exact ht (blk_type hb h')
theorem pB.ra {n0 : Nat} {xs : List Value} {e : TypeId} {v : Value} {own : Option Nat} {a b : World} (h : pB n0 xs e v a) (r : RA own a b) (ht : e ≠ 35) : pB n0 xs e v b := by
  obtain ⟨g, hg, c, cs, e1, hb, hc⟩ := h
  exact ⟨g, hg, c, cs, e1, r.blk hb ht, hc⟩
theorem pB.rb {n0 : Nat} {xs : List Value} {e : TypeId} {v : Value} {ob : Nat} {a b : World} (h : pB n0 xs e v a) (r : RB ob a b) (ht : e ≠ 25) : pB n0 xs e v b := by
  obtain ⟨g, hg, c, cs, e1, hb, hc⟩ := h
  exact ⟨g, hg, c, cs, e1, r.blk hb ht, hc⟩
theorem eB.ra {n0 : Nat} {e : TypeId} {v : Value} {own : Option Nat} {a b : World} (h : eB n0 e v a) (r : RA own a b) (ht : e ≠ 35) : eB n0 e v b := by
  obtain ⟨g, e1, hg, hb⟩ := h
  exact ⟨g, e1, hg, r.blk hb ht⟩
theorem eB.rb {n0 : Nat} {e : TypeId} {v : Value} {ob : Nat} {a b : World} (h : eB n0 e v a) (r : RB ob a b) (ht : e ≠ 25) : eB n0 e v b := by
  obtain ⟨g, e1, hg, hb⟩ := h
  exact ⟨g, e1, hg, r.blk hb ht⟩
theorem Half.ra {n0 ob : Nat} {m : A.Mac} {nv : Value} {own : Option Nat} {a b : World} (h : Half a n0 ob m nv) (r : RA own a b) : Half b n0 ob m nv := by
  obtain ⟨ev, g, hg, ⟨c, cs, e, hb2, hc⟩, hb⟩ := h
  exact ⟨ev, g, hg, ⟨c, cs, e, r.blk hb2 (by decide), hc⟩, r.blk hb (by decide)⟩
theorem growB.rb {n0 k ob : Nat} {vals : List Value} {v10 v8 : Value} {a b : World} (h : growB n0 k vals v10 v8 a) (r : RB ob a b) : growB n0 k vals v10 v8 b :=
  r.1.row h (fun g hg e => by
    obtain ⟨_, cs, h1⟩ := own_type h hg
    obtain ⟨cs', h2⟩ := r.2
    subst e
    have := blk_type h1 h2
    revert this
    decide) (Nat.le_refl _)
theorem wp_app_own {P : Program} {o : Oper} {a : Act} {w : World} {K : Act → World → Prop} {Q : Exit → Act → World → Prop} (s x : Operand) {t e : TypeId} {i : TypeInfo} {z : Value} {bytes n0 n b : Nat} {v u : Value} {xs : List Value}
    (ho : o.op = .call { callee := .builtin .append, args := #[s, x], argTypes := #[t, t] }) (ht : P.underlying t = some (.slice e)) (hi : P.info? e = some i) (hz : i.zero = some z) (hsize : i.size = 1) (hby : i.bytes = bytes) (hzs : z.cells.size = 1)
    (hv : a.eval s = v) (hx : a.eval x = .slice (some ⟨b, 0, none⟩) 1 1) (hown : w.ownsRow n0 e 1 v n xs) (hb : Blk w b e #[u]) (h1 : u.oneCell' = true) (h63 : n + 1 ≤ maxLen) (hbytes : (n + 1) * bytes ≤ 140737488355328) (hbase : n0 ≤ w.heap.size)
    (h : ∀ v' w', w'.ownsRow n0 e 1 v' (n + 1) (xs ++ [u]) → w.grownBy w' v.ownBlock → K (a.put o.dst v') w') : o.wp P a w K Q := by
  obtain ⟨v', w', hr, h2, h3, _, _⟩ := run_append_own_at (P := P) w n0 t o.type e i z 1 bytes ht hi hz hsize hby hzs (by decide) v n xs hown ⟨b, 0, none⟩ 1 1 [u] rfl (fun j y hy => by
    match j, hy with
    | 0, hy =>
      simp only [List.getElem?_cons_zero, Option.some.injEq] at hy
      subst hy
      exact hb.cell 0) (fun y hy => by rw [List.mem_singleton.1 hy]; exact h1) h63 hbytes hbase
  unfold Oper.wp execOp
  simp only [ho, resolve, invoke, builtin, Sem.run_bind, Sem.run_pure, Result.andThen_ok, List.map_toArray, List.map_cons, List.map_nil, hv, hx, hr]
  exact h v' w' h2 h3
theorem info_row : (Try.prog.info? 35).map (fun i => (i.zero, i.size, i.bytes)) = some (some (.slice none 0 0), 1, 24) := by kernel_rfl
set_option maxRecDepth 100000 in
set_option maxHeartbeats 16000000 in
theorem copy_any {w : World} {P : Nat → Prop} {v : Value} {m : A.Mac} (h : MachAt w P v m) (hn : m.next.length ≤ 8000) (he : m.fin.length ≤ 140737488355328) (hr : ∀ row ∈ m.next, row.length * 8 ≤ 140737488355328) :
    Calls Try.prog 9 #[v] w fun e w' => ∃ r, e = .returned r ∧ MachAt w' (fun b => w.heap.size ≤ b) r m ∧ Frm (fun _ => False) w w' := by
  obtain ⟨A1, c1, A2, c2, rfl⟩ := h.form
  have F0 : Frm (fun _ => False) w (w.alloc (.cells (macC m A1 c1 A2 c2) 25)) := (Frm.refl _ w).alloc _
  have bx := Blk.new w 25 (macC m A1 c1 A2 c2)
  have HM := Lib.hid h
  have HR := Lib.hid hr
  have x0 := bx.cell 0
  have x1 := bx.cell 1
  have x2 := bx.cell 2
  have x3 := bx.cell 3
  simp only [macC] at x0 x1 x2 x3
  have BX := Lib.hid bx
  have HF0 := Lib.hid F0
  clear bx F0 h hr
  go_enter Try.func9, Try.ntmps9
  go_wp2_with fail
  obtain ⟨W1, hW1⟩ : ∃ W1, W1 = (w.alloc (.cells #[.int .i64 m.letters, .int .i64 m.start, .slice A1 m.next.length c1, .slice A2 m.fin.length c2] 25)).alloc (.cells #[.int .i64 0, .int .i64 0, .slice none 0 0, .slice none 0 0] 25) := ⟨_, rfl⟩
  have BX1 : Hid (Blk W1 w.heap.size 25 (macC m A1 c1 A2 c2)) := by rw [hW1]; exact BX.out.alloc _
  have BZ1 : Hid (Blk W1 (w.heap.size + 1) 25 zeroM) := by rw [hW1]; exact blk_at (by simp)
  have HF1 : Hid (Frm (fun _ => False) w W1) := by rw [hW1]; exact HF0.out.alloc _
  have HN1 := Lib.hid (show W1.heap.size = w.heap.size + 2 by rw [hW1]; simp)
  rw [← hW1]
  clear hW1 BX HF0 x0 x1 x2 x3
  have HM0 := Lib.hid (MachAt.below HM.out)
  refine wp_region_dep [5, 6, 7, 8, 9, 10, 11, 12, 13, 3, 1000] [[0], [1], [2], [3], [4], [5], [6], [7], [8], [9], [9]]
    [f1 (vV (.pointer (some ⟨w.heap.size, 0, none⟩))), f1 (vV (.int .i64 m.letters)), f1 (vV (.pointer (some ⟨w.heap.size, 1, none⟩))), f1 (vV (.int .i64 m.start)), f1 (eB (w.heap.size + 2) 4), f1 (vV (.pointer (some ⟨w.heap.size, 3, none⟩))), f1 (vV (.slice A2 m.fin.length c2)),
     f1 (pB (w.heap.size + 2) (m.fin.map Value.bool) 4), f1 (bM (w.heap.size + 2) m), f1 (pM (w.heap.size + 2)), f1 (hM (w.heap.size + 2) m)]
    (Frm (fun b => w.heap.size + 2 ≤ b)) (fun i => if i = 10 then RS (w.heap.size + 2) else Frm (fun _ => False)) (fun _ _ => True) [] [(1, .pointer (some ⟨w.heap.size, 0, none⟩))] (by kernel_rfl) (by kernel_rfl) (fun _ _ _ => Frm.trans) ?_ ?_ (fun _ _ _ _ _ _ _ _ _ => trivial) (fun _ => trivial) (fun _ h => by cases h) (Frm.refl _ _).drew ?_ ?_ ?_
  · intro i a b h
    split at h
    · obtain ⟨ob, c, d, h1, _, _, _, _, F⟩ := h
      exact F.mono fun x _ e => by rw [e]; exact h1
    · exact h.mono fun _ _ h => h.elim
  · intro j i hj hi hne hna l a b hf hr
    have hj' : j < 11 := hj
    by_cases h10 : i = 10
    · subst h10
      rw [if_pos rfl] at hr
      have hcs : j = 0 ∨ j = 1 ∨ j = 2 ∨ j = 3 ∨ j = 4 ∨ j = 5 ∨ j = 6 ∨ j = 7 ∨ j = 8 ∨ j = 9 := by omega
      rcases hcs with rfl | rfl | rfl | rfl | rfl | rfl | rfl | rfl | rfl | rfl
      · exact hf
      · exact hf
      · exact hf
      · exact hf
      · exact eB.rs hf hr (by decide)
      · exact hf
      · exact hf
      · exact pB.rs hf hr (by decide)
      · obtain ⟨ev, e, he⟩ := hf
        exact ⟨ev, e, he.rs hr (by decide)⟩
      · exact pM.rs hf hr
    · rw [if_neg h10] at hr
      have hcs : j = 0 ∨ j = 1 ∨ j = 2 ∨ j = 3 ∨ j = 4 ∨ j = 5 ∨ j = 6 ∨ j = 7 ∨ j = 8 ∨ j = 9 ∨ j = 10 := by omega
      rcases hcs with rfl | rfl | rfl | rfl | rfl | rfl | rfl | rfl | rfl | rfl | rfl
      · exact hf
      · exact hf
      · exact hf
      · exact hf
      · exact eB.q hf hr
      · exact hf
      · exact hf
      · exact pB.q hf hr
      · obtain ⟨ev, e, he⟩ := hf
        exact ⟨ev, e, he.q hr⟩
      · exact pM.q hf hr
      · exact hM.q hf hr
  · intro x hx
    simp only [List.mem_cons, List.not_mem_nil, or_false] at hx
    subst hx
    exact ⟨by simp, rfl⟩
  · refine ⟨?_, ?_, ?_, ?_, ?_, ?_, ?_, ?_, ?_, ?_, ?_, trivial⟩
    · intro Q tm df V hR _ hu hd
      have u1 : tm[1]?.getD undef = .pointer (some ⟨w.heap.size, 0, none⟩) := hu (1, _) (by simp)
      clear hu hd
      go_simp
      exact ⟨_, rfl, rfl, Frm.refl _ V⟩
    · intro Q tm df V hR _ hu hd
      have e0 : tm[5]?.getD undef = .pointer (some ⟨w.heap.size, 0, none⟩) := hd 0 (by simp)
      have y := (hR.blk BX1.out (show ¬ w.heap.size + 2 ≤ w.heap.size by omega)).cell 0
      simp only [macC] at y
      clear hu hd
      go_simp
      exact ⟨_, rfl, rfl, Frm.refl _ V⟩
    · intro Q tm df V hR _ hu hd
      have u1 : tm[1]?.getD undef = .pointer (some ⟨w.heap.size, 0, none⟩) := hu (1, _) (by simp)
      clear hu hd
      go_simp
      exact ⟨_, rfl, rfl, Frm.refl _ V⟩
    · intro Q tm df V hR _ hu hd
      have e0 : tm[7]?.getD undef = .pointer (some ⟨w.heap.size, 1, none⟩) := hd 2 (by simp)
      have y := (hR.blk BX1.out (show ¬ w.heap.size + 2 ≤ w.heap.size by omega)).cell 1
      simp only [macC] at y
      clear hu hd
      go_simp
      exact ⟨_, rfl, rfl, Frm.refl _ V⟩
    · intro Q tm df V hR _ hu hd
      clear hu hd
      go_simp
      exact ⟨_, rfl, ⟨V.heap.size, rfl, by have := hR.1; have := HN1.out; omega, Blk.new _ _ _⟩, (Frm.refl _ V).alloc _⟩
    · intro Q tm df V hR _ hu hd
      have u1 : tm[1]?.getD undef = .pointer (some ⟨w.heap.size, 0, none⟩) := hu (1, _) (by simp)
      clear hu hd
      go_simp
      exact ⟨_, rfl, rfl, Frm.refl _ V⟩
    · intro Q tm df V hR _ hu hd
      have e0 : tm[10]?.getD undef = .pointer (some ⟨w.heap.size, 3, none⟩) := hd 5 (by simp)
      have y := (hR.blk BX1.out (show ¬ w.heap.size + 2 ≤ w.heap.size by omega)).cell 3
      simp only [macC] at y
      clear hu hd
      go_simp
      exact ⟨_, rfl, rfl, Frm.refl _ V⟩
    · intro Q tm df V hR _ hu hd
      obtain ⟨b, e0, hb1, hb2⟩ : eB (w.heap.size + 2) 4 (tm[9]?.getD undef) V := hd 4 (by simp)
      have e1 : tm[11]?.getD undef = .slice A2 m.fin.length c2 := hd 6 (by simp)
      obtain ⟨i0, hi0, hz0, hz1, hz2⟩ := info_parts info_boolE
      obtain ⟨nv, ev, ee, _, hE⟩ := (HM0.out.keep0 HF1.out).keep hR fun b hb hb' => by omega
      simp only [Value.agg.injEq, Array.mk.injEq, List.cons.injEq, and_true] at ee
      obtain ⟨_, _, _, rfl⟩ := ee
      refine wp_app_empty (.tmp 9) (.tmp 11) rfl Try.underlying23 hi0 hz0 hz1 hz2 (by simpa [Act.eval] using e0) (by simpa [Act.eval] using e1) hb2 (bools_src hE) (by omega) (by omega) fun v' w' g hg F hf => ?_
      exact ⟨_, rfl, (fun h => by cases h), ⟨g, by have := hR.1; have := HN1.out; rcases hg with rfl | rfl <;> omega, hf⟩, F⟩
    · intro Q tm df V hR _ hu hd
      have e0 : tm[6]?.getD undef = .int .i64 m.letters := hd 1 (by simp)
      have e1 : tm[8]?.getD undef = .int .i64 m.start := hd 3 (by simp)
      obtain ⟨g, hg, c, cs, e2, hb2, hc2⟩ : pB (w.heap.size + 2) (m.fin.map Value.bool) 4 (tm[12]?.getD undef) V := hd 7 (by simp)
      rw [List.length_map] at e2
      clear hu hd
      go_simp
      exact ⟨_, rfl, ⟨_, rfl, g, hg, c, cs, by rw [List.length_map], hb2, hc2⟩, Frm.refl _ V⟩
    · intro Q tm df V hR _ hu hd
      clear hu hd
      go_simp
      exact ⟨_, rfl, ⟨V.heap.size, _, rfl, by have := hR.1; have := HN1.out; omega, rfl, Blk.new _ _ _⟩, (Frm.refl _ V).alloc _⟩
    · intro Q tm df V hR _ hu hd
      obtain ⟨ev, e0, g, hg, c, cs', rfl, hb2, hc2⟩ : bM (w.heap.size + 2) m (tm[13]?.getD undef) V := hd 8 (by simp)
      obtain ⟨b, cs, e1, hb, hs, hbk⟩ : pM (w.heap.size + 2) (tm[3]?.getD undef) V := hd 9 (by simp)
      rw [List.length_map] at e0
      obtain ⟨k0, k1, k2, k3, rfl⟩ : ∃ k0 k1 k2 k3, cs = #[k0, k1, k2, k3] := Go.Joins.array4 hs
      have y0 := hbk.cell 0
      have y1 := hbk.cell 1
      have y2 := hbk.cell 2
      have y3 := hbk.cell 3
      have z0 := hbk.frozen 0
      have z1 := hbk.frozen 1
      have z2 := hbk.frozen 2
      have z3 := hbk.frozen 3
      clear hu hd
      have hrs : RS (w.heap.size + 2) V (put4 V b (.int .i64 m.letters) (.int .i64 m.start) (.slice none 0 0) (.slice (some ⟨g, 0, none⟩) m.fin.length c)) := ⟨b, _, _, hb, hbk, put4_blk hbk, rfl, rfl, put4_frm1⟩
      have hh : Half (put4 V b (.int .i64 m.letters) (.int .i64 m.start) (.slice none 0 0) (.slice (some ⟨g, 0, none⟩) m.fin.length c)) (w.heap.size + 2) b m (.slice none 0 0) := ⟨_, g, hg, ⟨c, cs', by rw [List.length_map], hrs.blk hb2 (by decide), hc2⟩, put4_blk hbk⟩
      have HH := Lib.hid hh
      have HRS := Lib.hid hrs
      clear hrs hh
      go_simp
      exact ⟨⟨b, e1, hb, HH.out⟩, HRS.out⟩
  · intro vs V hR hf
    obtain ⟨ob, e9, hob, hh⟩ : hM (w.heap.size + 2) m (vs 9) V := hf 10 (by decide)
    clear hf
    simp only [putAll, List.size_toArray, List.length_cons, List.length_nil, Nat.zero_add, Nat.reduceAdd, show List.range 11 = [0, 1, 2, 3, 4, 5, 6, 7, 8, 9, 10] from rfl, List.foldl_cons, List.foldl_nil, List.getD_cons_zero, List.getD_cons_succ, List.setIfInBounds_toArray, List.set_cons_zero, List.set_cons_succ, e9]
    go_wp2_with fail
    have HFV : Hid (Frm (fun _ => False) w V) := HF1.out.trans (hR.mono fun b hb h => by have := HN1.out; omega)
    have HBX := Lib.hid (hR.blk BX1.out (show ¬ w.heap.size + 2 ≤ w.heap.size by omega))
    have HBZ := Lib.hid (hR.blk BZ1.out (show ¬ w.heap.size + 2 ≤ w.heap.size + 1 by omega))
    have HH := Lib.hid hh
    have HLV : Hid (w.heap.size + 2 ≤ V.heap.size) := show _ ≤ _ by have := hR.1; have := HN1.out; omega
    clear hh hR BX1 BZ1 HF1 HN1 e9
    go_loopg [4] (m.next.length + 1) (fun n i wr => ∃ (k : Nat) (nv : Value), k ≤ m.next.length ∧ n = m.next.length + 1 - k ∧ i = .int .i64 (k : Int) ∧ Hid (Half wr (w.heap.size + 2) ob m nv) ∧ Hid (RowsC wr (w.heap.size + 2) nv (m.next.take k)) ∧ Hid (Blk wr w.heap.size 25 (macC m A1 c1 A2 c2)) ∧ Hid (Blk wr (w.heap.size + 1) 25 zeroM) ∧ Hid (Frm (fun _ => False) w wr) ∧ Hid (w.heap.size + 2 ≤ wr.heap.size))
    case atStart => exact ⟨0, _, Nat.zero_le _, rfl, rfl, HH, ⟨[], rfl, World.ownsRow_nil _ _ _ _, fun _ h => absurd h (by simp)⟩, HBX, HBZ, HFV, HLV⟩
    case round =>
      obtain ⟨k, nv, hk, rfl, rfl, HH, HC, HBX, HBZ, HF, HLW⟩ := hrel
      have y2 := HBX.out.cell 2
      simp only [macC] at y2
      by_cases hlt : k < m.next.length
      · have hlt' : (k : Int) < (m.next.length : Int) := by omega
        go_wp2_with fail
        obtain ⟨g, o, A3, c3, hA, hc, hrow⟩ := HM0.out.next_at hlt
        subst hA
        obtain ⟨vals, hv1, hv2, hv3⟩ := HC.out
        have hkl : (m.next.take k).length = k := by rw [List.length_take]; omega
        rw [hkl] at hv1 hv2
        have HV2 := Lib.hid hv2
        have HV3 := Lib.hid hv3
        have HV1 := Lib.hid hv1
        have HRW := Lib.hid (show Ints w (fun b => b < w.heap.size) (.slice A3 m.next[k].length c3) m.next[k] from ⟨A3, c3, rfl, hrow⟩)
        have HRL := Lib.hid (HR.out _ (List.getElem_mem hlt))
        have HOWN : Hid (∀ x, nv.ownBlock = some x → w.heap.size + 2 ≤ x ∧ x < wr.heap.size) := fun x hx => World.ownsRow.lt HV2.out x hx
        have HOB : Hid (ob < wr.heap.size) := show _ < _ by obtain ⟨_, _, _, _, hb⟩ := HH.out; exact hb.lt
        have HCW := Lib.hid (show g < w.heap.size from cell_lt hc)
        have HC2 := Lib.hid hc
        clear hv1 hv2 hv3 hrow hc
        generalize hrowe : m.next[k] = row at *
        refine wp_region_dep [21, 22, 23, 24, 25, 26, 27, 28, 29, 30, 31, 32, 1000] [[0], [1], [2], [3], [4], [5], [6], [7], [8], [9, 8], [10, 8], [11], [10]]
          [f1 (vV (.pointer (some ⟨ob, 2, none⟩))), f1 (vV nv), f1 (eB wr.heap.size 3), f1 (vV (.pointer (some ⟨w.heap.size, 2, none⟩))), f1 (vV (.slice (some ⟨g, o, none⟩) m.next.length c1)), f1 (vV (.int .i64 (k : Int))), f1 (vV (.pointer (some ⟨g, o + k, none⟩))), f1 (vV (.slice A3 row.length c3)), f1 (pB wr.heap.size (row.map (Value.int .i64)) 3), f2 (oneB wr.heap.size), f2 (growB (w.heap.size + 2) k vals), f1 (vV (.pointer (some ⟨ob, 2, none⟩))), f1 (fun v w' => Half w' (w.heap.size + 2) ob m v)]
          (Frm (fun b => b = ob ∨ nv.ownBlock = some b)) (fun i => if i = 10 then RA nv.ownBlock else if i = 12 then RB ob else Frm (fun _ => False)) (fun i w' => if i = 10 then w'.ownsRow (w.heap.size + 2) 35 1 nv k vals else if i = 12 ∨ i = 1 then Half w' (w.heap.size + 2) ob m nv else True) []
          [(1, .pointer (some ⟨w.heap.size, 0, none⟩)), (3, .pointer (some ⟨ob, 0, none⟩)), (4, .int .i64 (k : Int))] (by kernel_rfl) (by kernel_rfl) (fun _ _ _ => Frm.trans) ?_ ?_ ?_ ?_ (fun _ h => by cases h) (Frm.refl _ _).drew ?_ ?_ ?_
        · intro i a b h
          split at h
          · exact h.1.mono fun _ _ h => .inr h
          · split at h
            · exact h.1.mono fun _ _ h => .inl h
            · exact h.mono fun _ _ h => h.elim
        · intro j i hj hi hne hna l a b hf hr
          have hj' : j < 13 := hj
          by_cases h10 : i = 10
          · subst h10
            rw [if_pos rfl] at hr
            have hcs : j = 0 ∨ j = 1 ∨ j = 2 ∨ j = 3 ∨ j = 4 ∨ j = 5 ∨ j = 6 ∨ j = 7 ∨ j = 8 ∨ j = 9 ∨ j = 11 ∨ j = 12 := by omega
            rcases hcs with rfl | rfl | rfl | rfl | rfl | rfl | rfl | rfl | rfl | rfl | rfl | rfl
            · exact hf
            · exact hf
            · exact eB.ra hf hr (by decide)
            · exact hf
            · exact hf
            · exact hf
            · exact hf
            · exact hf
            · exact pB.ra hf hr (by decide)
            · obtain ⟨b', e, hb1, hb2⟩ := hf
              refine ⟨b', e, hb1, hr.1.blk hb2 fun e' => ?_⟩
              have := (HOWN.out b' e').2
              omega
            · exact hf
            · simp at hna
          · rw [if_neg h10] at hr
            by_cases h12 : i = 12
            · subst h12
              rw [if_pos rfl] at hr
              have hcs : j = 0 ∨ j = 1 ∨ j = 2 ∨ j = 3 ∨ j = 4 ∨ j = 5 ∨ j = 6 ∨ j = 7 ∨ j = 8 ∨ j = 9 ∨ j = 10 ∨ j = 11 := by omega
              rcases hcs with rfl | rfl | rfl | rfl | rfl | rfl | rfl | rfl | rfl | rfl | rfl | rfl
              · exact hf
              · exact hf
              · exact eB.rb hf hr (by decide)
              · exact hf
              · exact hf
              · exact hf
              · exact hf
              · exact hf
              · exact pB.rb hf hr (by decide)
              · obtain ⟨b', e, hb1, hb2⟩ := hf
                exact ⟨b', e, hb1, hr.blk hb2 (by decide)⟩
              · exact growB.rb hf hr
              · exact hf
            · rw [if_neg h12] at hr
              have hcs : j = 0 ∨ j = 1 ∨ j = 2 ∨ j = 3 ∨ j = 4 ∨ j = 5 ∨ j = 6 ∨ j = 7 ∨ j = 8 ∨ j = 9 ∨ j = 10 ∨ j = 11 ∨ j = 12 := by omega
              rcases hcs with rfl | rfl | rfl | rfl | rfl | rfl | rfl | rfl | rfl | rfl | rfl | rfl | rfl
              · exact hf
              · exact hf
              · exact eB.q hf hr
              · exact hf
              · exact hf
              · exact hf
              · exact hf
              · exact hf
              · exact pB.q hf hr
              · obtain ⟨b', e, hb1, hb2⟩ := hf
                exact ⟨b', e, hb1, hr.blk hb2 id⟩
              · exact hr.row hf (fun _ _ => id) (Nat.le_refl _)
              · exact hf
              · exact Half.frm hf hr id fun _ _ _ => id
        · intro i j hj hne hna a b hf hr
          by_cases h10 : i = 10
          · subst h10
            rw [if_pos rfl] at hf ⊢
            rw [if_neg (Ne.symm hne)] at hr
            by_cases h12 : j = 12
            · subst h12
              simp at hna
            · rw [if_neg h12] at hr
              exact hr.row hf (fun _ _ => id) (Nat.le_refl _)
          · rw [if_neg h10] at hf ⊢
            by_cases h12 : i = 12 ∨ i = 1
            · rw [if_pos h12] at hf ⊢
              by_cases j10 : j = 10
              · rw [if_pos j10] at hr
                exact Half.ra hf hr
              · rw [if_neg j10] at hr
                by_cases j12 : j = 12
                · subst j12
                  rcases h12 with h | h
                  · exact absurd h hne
                  · subst h
                    simp at hna
                · rw [if_neg j12] at hr
                  exact Half.frm hf hr id fun _ _ _ => id
            · rw [if_neg h12]
              trivial
        · intro i
          split
          · exact HV2.out
          · split
            · exact HH.out
            · trivial
        · intro x hx
          simp only [List.mem_cons, List.not_mem_nil, or_false] at hx
          rcases hx with rfl | rfl | rfl <;> exact ⟨by simp, rfl⟩
        · refine ⟨?_, ?_, ?_, ?_, ?_, ?_, ?_, ?_, ?_, ?_, ?_, ?_, ?_, trivial⟩
          · intro Q tm df V hR _ hu hd
            have u1 : tm[3]?.getD undef = .pointer (some ⟨ob, 0, none⟩) := hu (3, _) (by simp)
            clear hu hd
            go_simp
            exact ⟨_, rfl, rfl, Frm.refl _ V⟩
          · intro Q tm df V hR hx hu hd
            obtain ⟨ev, g', _, _, hb⟩ : Half V (w.heap.size + 2) ob m nv := hx
            have e0 : tm[21]?.getD undef = .pointer (some ⟨ob, 2, none⟩) := hd 0 (by simp)
            have y := hb.cell 2
            clear hu hd hb
            go_simp
            exact ⟨_, rfl, rfl, Frm.refl _ V⟩
          · intro Q tm df V hR hx hu hd
            clear hu hd hx
            go_simp
            exact ⟨_, rfl, ⟨V.heap.size, rfl, hR.1, Blk.new _ _ _⟩, (Frm.refl _ V).alloc _⟩
          · intro Q tm df V hR hx hu hd
            have u1 : tm[1]?.getD undef = .pointer (some ⟨w.heap.size, 0, none⟩) := hu (1, _) (by simp)
            clear hu hd hx
            go_simp
            exact ⟨_, rfl, rfl, Frm.refl _ V⟩
          · intro Q tm df V hR hx hu hd
            have e0 : tm[24]?.getD undef = .pointer (some ⟨w.heap.size, 2, none⟩) := hd 3 (by simp)
            have y := (hR.blk HBX.out (by intro h; rcases h with h | h; omega; have := (HOWN.out _ h).1; omega)).cell 2
            simp only [macC] at y
            clear hu hd hx
            go_simp
            exact ⟨_, rfl, rfl, Frm.refl _ V⟩
          · intro Q tm df V hR hx hu hd
            have u1 : tm[4]?.getD undef = .int .i64 (k : Int) := hu (4, _) (by simp)
            clear hu hd hx
            go_simp
            exact ⟨_, rfl, rfl, Frm.refl _ V⟩
          · intro Q tm df V hR hx hu hd
            have e0 : tm[25]?.getD undef = .slice (some ⟨g, o, none⟩) m.next.length c1 := hd 4 (by simp)
            have e1 : tm[26]?.getD undef = .int .i64 (k : Int) := hd 5 (by simp)
            clear hu hd hx
            go_simp
            exact ⟨_, rfl, rfl, Frm.refl _ V⟩
          · intro Q tm df V hR hx hu hd
            have e0 : tm[27]?.getD undef = .pointer (some ⟨g, o + k, none⟩) := hd 6 (by simp)
            have y := hR.cell (by intro h; have h9 := HCW.out; rcases h with h | h; dsimp only at h; omega; have := (HOWN.out _ h).1; dsimp only at this; omega) (HF.out.cell id HC2.out)
            clear hu hd hx
            go_simp
            exact ⟨_, rfl, rfl, Frm.refl _ V⟩
          · intro Q tm df V hR hx hu hd
            obtain ⟨b', e0, hb1, hb2⟩ : eB wr.heap.size 3 (tm[23]?.getD undef) V := hd 2 (by simp)
            have e1 : tm[28]?.getD undef = .slice A3 row.length c3 := hd 7 (by simp)
            obtain ⟨i0, hi0, hz0, hz1, hz2⟩ := info_parts info_int
            have hI := (HRW.out.keep HF.out fun _ _ => id).keep hR (by intro x hx' h; rcases h with h | h; omega; have := (HOWN.out _ h).1; omega)
            have hrl := HRL.out
            refine wp_app_empty (.tmp 23) (.tmp 28) rfl Try.underlying35 hi0 hz0 hz1 hz2 (by simpa [Act.eval] using e0) (by simpa [Act.eval] using e1) hb2 (ints_src hI) (by omega) (by omega) fun v' w' g' hg F hf => ?_
            exact ⟨_, rfl, (fun h => by cases h), ⟨g', by have := hR.1; rcases hg with rfl | rfl <;> omega, hf⟩, F⟩
          · intro Q tm df V hR hx hu hd
            obtain ⟨g8, hg8, c8, cs8, e8, hb8, hc8⟩ : pB wr.heap.size (row.map (Value.int .i64)) 3 (tm[29]?.getD undef) V := hd 8 (by simp)
            rw [List.length_map] at e8
            have HB9 : Hid (Blk (V.alloc (.cells #[.slice (some ⟨g8, 0, none⟩) row.length c8] 35)) V.heap.size 35 #[tm[29]?.getD undef]) := by rw [e8]; exact Blk.new _ _ _
            clear hu hd hx
            go_simp
            exact ⟨_, rfl, ⟨V.heap.size, rfl, hR.1, HB9.out⟩, (Frm.refl _ V).alloc _⟩
          · intro Q tm df V hR hx hu hd
            have hown : V.ownsRow (w.heap.size + 2) 35 1 nv k vals := hx
            have e1 : tm[22]?.getD undef = nv := hd 1 (by simp)
            obtain ⟨b', e9, hb1, hb2⟩ : oneB wr.heap.size (tm[30]?.getD undef) (tm[29]?.getD undef) V := hd 9 (by simp)
            obtain ⟨g8, hg8, c8, cs8, e8, hb8, hc8⟩ : pB wr.heap.size (row.map (Value.int .i64)) 3 (tm[29]?.getD undef) V := hd 8 (by simp)
            obtain ⟨i0, hi0, hz0, hz1, hz2⟩ := info_parts info_row
            refine wp_app_own (.tmp 22) (.tmp 30) rfl Try.underlying22 hi0 hz0 hz1 hz2 rfl (by simpa [Act.eval] using e1) (by simpa [Act.eval] using e9) hown hb2 (by rw [e8]; rfl) (by unfold maxLen; omega) (by omega) (by have := hR.1; have := HLW.out; omega) fun v' w' ho hg => ?_
            exact ⟨v', rfl, (fun h => by cases h), ho, (Frm.refl _ V).grown hg (fun g h _ => h), fun x hx' => (own_type hown hx').2⟩
          · intro Q tm df V hR hx hu hd
            have u1 : tm[3]?.getD undef = .pointer (some ⟨ob, 0, none⟩) := hu (3, _) (by simp)
            clear hu hd hx
            go_simp
            exact ⟨_, rfl, rfl, Frm.refl _ V⟩
          · intro Q tm df V hR hx hu hd
            obtain ⟨ev, g', hg', hf', hb⟩ : Half V (w.heap.size + 2) ob m nv := hx
            have e0 : tm[32]?.getD undef = .pointer (some ⟨ob, 2, none⟩) := hd 11 (by simp)
            have ho : growB (w.heap.size + 2) k vals (tm[31]?.getD undef) (tm[29]?.getD undef) V := hd 10 (by simp)
            obtain ⟨A10, c10, e10⟩ := own_form ho
            have y := hb.cell 2
            have z := hb.frozen 2
            have hrb : RB ob V (V.setCell ⟨ob, 2, none⟩ (.slice A10 (k + 1) c10)) := ⟨(Frm.refl (fun x => x = ob) V).set_ (p := ⟨ob, 2, none⟩) (fun _ => rfl) _, _, hb⟩
            have HRB := Lib.hid hrb
            have HH2 : Hid (Half (V.setCell ⟨ob, 2, none⟩ (.slice A10 (k + 1) c10)) (w.heap.size + 2) ob m (.slice A10 (k + 1) c10)) := by
              obtain ⟨c, cs, e, h1, h2⟩ := hf'
              exact ⟨ev, g', hg', ⟨c, cs, e, hrb.blk h1 (by decide), h2⟩, hb.set_ 2 _⟩
            have H10 := Lib.hid e10
            clear hu hd ho hb hf' hrb
            go_simp
            exact ⟨by rw [show f1 _ _ _ = Half _ _ _ _ _ from rfl, show updV _ 12 undef 10 = tm[31]?.getD undef from rfl, H10.out]; exact HH2.out, HRB.out⟩
        · intro vs V hR hf
          have hN : Half V (w.heap.size + 2) ob m (vs 10) := hf 12 (by decide)
          have hG : growB (w.heap.size + 2) k vals (vs 10) (vs 8) V := hf 10 (by decide)
          have hP : pB wr.heap.size (row.map (Value.int .i64)) 3 (vs 8) V := hf 8 (by decide)
          have hob' := hob
          have HBX2 := Lib.hid (hR.blk HBX.out (by intro h; rcases h with h | h; omega; have := (HOWN.out _ h).1; omega))
          have HBZ2 := Lib.hid (hR.blk HBZ.out (by intro h; rcases h with h | h; omega; have := (HOWN.out _ h).1; omega))
          have HF2 : Hid (Frm (fun _ => False) w V) := ((HF.out.mono fun _ _ h => h.elim).trans hR).mono (by intro x hx h; rcases h with h | h; omega; have := (HOWN.out _ h).1; omega)
          have HLW2 : Hid (w.heap.size + 2 ≤ V.heap.size) := show _ ≤ _ by have := hR.1; have := HLW.out; omega
          have HC2 : Hid (RowsC V (w.heap.size + 2) (vs 10) (m.next.take (k + 1))) := by
            rw [List.take_succ_eq_append_getElem hlt, hrowe]
            refine ⟨vals ++ [vs 8], by simp [HV1.out, hkl], ?_, fun i hi hi' => ?_⟩
            · rw [List.length_append, hkl]
              exact hG
            · by_cases hik : i < k
              · rw [List.getElem_append_left (by rw [hkl]; exact hik), List.getElem_append_left (by rw [HV1.out]; exact hik)]
                refine (HV3.out i (by rw [hkl]; exact hik) (by rw [HV1.out]; exact hik)).fr hR fun g' cs hg' h => ?_
                rcases h with rfl | h
                · obtain ⟨_, _, _, _, hb⟩ := HH.out
                  have := blk_type hg' hb
                  revert this
                  decide
                · obtain ⟨_, cs', hb⟩ := own_type HV2.out h
                  have := blk_type hg' hb
                  revert this
                  decide
              · have hi2 : i = k := by simp [hkl] at hi; omega
                subst hi2
                have e1 : (vals ++ [vs 8])[i]'hi' = vs 8 := by
                  rw [List.getElem_append_right (by rw [HV1.out]; exact Nat.le_refl _)]
                  simp [HV1.out]
                have e2 : (m.next.take i ++ [row])[i]'hi = row := by
                  rw [List.getElem_append_right (by rw [hkl]; exact Nat.le_refl _)]
                  simp [hkl]
                rw [e1, e2]
                obtain ⟨g', hg', hf'⟩ := hP
                exact ⟨g', by have := HLW.out; omega, hf'⟩
          have HN := Lib.hid hN
          clear hN hG hP hf hR
          simp only [putAll, List.size_toArray, List.length_cons, List.length_nil, Nat.zero_add, Nat.reduceAdd, show List.range 13 = [0, 1, 2, 3, 4, 5, 6, 7, 8, 9, 10, 11, 12] from rfl, List.foldl_cons, List.foldl_nil, List.getD_cons_zero, List.getD_cons_succ, List.setIfInBounds_toArray, List.set_cons_zero, List.set_cons_succ]
          go_wp2_with fail
          go_roundg (m.next.length + 1 - (k + 1))
          case measure => omega
          case rel => exact ⟨k + 1, vs 10, by omega, rfl, by go_num, HN, HC2, HBX2, HBZ2, HF2, HLW2⟩
      · have hlt' : ¬ (k : Int) < (m.next.length : Int) := by omega
        obtain rfl : k = m.next.length := by omega
        rw [List.take_length] at HC
        obtain ⟨ev, g, hg, hfr, hb⟩ := HH.out
        obtain ⟨c, cs, rfl, hb2, hc2⟩ := id hfr
        rw [List.length_map] at hb hfr
        obtain ⟨A0, c0, rfl⟩ : ∃ A0 c, nv = .slice A0 m.next.length c := by
          obtain ⟨vals, _, hv2, _⟩ := HC.out
          exact own_form hv2
        have hmach : MachAt wr (fun b => w.heap.size + 2 ≤ b) (.agg #[.int .i64 m.letters, .int .i64 m.start, .slice A0 m.next.length c0, .slice (some ⟨g, 0, none⟩) m.fin.length c]) m := ⟨_, _, rfl, HC.out.rows2, pB.bools ⟨g, hg, hfr⟩⟩
        have HMA := Lib.hid hmach
        have y0 := hb.cell 0
        have y1 := hb.cell 1
        have y2' := hb.cell 2
        have y3 := hb.cell 3
        have z0 := HBZ.out.cell 0
        have z1 := HBZ.out.cell 1
        have z2 := HBZ.out.cell 2
        have z3 := HBZ.out.cell 3
        have q0 := HBZ.out.frozen 0
        have q1 := HBZ.out.frozen 1
        have q2 := HBZ.out.frozen 2
        have q3 := HBZ.out.frozen 3
        simp only [zeroM] at z0 z1 z2 z3
        clear hfr hb2 hc2 hb hmach
        go_wp2_with fail
        have hm2 : MachAt (put4 wr (w.heap.size + 1) (.int .i64 m.letters) (.int .i64 m.start) (.slice A0 m.next.length c0) (.slice (some ⟨g, 0, none⟩) m.fin.length c)) (fun b => w.heap.size ≤ b) (.agg #[.int .i64 m.letters, .int .i64 m.start, .slice A0 m.next.length c0, .slice (some ⟨g, 0, none⟩) m.fin.length c]) m := (HMA.out.keep put4_frm1 fun b hb h => by omega).mono fun b hb => by omega
        refine bodyPost_ret (w := put4 wr (w.heap.size + 1) (.int .i64 m.letters) (.int .i64 m.start) (.slice A0 m.next.length c0) (.slice (some ⟨g, 0, none⟩) m.fin.length c)) (v := .agg #[.int .i64 m.letters, .int .i64 m.start, .slice A0 m.next.length c0, .slice (some ⟨g, 0, none⟩) m.fin.length c]) ?_ rfl ⟨_, rfl, hm2, put4_frm HF.out (by omega)⟩
        have h4 := put4_blk (l := .int .i64 m.letters) (s := .int .i64 m.start) (n := .slice A0 m.next.length c0) (e := .slice (some ⟨g, 0, none⟩) m.fin.length c) HBZ.out
        generalize put4 wr (w.heap.size + 1) (.int .i64 m.letters) (.int .i64 m.start) (.slice A0 m.next.length c0) (.slice (some ⟨g, 0, none⟩) m.fin.length c) = w4 at *
        clear y0 y1 y2 y2' y3 z0 z1 z2 z3 q0 q1 q2 q3
        have y0 := h4.cell 0
        have y1 := h4.cell 1
        have y2 := h4.cell 2
        have y3 := h4.cell 3
        simp [results, Try.results9, go_sem, y0, y1, y2, y3]
end Go.Proofs.Ytmoniecknimmdaa
end
section
namespace Go.Proofs.Ytmoniecknimmdaa
open Go.RowKit
namespace A
/-- How many classes there are, counted. -/
def cntO (cl : List Int) : Nat → Int
  | 0 => 0
  | i + 1 => max (cntO cl i) (cl.getD i 0 + 1)
theorem cntO_ge (cl : List Int) : ∀ i : Nat, 0 ≤ cntO cl i ∧ ∀ s, s < i → cl.getD s 0 + 1 ≤ cntO cl i
  | 0 => ⟨Int.le_refl _, fun s h => absurd h (Nat.not_lt_zero s)⟩
  | i + 1 => by
    obtain ⟨h1, h2⟩ := cntO_ge cl i
    unfold cntO
    refine ⟨by omega, fun s hs => ?_⟩
    by_cases e : s = i
    · subst e; omega
    · have := h2 s (by omega); omega
theorem cntO_le {m : Mac} {cl : List Int} {c : Nat} (h : ClsOK m cl c) : ∀ i : Nat, i ≤ m.next.length → cntO cl i ≤ c
  | 0, _ => by unfold cntO; omega
  | i + 1, hi => by
    have h1 := cntO_le h i (by omega)
    have h2 := h.hi i (by omega)
    unfold cntO
    omega
theorem cntO_eq {m : Mac} {cl : List Int} {c : Nat} (h : ClsOK m cl c) : cntO cl m.next.length = c := by
  have h1 := cntO_le h _ (Nat.le_refl _)
  obtain ⟨h2, h3⟩ := cntO_ge cl m.next.length
  rcases Nat.eq_zero_or_pos c with e | e
  · omega
  · obtain ⟨s, hs, e2⟩ := h.onto (c - 1) (by omega)
    have := h3 s hs
    omega
def rowOf (m : Mac) (cl : List Int) (s : Nat) : List Int := (List.range m.letters.toNat).map fun k : Nat => clL m cl s k
theorem rowOf_len (m : Mac) (cl : List Int) (s : Nat) : (rowOf m cl s).length = m.letters.toNat := by simp [rowOf]
theorem row_eq {l : List Int} {n : Nat} {f : Nat → Int} (hl : l.length = n) (h : ∀ k, k < n → l.getD k 0 = f k) : l = (List.range n).map f := by
  apply List.ext_getElem
  · simp [hl]
  · intro k h1 h2
    have := h k (by omega)
    simp only [List.getElem_map, List.getElem_range]
    rw [← this]
    simp [h1]
/-- What Shrunk tells. -/
def emptyM (m : Mac) : Mac := ⟨m.letters, -1, [], []⟩
def Shr (m o : Mac) : Prop := ∃ cl c, ClsOK m cl c ∧ (((m.start < 0 ∨ (0 ≤ m.start ∧ cl.getD m.start.toNat 0 < 0)) ∧ o = emptyM m) ∨ (0 ≤ m.start ∧ 0 ≤ cl.getD m.start.toNat 0 ∧ ∃ sm st, Reps m cl c sm ∧ fndO sm sm.next.length 0 (fnd0 sm) = some st ∧ Ren sm st o))
theorem Shr.ll {m o : Mac} (h : Shr m o) : o.letters = m.letters := by
  obtain ⟨cl, c, _, ⟨_, rfl⟩ | ⟨_, _, sm, st, h1, _, h3⟩⟩ := h
  · rfl
  · rw [h3.ll, h1.ll]
theorem fnd_start {sm : Mac} (hf : Fits sm) {st : FS} (h : fndO sm sm.next.length 0 (fnd0 sm) = some st) (h0 : 0 ≤ sm.start) : FOK sm st.1.length st ∧ ∃ hp : 0 < st.1.length, st.1[0] = sm.start := by
  obtain ⟨st', h1, h2, h3⟩ := fndO_ok hf sm.next.length 0 (fnd0 sm) (fnd0_ok hf) (Nat.le_refl _)
  rw [h] at h1
  obtain rfl := Option.some.inj h1
  have e : (fnd0 sm).1 = [sm.start] := by unfold fnd0; rw [if_neg (by omega)]
  have hp := h3.pre
  rw [e] at hp
  have hl := hp.length_le
  exact ⟨h2, by simp at hl; omega, by
    have := getElem_pre hp (j := 0) (by simp)
    simpa using this⟩
theorem Shr.fits {m o : Mac} (hf : Fits m) (h : Shr m o) : Fits o ∧ o.next.length ≤ m.next.length ∧ ∃ R, Sim m o R := by
  obtain ⟨cl, c, hc, ⟨hb, rfl⟩ | ⟨h0, h1, sm, st, hr, hfn, hn⟩⟩ := h
  · refine ⟨⟨hf.letters, rfl, ⟨show (-1 : Int) ≤ -1 by decide, show (-1 : Int) < ((0 : Nat) : Int) by decide⟩, fun _ => rfl, fun r hr => by cases hr⟩, Nat.zero_le _, fun x y => y = -1 ∧ R1 m cl x (-1), rfl, ⟨rfl, ?_⟩, fun x y ⟨hy, hR⟩ => ?_, fun x y ⟨hy, hR⟩ k hk => ?_⟩
    · have hs := hf.start
      rcases hb with hb | ⟨hb, hc'⟩
      · exact Or.inl ⟨by have := hs.1; omega, rfl⟩
      · have hs2 := hs.2
        have hlo := hc.lo m.start.toNat (by omega)
        exact Or.inr ⟨m.start.toNat, by omega, by omega, by omega⟩
    · subst hy
      rcases hR with ⟨rfl, _⟩ | ⟨s, hs, rfl, e⟩
      · rw [ends_neg, ends_neg]
      · rw [ends_neg, ends_nat, (hc.dead s hs e.symm).1]
    · subst hy
      rw [lead_neg]
      rcases hR with ⟨rfl, _⟩ | ⟨s, hs, rfl, e⟩
      · rw [lead_neg]
        exact ⟨rfl, Or.inl ⟨rfl, rfl⟩⟩
      · have h2 := (hc.dead s hs e.symm).2 k hk
        have h3 := R1.lead (cl := cl) hf hs hk
        rw [h2] at h3
        exact ⟨rfl, h3⟩
  · have hfs := hr.fits hf hc h0 h1
    have hs0 : 0 ≤ sm.start := by rw [hr.st]; exact h1
    obtain ⟨hok, hp, e0⟩ := fnd_start hfs hfn hs0
    refine ⟨hn.fits hfs hok hp, ?_, _, (hr.sim hf hc h0).trans (hn.sim hfs hok ⟨hp, e0⟩)⟩
    rw [hn.ln]
    have h4 := hok.le
    rw [hr.ln] at h4
    have h5 := hc.le
    omega
end A
theorem Ints.below {w : World} {P : Nat → Prop} {v : Value} {l : List Int} (h : Ints w P v l) : Ints w (fun b => b < w.heap.size) v l := by
  obtain ⟨A0, c, e, h⟩ := h
  exact ⟨A0, c, e, fun k hk => by obtain ⟨g, o, h1, _, h3⟩ := h k hk; exact ⟨g, o, h1, cell_ltR h3, h3⟩⟩
def SmAt (w : World) (lo hi gN gE : Nat) (m : A.Mac) (cl : List Int) (c i : Nat) (rows : List Value) (es : List Bool) : Prop :=
  Blk w gN 35 rows.toArray ∧ Blk w gE 4 (boolCs es) ∧ gN < hi ∧ gE < hi ∧ rows.length = c ∧ es.length = c ∧
  ∀ v : Nat, v < c → (rows.getD v undef = .slice none 0 0 ∧ ∀ s : Nat, s < i → cl.getD s 0 ≠ (v : Int)) ∨
    ∃ s g : Nat, s < i ∧ cl.getD s 0 = (v : Int) ∧ rows.getD v undef = .slice (some ⟨g, 0, none⟩) m.letters.toNat m.letters.toNat ∧ lo ≤ g ∧ g < hi ∧ Blk w g 3 (intCs (A.rowOf m cl s)) ∧ es.getD v false = m.fin.getD s false
section
variable {w w' : World} {lo hi gN gE : Nat} {m : A.Mac} {cl : List Int} {c i : Nat} {rows : List Value} {es : List Bool}
theorem SmAt.frm {E : Nat → Prop} (h : SmAt w lo hi gN gE m cl c i rows es) (F : Frm E w w') (hE : ∀ b, b < hi → ¬ E b) : SmAt w' lo hi gN gE m cl c i rows es := by
  obtain ⟨h1, h2, h3, h4, h5, h6, h7⟩ := h
  refine ⟨F.blk h1 (hE _ h3), F.blk h2 (hE _ h4), h3, h4, h5, h6, fun v hv => ?_⟩
  rcases h7 v hv with h | ⟨s, g, g1, g2, g3, g4, g5, g6, g7⟩
  · exact Or.inl h
  · exact Or.inr ⟨s, g, g1, g2, g3, g4, g5, F.blk g6 (hE _ g5), g7⟩
theorem SmAt.hi_ {hi' : Nat} (h : SmAt w lo hi gN gE m cl c i rows es) (hh : hi ≤ hi') : SmAt w lo hi' gN gE m cl c i rows es := by
  obtain ⟨h1, h2, h3, h4, h5, h6, h7⟩ := h
  refine ⟨h1, h2, by omega, by omega, h5, h6, fun v hv => ?_⟩
  rcases h7 v hv with h | ⟨s, g, g1, g2, g3, g4, g5, g6, g7⟩
  · exact Or.inl h
  · exact Or.inr ⟨s, g, g1, g2, g3, g4, by omega, g6, g7⟩
theorem SmAt.skip (h : SmAt w lo hi gN gE m cl c i rows es) (hc : ∀ v : Nat, v < c → cl.getD i 0 = (v : Int) → rows.getD v undef ≠ .slice none 0 0) : SmAt w lo hi gN gE m cl c (i + 1) rows es := by
  obtain ⟨h1, h2, h3, h4, h5, h6, h7⟩ := h
  refine ⟨h1, h2, h3, h4, h5, h6, fun v hv => ?_⟩
  rcases h7 v hv with ⟨ha, hb⟩ | ⟨s, g, g1, g2⟩
  · refine Or.inl ⟨ha, fun s hs => ?_⟩
    by_cases e : s = i
    · subst e; exact fun e => hc v hv e ha
    · exact hb s (by omega)
  · exact Or.inr ⟨s, g, by omega, g2⟩
theorem SmAt.put {hi' gr v : Nat} (h : SmAt w lo hi gN gE m cl c i rows es) (F : Frm (fun b => b = gN ∨ b = gE) w w') (hh : hi ≤ hi') (hv : v < c) (hcl : cl.getD i 0 = (v : Int)) (hr : Blk w gr 3 (intCs (A.rowOf m cl i))) (hg : lo ≤ gr ∧ gr < hi')
    (h1' : Blk w' gN 35 (rows.toArray.setIfInBounds v (.slice (some ⟨gr, 0, none⟩) m.letters.toNat m.letters.toNat))) (h2' : Blk w' gE 4 (boolCs (es.set v (m.fin.getD i false)))) :
    SmAt w' lo hi' gN gE m cl c (i + 1) (rows.set v (.slice (some ⟨gr, 0, none⟩) m.letters.toNat m.letters.toNat)) (es.set v (m.fin.getD i false)) := by
  obtain ⟨h1, h2, h3, h4, h5, h6, h7⟩ := h
  have key : ∀ {g : Nat} {cs : Array Value}, Blk w g 3 cs → Blk w' g 3 cs := fun {g cs} hb => F.blk hb (by
    rintro (rfl | rfl)
    · exact absurd (blk_type hb h1) (by decide)
    · exact absurd (blk_type hb h2) (by decide))
  refine ⟨by rwa [List.setIfInBounds_toArray] at h1', h2', by omega, by omega, by simp [h5], by simp [h6], fun u hu => ?_⟩
  by_cases e : v = u
  · subst e
    exact Or.inr ⟨i, gr, by omega, hcl, by simp [h5, hv], hg.1, hg.2, key hr, by simp [h6, hv]⟩
  · have e1 : (rows.set v (.slice (some ⟨gr, 0, none⟩) m.letters.toNat m.letters.toNat)).getD u undef = rows.getD u undef := by simp [List.getElem?_set_ne e]
    have e2 : (es.set v (m.fin.getD i false)).getD u false = es.getD u false := by simp [List.getElem?_set_ne e]
    rw [e1, e2]
    rcases h7 u hu with ⟨ha, hb⟩ | ⟨s, g, g1, g2, g3, g4, g5, g6, g7⟩
    · refine Or.inl ⟨ha, fun s hs => ?_⟩
      by_cases e' : s = i
      · subst e'; rw [hcl]; omega
      · exact hb s (by omega)
    · exact Or.inr ⟨s, g, by omega, g2, g3, g4, by omega, key g6, g7⟩
theorem SmAt.done (h : SmAt w lo hi gN gE m cl c m.next.length rows es) (hok : A.ClsOK m cl c) (hN : lo ≤ gN) (hE : lo ≤ gE) : ∃ sm, A.Reps m cl c sm ∧ MachAt w (fun b => lo ≤ b) (.agg #[.int .i64 m.letters, .int .i64 (cl.getD m.start.toNat 0), .slice (some ⟨gN, 0, none⟩) c c, .slice (some ⟨gE, 0, none⟩) c c]) sm := by
  obtain ⟨h1, h2, h3, h4, h5, h6, h7⟩ := h
  have H : ∀ v : Nat, ∃ s : Nat, v < c → ∃ g : Nat, s < m.next.length ∧ cl.getD s 0 = (v : Int) ∧ rows.getD v undef = .slice (some ⟨g, 0, none⟩) m.letters.toNat m.letters.toNat ∧ lo ≤ g ∧ Blk w g 3 (intCs (A.rowOf m cl s)) ∧ es.getD v false = m.fin.getD s false := fun v => by
    by_cases hv : v < c
    · rcases h7 v hv with ⟨_, hb⟩ | ⟨s, g, g1, g2, g3, g4, _, g6, g7⟩
      · obtain ⟨s, hs, e⟩ := hok.onto v hv
        exact absurd e (hb s hs)
      · exact ⟨s, fun _ => ⟨g, g1, g2, g3, g4, g6, g7⟩⟩
    · exact ⟨0, fun h => absurd h hv⟩
  obtain ⟨f, hf⟩ := Classical.axiomOfChoice H
  have hln : ((List.range c).map fun v => A.rowOf m cl (f v)).length = c := by simp
  refine ⟨⟨m.letters, cl.getD m.start.toNat 0, (List.range c).map fun v => A.rowOf m cl (f v), es⟩, ⟨rfl, rfl, by simp, h6, fun v hv => ?_⟩, ?_⟩
  · obtain ⟨g, g1, g2, g3, g4, g5, g6⟩ := hf v hv
    exact ⟨f v, g1, g2, by simp [hv, A.rowOf], g6⟩
  · refine ⟨_, _, rfl, ⟨_, _, by dsimp only; rw [hln], fun k hk => ?_⟩, ⟨_, _, by dsimp only; rw [h6], fun k hk => ?_⟩⟩
    · dsimp only at hk ⊢
      have hk' : k < c := by rw [hln] at hk; exact hk
      obtain ⟨g, g1, g2, g3, g4, g5, g6⟩ := hf k hk'
      have hrk : k < rows.length := by omega
      have e3 : rows[k]? = some (.slice (some ⟨g, 0, none⟩) m.letters.toNat m.letters.toNat) := by rw [← g3]; simp [hrk]
      refine ⟨gN, 0, _, rfl, hN, by rw [Nat.zero_add, h1.cell k, List.getElem?_toArray, e3], ?_⟩
      have := g5.ints_.mono_ (Q := fun b => lo ≤ b) fun b hb => by omega
      rw [A.rowOf_len] at this
      simpa using this
    · dsimp only at hk ⊢
      exact ⟨gE, 0, rfl, hE, by rw [Nat.zero_add, h2.cell k, boolCs_getD hk]; simp [hk]⟩
end
end Go.Proofs.Ytmoniecknimmdaa
end
section
namespace Go.Proofs.Ytmoniecknimmdaa
namespace A
/-- The found states stand in the order in which they were found: i rows have been read, and k letters of the next one. -/
def FOrd (m : Mac) (i k : Nat) (l : List Int) : Prop := ∀ q : Nat, 0 < q → q < l.length → ∃ i' k' : Nat, i' < q ∧ Sc m.letters.toNat i k i' k' ∧ k' < m.letters.toNat ∧ lead m (l.getD i' 0) k' = l.getD q 0 ∧ ∀ i'' k'' : Nat, Bf i'' k'' i' k' → k'' < m.letters.toNat → lead m (l.getD i'' 0) k'' = -1 ∨ ∃ p, p < q ∧ lead m (l.getD i'' 0) k'' = l.getD p 0
theorem getD_app {l : List Int} {x : Int} {i : Nat} (h : i < l.length) : (l ++ [x]).getD i 0 = l.getD i 0 := by
  simp [List.getElem?_append, h]
theorem FOK.known {m : Mac} {i : Nat} {st : FS} (h : FOK m i st) {x : Int} (hx : x = -1 ∨ 0 ≤ st.2.getD x.toNat 0) (h1 : -1 ≤ x) (h2 : x < m.next.length) : x = -1 ∨ ∃ p, p < st.1.length ∧ x = st.1.getD p 0 := by
  by_cases e : x = -1
  · exact .inl e
  · rcases hx with hx | hx
    · exact .inl hx
    · rcases h.plc x.toNat (by omega) with hp | ⟨j, hj, _, e2⟩
      · omega
      · exact .inr ⟨j, hj, by simp [hj, e2]; omega⟩
theorem fRow_ord {m : Mac} (hf : Fits m) {i s : Nat} {st : FS} (h : FOK m i st) (hi : i < st.1.length) (hs : st.1[i] = (s : Int)) (ho : FOrd m i 0 st.1) : ∀ n : Nat, (n : Int) ≤ m.letters → FOrd m i n (fRow m (s : Int) n st).1
  | 0, _ => ho
  | n + 1, hn => by
    have ih := fRow_ord hf h hi hs ho n (by omega)
    have hsl : s < m.next.length := by have := (h.ord i hi).2.1; omega
    obtain ⟨g1, g2, g3⟩ := fRow_ok hf h hsl n (by omega)
    obtain ⟨i1, i2⟩ := lead_in hf hsl (k := n) (by omega)
    have hgi : (fRow m (s : Int) n st).1.getD i 0 = (s : Int) := by
      have h2 := Nat.lt_of_lt_of_le hi g2.pre.length_le
      have := getElem_pre g2.pre hi
      simp [h2, this, hs]
    have hil := Nat.lt_of_lt_of_le hi g2.pre.length_le
    unfold fRow fStep
    generalize fRow m (s : Int) n st = st' at *
    have hgrow : ∀ i' k', Sc m.letters.toNat i n i' k' → Sc m.letters.toNat i (n + 1) i' k' := fun i' k' h => by
      rcases h with h | h
      · exact .inl h
      · exact .inr ⟨h.1, by omega⟩
    split
    · rename_i hc
      obtain ⟨c1, c2⟩ := hc
      dsimp only
      intro q hq hq2
      rw [List.length_append, List.length_singleton] at hq2
      by_cases e : q = st'.1.length
      · subst e
        refine ⟨i, n, hil, .inr ⟨rfl, Nat.lt_succ_self _⟩, by omega, ?_, fun i'' k'' hb hk => ?_⟩
        · rw [getD_app hil, hgi]
          simp
        · have hi'' : i'' < st'.1.length := by rcases hb with hb | hb <;> omega
          rw [getD_app hi'']
          have hin : In m (st'.1.getD i'' 0) := by
            obtain ⟨o1, o2, _⟩ := g1.ord i'' hi''
            have : st'.1.getD i'' 0 = st'.1[i''] := by simp [hi'']
            rw [this]
            exact ⟨by omega, o2⟩
          obtain ⟨l1, l2⟩ := hf.lead hin (k := (k'' : Int)) (by omega) (by omega)
          have hkn : lead m (st'.1.getD i'' 0) k'' = -1 ∨ 0 ≤ st'.2.getD (lead m (st'.1.getD i'' 0) k'').toNat 0 := by
            rcases hb with hb | ⟨rfl, hb⟩
            · have : st'.1.getD i'' 0 = st'.1[i''] := by simp [hi'']
              rw [this]
              exact g1.cl i'' hi'' hb k'' (by omega)
            · rw [hgi]
              exact g3 k'' hb
          rcases g1.known hkn l1 l2 with hkn | ⟨p, hp, hkn⟩
          · exact .inl hkn
          · exact .inr ⟨p, hp, by rw [getD_app hp]; exact hkn⟩
      · obtain ⟨i', k', a1, a2, a3, a4, a5⟩ := ih q hq (by omega)
        refine ⟨i', k', a1, hgrow _ _ a2, a3, ?_, fun i'' k'' hb hk => ?_⟩
        · rw [getD_app (by omega), getD_app (by omega)]
          exact a4
        · rw [getD_app (by rcases hb with hb | hb <;> omega)]
          rcases a5 i'' k'' hb hk with h5 | ⟨p, hp, h5⟩
          · exact .inl h5
          · exact .inr ⟨p, hp, by rw [getD_app (by omega)]; exact h5⟩
    · intro q hq hq2
      obtain ⟨i', k', a1, a2, a3, a4, a5⟩ := ih q hq hq2
      exact ⟨i', k', a1, hgrow _ _ a2, a3, a4, a5⟩
theorem FOrd.row {m : Mac} {i : Nat} {l : List Int} (h : FOrd m i m.letters.toNat l) : FOrd m (i + 1) 0 l := fun q hq hq2 => by
  obtain ⟨i', k', a1, a2, a3⟩ := h q hq hq2
  refine ⟨i', k', a1, ?_, a3⟩
  rcases a2 with a2 | a2
  · exact .inl ⟨by omega, a2.2⟩
  · exact .inl ⟨by omega, a2.2⟩
theorem fndO_ord {m : Mac} (hf : Fits m) : ∀ (f i : Nat) (st st' : FS), FOK m i st → FOrd m i 0 st.1 → fndO m f i st = some st' → ∃ i', FOrd m i' 0 st'.1
  | f, i, st, st', h, ho, he => by
    unfold fndO at he
    by_cases hi : i < st.1.length
    · rw [dif_pos hi] at he
      cases f with
      | zero => cases he
      | succ f =>
        dsimp only at he
        obtain ⟨s, hs⟩ := Int.eq_ofNat_of_zero_le (h.ord i hi).1
        obtain ⟨g1, _⟩ := fRow_next hf h hi
        have hl := hf.letters
        have g2 := (fRow_ord hf h hi hs ho m.letters.toNat (by omega)).row
        rw [← hs] at g2
        exact fndO_ord hf f (i + 1) _ st' g1 g2 he
    · rw [dif_neg hi] at he
      injection he with he
      subst he
      exact ⟨i, ho⟩
theorem fnd0_ord {m : Mac} : FOrd m 0 0 (fnd0 m).1 := fun q hq hq2 => by
  unfold fnd0 at hq2
  split at hq2 <;> simp at hq2
  omega
theorem FOK.inj {m : Mac} {i : Nat} {st : FS} (h : FOK m i st) {a b : Nat} (ha : a < st.1.length) (hb : b < st.1.length) (e : st.1[a] = st.1[b]) : a = b := by
  have h1 := (h.ord a ha).2.2
  have h2 := (h.ord b hb).2.2
  rw [e] at h1
  omega
theorem Ren.lead {m o : Mac} {st : FS} (r : Ren m st o) {j k : Nat} (hj : j < st.1.length) (hk : (k : Int) < m.letters) : lead o j k = plL m st st.1[j] k := by
  rw [lead_nat o, (r.row j hj).1]
  have hkl : k < m.letters.toNat := by omega
  simp [hkl]
theorem Ren.ord {m o : Mac} {st : FS} (hf : Fits m) (h : FOK m st.1.length st) (r : Ren m st o) {i0 : Nat} (ho : FOrd m i0 0 st.1) : ∀ j : Nat, 0 < j → j < o.next.length → ∃ i k : Nat, i < j ∧ (k : Int) < o.letters ∧ A.lead o i k = j ∧ ∀ i' k' : Nat, (i' < i ∨ (i' = i ∧ k' < k)) → (k' : Int) < o.letters → A.lead o i' k' < j := by
  intro q hq hq2
  have hl := hf.letters
  have hq3 : q < st.1.length := by rw [← r.ln]; exact hq2
  have hg : ∀ p, (hp : p < st.1.length) → st.1.getD p 0 = st.1[p] := fun p hp => by simp [hp]
  have key : ∀ i k : Nat, i < st.1.length → k < m.letters.toNat → (A.lead m (st.1.getD i 0) k = -1 ∧ A.lead o i k = -1) ∨ ∃ p, ∃ hp : p < st.1.length, A.lead m (st.1.getD i 0) k = st.1[p] ∧ A.lead o i k = (p : Int) := fun i k hi hk => by
    rw [r.lead hi (by omega), hg i hi]
    exact R2.lead hf h hi (by omega)
  obtain ⟨i, k, a1, a2, a3, a4, a5⟩ := ho q hq hq3
  refine ⟨i, k, a1, by rw [r.ll]; omega, ?_, fun i' k' hb hk => ?_⟩
  · rw [hg q hq3] at a4
    rcases key i k (by omega) a3 with ⟨b1, _⟩ | ⟨p, hp, b1, b2⟩
    · have := (h.ord q hq3).1
      omega
    · have := h.inj hp hq3 (b1.symm.trans a4)
      rw [b2, this]
  · rw [r.ll] at hk
    have hi' : i' < st.1.length := by rcases hb with hb | hb <;> omega
    rcases key i' k' hi' (by omega) with ⟨b1, b2⟩ | ⟨p, hp, b1, b2⟩
    · rw [b2]; omega
    · rcases a5 i' k' hb (by omega) with c | ⟨p', hp', c⟩
      · have := (h.ord p hp).1
        omega
      · rw [hg p' (by omega)] at c
        have := h.inj hp (by omega) (b1.symm.trans c)
        rw [b2]; omega
theorem Shr.least {m o : Mac} (hf : Fits m) (h : Shr m o) : LeastOf m o := by
  obtain ⟨f1, f2, R, S⟩ := h.fits hf
  obtain ⟨cl, c, hc, ⟨hb, rfl⟩ | ⟨h0, h1, sm, st, hr, hfn, hn⟩⟩ := h
  · refine noM_least hf.letters ?_
    have hs := hf.start
    rcases hb with hb | ⟨hb, hc'⟩
    · rw [show m.start = -1 by have := hs.1; omega]
      exact alive_not
    · have := hc.lv m.start.toNat (by have := hs.2; omega)
      rw [show ((m.start.toNat : Nat) : Int) = m.start by omega] at this
      exact fun ha => by have := this.2 ha; omega
  · have hfs := hr.fits hf hc h0 h1
    have hs0 : 0 ≤ sm.start := by rw [hr.st]; exact h1
    obtain ⟨hok, hp, e0⟩ := fnd_start hfs hfn hs0
    obtain ⟨i0, ho⟩ := fndO_ord hfs _ _ _ _ (fnd0_ok hfs) fnd0_ord hfn
    have S1 := hr.sim hf hc h0
    have S2 := hn.sim hfs hok ⟨hp, e0⟩
    have hrep : ∀ j, (hj : j < st.1.length) → ∃ x : Nat, x < m.next.length ∧ cl.getD x 0 = st.1[j] ∧ Eqv m o x j := fun j hj => by
      obtain ⟨q1, q2, _⟩ := hok.ord j hj
      rw [hr.ln] at q2
      obtain ⟨x, x1, x2⟩ := hc.onto st.1[j].toNat (by omega)
      have x3 : cl.getD x 0 = st.1[j] := by rw [x2]; omega
      refine ⟨x, x1, x3, ?_⟩
      have e1 : Eqv m sm x st.1[j] := S1.eqv (Or.inr ⟨x, x1, rfl, x3.symm⟩)
      exact e1.trans hr.ll.symm (S2.eqv (Or.inr ⟨j, hj, rfl, rfl⟩))
    have hll : m.letters = o.letters := by rw [hn.ll, hr.ll]
    refine ⟨⟨f1, .inr hn.so, fun s hs => ?_, fun s t hs ht hne => ?_, hn.ord hfs hok ho⟩, hll.symm, S.eqv S.st, f2⟩
    · have hs' : s < st.1.length := by rw [← hn.ln]; exact hs
      obtain ⟨x, x1, x2, x3⟩ := hrep s hs'
      refine x3.alive hll ((hc.lv x x1).1 ?_)
      rw [x2]
      exact (hok.ord s hs').1
    · have hs' : s < st.1.length := by rw [← hn.ln]; exact hs
      have ht' : t < st.1.length := by rw [← hn.ln]; exact ht
      obtain ⟨x, x1, x2, x3⟩ := hrep s hs'
      obtain ⟨y, y1, y2, y3⟩ := hrep t ht'
      refine x3.tell hll y3 (hc.tl x y x1 y1 fun e => hne ?_)
      rw [x2, y2] at e
      exact hok.inj hs' ht' e
end A
end Go.Proofs.Ytmoniecknimmdaa
end
