/- The reference's Shrunk. Least, auto's and the reference's, at every machine. small. AutoLeast: the law's walk. What comes in, as it lies in memory: ints, rows of ints, bools, pairs, machines. What comes in, as it lies in memory, with the bounds that the reach gives. Contracts of the program's functions, with no condition beyond what each theorem states. -/
import Derived.Test.YtmoniecknimmdaaC11
import Derived.Lib.SmallJoins
import Derived.Test.YtmoniecknimmdaaC08
import Derived.Test.YtmoniecknimmdaaC10
import Derived.Test.YtmoniecknimmdaaC06
import Derived.Test.YtmoniecknimmdaaC02
import Derived.Deep.Matrix
import Derived.Deep.SlicePairs
import Derived.WalkKit
import Derived.ProofKit
import Derived.OpenShut
import Derived.SizedLaws
section
namespace Go.Proofs.Ytmoniecknimmdaa
open Go.RowKit
def mkB (n1 : Nat) (e : TypeId) (cs : Array Value) (k : Nat) (v : Value) (w : World) : Prop := ∃ g, v = .slice (some ⟨g, 0, none⟩) k k ∧ n1 ≤ g ∧ Blk w g e cs
def nilCs (c : Nat) : Array Value := madeCells #[.slice none 0 0] c
def smB (n1 L s c : Nat) (v : Value) (w : World) : Prop := ∃ gN gE, v = .agg #[.int .i64 (L : Int), .int .i64 (s : Int), .slice (some ⟨gN, 0, none⟩) c c, .slice (some ⟨gE, 0, none⟩) c c] ∧ n1 ≤ gN ∧ n1 ≤ gE ∧ Blk w gN 35 (nilCs c) ∧ Blk w gE 4 (boolCs (List.replicate c false))
def smP (n1 L s c : Nat) (v : Value) (w : World) : Prop := ∃ ob gN gE, v = .pointer (some ⟨ob, 0, none⟩) ∧ n1 ≤ ob ∧ n1 ≤ gN ∧ n1 ≤ gE ∧ Blk w ob 25 #[.int .i64 (L : Int), .int .i64 (s : Int), .slice (some ⟨gN, 0, none⟩) c c, .slice (some ⟨gE, 0, none⟩) c c] ∧ Blk w gN 35 (nilCs c) ∧ Blk w gE 4 (boolCs (List.replicate c false))
theorem mkB.rs {n1 k : Nat} {e : TypeId} {cs : Array Value} {v : Value} {a b : World} (h : mkB n1 e cs k v a) (r : RS n1 a b) (ht : e ≠ 25) : mkB n1 e cs k v b := by
  obtain ⟨g, e1, hg, hb⟩ := h
  exact ⟨g, e1, hg, r.blk hb ht⟩
theorem mkB.q {n1 k : Nat} {e : TypeId} {cs : Array Value} {v : Value} {a b : World} (h : mkB n1 e cs k v a) (r : Frm (fun _ => False) a b) : mkB n1 e cs k v b := by
  obtain ⟨g, e1, hg, hb⟩ := h
  exact ⟨g, e1, hg, r.blk hb id⟩
theorem smB.rs {n1 L s c : Nat} {v : Value} {a b : World} (h : smB n1 L s c v a) (r : RS n1 a b) : smB n1 L s c v b := by
  obtain ⟨gN, gE, e1, h1, h2, h3, h4⟩ := h
  exact ⟨gN, gE, e1, h1, h2, r.blk h3 (by decide), r.blk h4 (by decide)⟩
theorem smB.q {n1 L s c : Nat} {v : Value} {a b : World} (h : smB n1 L s c v a) (r : Frm (fun _ => False) a b) : smB n1 L s c v b := by
  obtain ⟨gN, gE, e1, h1, h2, h3, h4⟩ := h
  exact ⟨gN, gE, e1, h1, h2, r.blk h3 id, r.blk h4 id⟩
theorem smP.q {n1 L s c : Nat} {v : Value} {a b : World} (h : smP n1 L s c v a) (r : Frm (fun _ => False) a b) : smP n1 L s c v b := by
  obtain ⟨ob, gN, gE, e1, h1, h2, h3, h4, h5, h6⟩ := h
  exact ⟨ob, gN, gE, e1, h1, h2, h3, r.blk h4 id, r.blk h5 id, r.blk h6 id⟩
theorem RS.frm {n1 : Nat} {a b : World} (h : RS n1 a b) : Frm (fun x => n1 ≤ x) a b := by
  obtain ⟨ob, _, _, h1, _, _, _, _, F⟩ := h
  exact F.mono fun x _ e => by rw [e]; exact h1
/-- The machine that is handed back, as it is filled. -/
def OutAt (w : World) (n2 ob L : Nat) (nv ev : Value) (rows : List (List Int)) (es : List Bool) : Prop := Blk w ob 25 #[.int .i64 (L : Int), .int .i64 0, nv, ev] ∧ RowsC w n2 nv rows ∧ w.ownsRow n2 4 1 ev es.length (es.map Value.bool)
theorem RowsC.frm {w w' : World} {n2 : Nat} {nv : Value} {rows : List (List Int)} {E : Nat → Prop} (h : RowsC w n2 nv rows) (F : Frm E w w') (hE : ∀ b, b < w.heap.size → ¬ E b) : RowsC w' n2 nv rows := by
  obtain ⟨vals, h1, h2, h3⟩ := h
  exact ⟨vals, h1, F.row h2 (fun g hg => by obtain ⟨_, cs, hb⟩ := own_type h2 hg; exact hE g hb.lt) (Nat.le_refl _), fun i h h' => (h3 i h h').fr F fun g cs hb => hE g hb.lt⟩
theorem RowsC.typ {w w' : World} {n2 : Nat} {nv : Value} {rows : List (List Int)} {E : Nat → Prop} (h : RowsC w n2 nv rows) (F : Frm E w w') (hE : ∀ b cs, Blk w b 35 cs → ¬ E b) (hE' : ∀ b cs, Blk w b 3 cs → ¬ E b) : RowsC w' n2 nv rows := by
  obtain ⟨vals, h1, h2, h3⟩ := h
  exact ⟨vals, h1, F.row h2 (fun g hg => by obtain ⟨_, cs, hb⟩ := own_type h2 hg; exact hE g cs hb) (Nat.le_refl _), fun i h h' => (h3 i h h').fr F fun g cs hb => hE' g cs hb⟩
theorem OutAt.frm {w w' : World} {n2 ob L : Nat} {nv ev : Value} {rows : List (List Int)} {es : List Bool} {E : Nat → Prop} (h : OutAt w n2 ob L nv ev rows es) (F : Frm E w w') (hE : ∀ b, b < w.heap.size → ¬ E b) : OutAt w' n2 ob L nv ev rows es :=
  ⟨F.blk h.1 (hE _ h.1.lt), h.2.1.frm F hE, F.row h.2.2 (fun g hg => by obtain ⟨_, cs, hb⟩ := own_type h.2.2 hg; exact hE g hb.lt) (Nat.le_refl _)⟩
theorem RowsC.push {w w4 : World} {n2 gr K : Nat} {nv v' : Value} {rows : List (List Int)} {vals : List Value} {l : List Int} (h1 : vals.length = rows.length) (h2 : w.ownsRow n2 35 1 nv rows.length vals) (h3 : ∀ i (h : i < rows.length) (h' : i < vals.length), pB n2 (rows[i].map (Value.int .i64)) 3 vals[i] w)
    (hr : Blk w gr 3 (intCs l)) (hg : n2 ≤ gr) (hl : l.length = K) (F : Frm (fun x => nv.ownBlock = some x) w w4) (hown : w4.ownsRow n2 35 1 v' (rows.length + 1) (vals ++ [.slice (some ⟨gr, 0, none⟩) K K])) : RowsC w4 n2 v' (rows ++ [l]) := by
  have key : ∀ {g : Nat} {cs : Array Value}, Blk w g 3 cs → ¬ nv.ownBlock = some g := fun {g cs} hb e => by
    obtain ⟨_, cs', hb'⟩ := own_type h2 e
    exact absurd (blk_type hb hb') (by decide)
  refine ⟨vals ++ [.slice (some ⟨gr, 0, none⟩) K K], by simp [h1], by rw [List.length_append]; exact hown, fun i hi hi' => ?_⟩
  by_cases e : i < rows.length
  · rw [List.getElem_append_left e, List.getElem_append_left (by omega)]
    exact (h3 i e (by omega)).fr F fun g cs hb => key hb
  · have hi2 : i = rows.length := by simp at hi; omega
    subst hi2
    have e1 : (vals ++ [Value.slice (some ⟨gr, 0, none⟩) K K])[rows.length]'hi' = .slice (some ⟨gr, 0, none⟩) K K := by
      rw [List.getElem_append_right (by omega)]
      simp [h1]
    have e2 : (rows ++ [l])[rows.length]'hi = l := by
      rw [List.getElem_append_right (Nat.le_refl _)]
      simp
    rw [e1, e2]
    exact ⟨gr, hg, K, intCs l, by rw [List.length_map, hl], F.blk hr (key hr), fun k hk => by simp [intCs]⟩
def oneE (n1 : Nat) (b : Bool) (v : Value) (w : World) : Prop := ∃ g, v = .slice (some ⟨g, 0, none⟩) 1 1 ∧ n1 ≤ g ∧ Blk w g 4 #[.bool b]
def growE (n0 k : Nat) (es : List Bool) (b : Bool) (v : Value) (w : World) : Prop := w.ownsRow n0 4 1 v (k + 1) (es.map Value.bool ++ [.bool b])
def RAe (own : Option Nat) (a b : World) : Prop := Frm (fun x => own = some x) a b ∧ ∀ x, own = some x → ∃ cs, Blk a x 4 cs
theorem RAe.blk {own : Option Nat} {g : Nat} {a b : World} {t : TypeId} {cs : Array Value} (h : RAe own a b) (hb : Blk a g t cs) (ht : t ≠ 4) : Blk b g t cs :=
  h.1.blk hb fun e => by obtain ⟨cs', h'⟩ := h.2 g e; exact ht (blk_type hb h')
theorem growE.rb {n0 k ob : Nat} {es : List Bool} {bo : Bool} {v : Value} {a b : World} (h : growE n0 k es bo v a) (r : RB ob a b) : growE n0 k es bo v b :=
  r.1.row h (fun g hg e => by
    obtain ⟨_, cs, h1⟩ := own_type h hg
    obtain ⟨cs', h2⟩ := r.2
    subst e
    have := blk_type h1 h2
    revert this
    decide) (Nat.le_refl _)
/-- A block that holds no machine. -/
def NM (w : World) (b : Nat) : Prop := ∃ t cs, Blk w b t cs ∧ t ≠ 25
theorem RowsC.rows2T {w : World} {n0 : Nat} {nv : Value} {rows : List (List Int)} (h : RowsC w n0 nv rows) : Rows2 w (fun b => n0 ≤ b ∧ NM w b) nv rows := by
  obtain ⟨vals, h1, h2, h3⟩ := h
  obtain ⟨A0, c, rfl⟩ := own_form h2
  refine ⟨A0, c, rfl, fun k hk => ?_⟩
  have hk' : k < vals.length := by omega
  rcases id h2.2 with ⟨_, hn⟩ | ⟨g, cap, cur, e, hb, hbk, _⟩
  · omega
  · injection e with e1 e2 e3
    subst e1
    have hc := @World.ownsRow.cells _ _ _ _ _ _ _ h2 g rfl k vals[k] (by simp [hk'])
    rw [add_zero_off] at hc
    obtain ⟨g', hg', hf⟩ := h3 k hk hk'
    have hI := hf.ints
    obtain ⟨c', cs', e', hb', _⟩ := hf
    exact ⟨g, 0, _, rfl, ⟨hb, _, _, hbk, by decide⟩, by rw [Nat.zero_add]; exact hc, hI.mono_ fun b hb => by subst hb; exact ⟨hg', _, _, hb', by decide⟩⟩
theorem own_boolsT {w : World} {n2 : Nat} {ev : Value} {es : List Bool} (h : w.ownsRow n2 4 1 ev es.length (es.map Value.bool)) : Bools w (fun b => n2 ≤ b ∧ NM w b) ev es := by
  obtain ⟨A0, c, rfl⟩ := own_form h
  refine ⟨A0, c, rfl, fun k hk => ?_⟩
  rcases id h.2 with ⟨_, hn⟩ | ⟨g, cap, cur, e, hb, hbk, _⟩
  · omega
  · injection e with e1 e2 e3
    subst e1
    have hc := @World.ownsRow.cells _ _ _ _ _ _ _ h g rfl k (.bool es[k]) (by simp [hk])
    rw [add_zero_off] at hc
    exact ⟨g, 0, rfl, ⟨hb, _, _, hbk, by decide⟩, by rw [Nat.zero_add]; exact hc⟩
theorem NM.frm {w w' : World} {b : Nat} {E : Nat → Prop} (h : NM w b) (F : Frm E w w') (hE : ¬ E b) : NM w' b := by
  obtain ⟨t, cs, hb, ht⟩ := h
  exact ⟨t, cs, F.blk hb hE, ht⟩
set_option maxRecDepth 100000 in
set_option maxHeartbeats 16000000 in
theorem shrunk_any {w : World} {P : Nat → Prop} {v : Value} {m : A.Mac} (h : MachAt w P v m) (hf : A.Fits m) (hn : m.next.length ≤ 4000) (hl3 : m.letters ≤ 300) :
    Calls Try.prog 19 #[v] w fun e w' => ∃ r o, e = .returned r ∧ MachAt w' (fun b => w.heap.size ≤ b ∧ NM w' b) r o ∧ A.Shr m o ∧ Frm (fun _ => False) w w' := by
  obtain ⟨A1, c1, A2, c2, rfl⟩ := h.form
  obtain ⟨N, hN⟩ : ∃ N, N = m.next.length := ⟨_, rfl⟩
  have hNf : N = m.fin.length := by rw [hN]; exact hf.fin
  obtain ⟨L, hL⟩ := Int.eq_ofNat_of_zero_le hf.letters
  have hW0 : ∃ W0, W0 = (w.alloc (.cells #[.int .i64 m.letters, .int .i64 m.start, .slice A1 m.next.length c1, .slice A2 m.fin.length c2] 25)).alloc (.cells zeroM 25) := ⟨_, rfl⟩
  obtain ⟨W0, hW0⟩ := hW0
  have HB0 : Hid (Blk W0 w.heap.size 25 #[.int .i64 m.letters, .int .i64 m.start, .slice A1 m.next.length c1, .slice A2 m.fin.length c2]) := by rw [hW0]; exact (Blk.new w _ _).alloc _
  have HZ0 : Hid (Blk W0 (w.heap.size + 1) 25 zeroM) := by rw [hW0]; exact blk_at (by simp)
  have HF0 : Hid (Frm (fun _ => False) w W0) := by rw [hW0]; exact ((Frm.refl _ w).alloc _).alloc _
  have HM := Lib.hid h
  have HFI := Lib.hid hf
  have HN4 := Lib.hid hn
  have HL3 := Lib.hid hl3
  have HN := Lib.hid hN
  have HNF := Lib.hid hNf
  have HL := Lib.hid hL
  have x0 := HB0.out.cell 0
  have x1 := HB0.out.cell 1
  have x2 := HB0.out.cell 2
  have x3 := HB0.out.cell 3
  have HW0 := Lib.hid hW0
  simp only [zeroM] at hW0
  clear h hf hN hNf hn hl3 hL
  go_enter Try.func19, Try.ntmps19
  rw [hW0] at x0 x1 x2 x3
  go_wp2_with fail
  rw [← hW0]
  refine (rclasses_any (HM.out.keep0 HF0.out) HFI.out HN4.out HL3.out).mono ?_
  rintro _ w1 ⟨r3, cl, c, rfl, hI, hC, f1⟩
  have hIB := hI.below
  obtain ⟨A3, c3, rfl, -⟩ := id hI
  have HI := Lib.hid hIB
  have HC := Lib.hid hC
  have HCL : Hid (cl.length = N) := hC.len.trans HN.out.symm
  have HF1 : Hid (Frm (fun _ => False) w w1) := HF0.out.trans f1
  have HB1 := Lib.hid (f1.blk HB0.out id)
  have HZ1 := Lib.hid (f1.blk HZ0.out id)
  have HS1 : Hid (w.heap.size + 2 ≤ w1.heap.size) := by
    have h1 := f1.1
    have h2 := HW0.out
    rw [h2] at h1
    show _ ≤ _
    simpa using h1
  rw [HL.out, ← HN.out, ← HNF.out] at HB1
  clear hI hIB hC f1 HB0 HZ0 HF0 x0 x1 x2 x3 hW0 HW0
  rw [HL.out, ← HN.out, ← HNF.out, HCL.out]
  by_cases hneg : m.start < 0 ∨ (0 ≤ m.start ∧ cl.getD m.start.toNat 0 < 0)
  · have HSHR : Hid (A.Shr m (A.emptyM m)) := ⟨cl, c, HC.out, Or.inl ⟨hneg, rfl⟩⟩
    have x0 := HB1.out.cell 0
    have x1 := HB1.out.cell 1
    have HEM : Hid (∀ {V : World}, MachAt V (fun b => w.heap.size ≤ b ∧ NM V b) (.agg #[.int .i64 (L : Int), .int .i64 (-1), .slice none 0 0, .slice none 0 0]) (A.emptyM m)) := fun {V} => by
      rw [← HL.out]
      exact ⟨_, _, rfl, ⟨none, 0, rfl, fun k hk => absurd hk (Nat.not_lt_zero k)⟩, ⟨none, 0, rfl, fun k hk => absurd hk (Nat.not_lt_zero k)⟩⟩
    rcases hneg with hs | ⟨h0, h1⟩
    · go_wp2_with fail
      refine (none_any (L : Int)).mono ?_
      rintro _ w3 ⟨rfl, f3⟩
      have HF3 : Hid (Frm (fun _ => False) w w3) := HF1.out.trans f3
      have HZ3 := Lib.hid (f3.blk HZ1.out id)
      have z0 := HZ3.out.cell 0
      have z1 := HZ3.out.cell 1
      have z2 := HZ3.out.cell 2
      have z3 := HZ3.out.cell 3
      have q0 := HZ3.out.frozen 0
      have q1 := HZ3.out.frozen 1
      have q2 := HZ3.out.frozen 2
      have q3 := HZ3.out.frozen 3
      simp only [zeroM] at z0 z1 z2 z3
      clear f3
      go_wp2_with fail
      refine bodyPost_ret (w := put4 w3 (w.heap.size + 1) (.int .i64 (L : Int)) (.int .i64 (-1)) (.slice none 0 0) (.slice none 0 0)) (v := .agg #[.int .i64 (L : Int), .int .i64 (-1), .slice none 0 0, .slice none 0 0]) ?_ rfl ⟨_, _, rfl, HEM.out, HSHR.out, put4_frm HF3.out (by omega)⟩
      have h4 := put4_blk (l := .int .i64 (L : Int)) (s := .int .i64 (-1)) (n := .slice none 0 0) (e := .slice none 0 0) HZ3.out
      generalize put4 w3 (w.heap.size + 1) (.int .i64 (L : Int)) (.int .i64 (-1)) (.slice none 0 0) (.slice none 0 0) = w4 at *
      clear z0 z1 z2 z3 q0 q1 q2 q3
      have y0 := h4.cell 0
      have y1 := h4.cell 1
      have y2 := h4.cell 2
      have y3 := h4.cell 3
      simp [results, Try.results19, go_sem, y0, y1, y2, y3]
    · obtain ⟨t, ht⟩ := Int.eq_ofNat_of_zero_le h0
      have htN : t < N := by have := HFI.out.start.2; have := HN.out; omega
      rw [ht] at h1 HB1 x1
      rw [Int.toNat_natCast] at h1
      rw [ht]
      obtain ⟨A3', c3', e, hb⟩ := HI.out
      injection e with e1 e2 e3
      subst e1 e3
      obtain ⟨g3, o3, rfl, hg3, d3⟩ := hb t (by rw [HCL.out]; exact htN)
      have hdt : cl[t]'(by rw [HCL.out]; exact htN) = cl.getD t 0 := by simp [HCL.out, htN]
      rw [hdt] at d3
      have htN' : (t : Int) < (N : Int) := by omega
      have hnt : ¬ (t : Int) < 0 := by omega
      clear hb hdt e2 ht
      generalize cl.getD t 0 = x at *
      go_wp2_with fail
      refine (none_any (L : Int)).mono ?_
      rintro _ w3 ⟨rfl, f3⟩
      have HF3 : Hid (Frm (fun _ => False) w w3) := HF1.out.trans f3
      have HZ3 := Lib.hid (f3.blk HZ1.out id)
      have z0 := HZ3.out.cell 0
      have z1 := HZ3.out.cell 1
      have z2 := HZ3.out.cell 2
      have z3 := HZ3.out.cell 3
      have q0 := HZ3.out.frozen 0
      have q1 := HZ3.out.frozen 1
      have q2 := HZ3.out.frozen 2
      have q3 := HZ3.out.frozen 3
      simp only [zeroM] at z0 z1 z2 z3
      clear f3
      go_wp2_with fail
      refine bodyPost_ret (w := put4 w3 (w.heap.size + 1) (.int .i64 (L : Int)) (.int .i64 (-1)) (.slice none 0 0) (.slice none 0 0)) (v := .agg #[.int .i64 (L : Int), .int .i64 (-1), .slice none 0 0, .slice none 0 0]) ?_ rfl ⟨_, _, rfl, HEM.out, HSHR.out, put4_frm HF3.out (by omega)⟩
      have h4 := put4_blk (l := .int .i64 (L : Int)) (s := .int .i64 (-1)) (n := .slice none 0 0) (e := .slice none 0 0) HZ3.out
      generalize put4 w3 (w.heap.size + 1) (.int .i64 (L : Int)) (.int .i64 (-1)) (.slice none 0 0) (.slice none 0 0) = w4 at *
      clear z0 z1 z2 z3 q0 q1 q2 q3
      have y0 := h4.cell 0
      have y1 := h4.cell 1
      have y2 := h4.cell 2
      have y3 := h4.cell 3
      simp [results, Try.results19, go_sem, y0, y1, y2, y3]
  · have h0 : 0 ≤ m.start := by omega
    have h1 : 0 ≤ cl.getD m.start.toNat 0 := by omega
    obtain ⟨t, ht⟩ := Int.eq_ofNat_of_zero_le h0
    have htN : t < N := by have := HFI.out.start.2; have := HN.out; omega
    rw [ht] at h1 HB1
    rw [Int.toNat_natCast] at h1
    rw [ht]
    obtain ⟨s0, hs0⟩ := Int.eq_ofNat_of_zero_le h1
    have HT := Lib.hid ht
    have HS0 := Lib.hid hs0
    clear hneg h0 h1 hs0 ht
    have x0 := HB1.out.cell 0
    have x1 := HB1.out.cell 1
    obtain ⟨A3', c3', e, hb⟩ := HI.out
    injection e with e1 e2 e3
    subst e1 e3
    obtain ⟨g3, o3, rfl, hg3, d3⟩ := hb t (by rw [HCL.out]; exact htN)
    have hdt : cl[t]'(by rw [HCL.out]; exact htN) = (s0 : Int) := by
      have := HS0.out
      simpa [HCL.out, htN] using this
    rw [hdt] at d3
    have htN' : (t : Int) < (N : Int) := by omega
    have hN4 : N ≤ 4000 := by rw [HN.out]; exact HN4.out
    have HG3 : Hid (∀ i, i < N → w1.cell? ⟨g3, o3 + i, none⟩ = some (.int .i64 (cl.getD i 0))) := fun i hi => by
      obtain ⟨g', o', e, _, h⟩ := hb i (by rw [HCL.out]; exact hi)
      simp only [Option.some.injEq, Addr.mk.injEq, and_true] at e
      obtain ⟨rfl, rfl⟩ := e
      rw [h]
      simp [HCL.out, hi]
    have HCB : Hid (∀ i, i < N → -1 ≤ cl.getD i 0 ∧ cl.getD i 0 < 4000) := fun i hi => by
      have h1 := HC.out.lo i (by rw [← HN.out]; exact hi)
      have h2 := HC.out.hi i (by rw [← HN.out]; exact hi)
      have h3 := HC.out.le
      have h4 := HN4.out
      omega
    have HMX : Hid (∀ i, i ≤ N → 0 ≤ A.cntO cl i ∧ A.cntO cl i ≤ 4000) := fun i hi => by
      have h1 := A.cntO_le HC.out i (by rw [← HN.out]; exact hi)
      have h2 := (A.cntO_ge cl i).1
      have h3 := HC.out.le
      have h4 := HN4.out
      omega
    clear hb hdt e2
    go_wp2_with fail
    clear d3 x0 x1
    go_loopg [4, 5] (N + 1) (fun n u4 u5 wr => ∃ i : Nat, i ≤ N ∧ n = N + 1 - i ∧ Hid (u4 = .int .i64 (A.cntO cl i)) ∧ u5 = .int .i64 (i : Int) ∧ Hid (Frm (fun b => w1.heap.size ≤ b) w1 wr))
    case atStart => exact ⟨0, Nat.zero_le _, rfl, rfl, rfl, Frm.refl _ _⟩
    case round =>
      obtain ⟨i, hi, rfl, HU, rfl, HF⟩ := hrel
      by_cases hlt : i < N
      · have hlt' : (i : Int) < (N : Int) := by omega
        have d0 := HF.out.cell (show ¬ w1.heap.size ≤ g3 by omega) (HG3.out i hlt)
        obtain ⟨b1, b2⟩ := HCB.out i hlt
        obtain ⟨b3, b4⟩ := HMX.out i hi
        have HY : Hid (A.cntO cl (i + 1) = max (A.cntO cl i) (cl.getD i 0 + 1)) := rfl
        obtain rfl := HU.out
        generalize cl.getD i 0 = x at *
        generalize A.cntO cl i = y at *
        go_wp2_with fail
        go_roundg (N + 1 - (i + 1))
        case measure => omega
        case rel => exact ⟨i + 1, by omega, rfl, by show _ = _; rw [HY.out], by go_num, HF⟩
      · have hlt' : ¬ (i : Int) < (N : Int) := by omega
        obtain rfl : N = i := by omega
        have hcnt : A.cntO cl N = (c : Int) := by rw [HN.out]; exact A.cntO_eq HC.out
        obtain rfl := HU.out
        rw [hcnt]
        clear hcnt HU HMX
        go_wp2_with fail
        obtain ⟨n1, hn1⟩ : ∃ n1, n1 = w1.heap.size := ⟨_, rfl⟩
        have HN1 := Lib.hid hn1
        rw [← hn1] at HF HS1 hg3
        have hc4 : c ≤ 4000 := Nat.le_trans HC.out.le HN4.out
        have HXB : Hid (∀ {V : World}, Frm (fun b => n1 ≤ b) wr V → Blk V w.heap.size 25 #[.int .i64 (L : Int), .int .i64 (t : Int), .slice A1 N c1, .slice A2 N c2]) := fun F => (HF.out.trans F).blk HB1.out (by have := HS1.out; omega)
        have HXC : Hid (∀ {V : World}, Frm (fun b => n1 ≤ b) wr V → V.cell? ⟨g3, o3 + t, none⟩ = some (.int .i64 (s0 : Int))) := fun F => by
          have h := (HF.out.trans F).cell (show ¬ n1 ≤ g3 by omega) (HG3.out t htN)
          rw [HS0.out] at h
          exact h
        have HSZ : Hid (n1 ≤ wr.heap.size) := by have := HF.out.1; show _ ≤ _; omega
        clear hn1 hi hlt hlt'
        refine wp_region_dep [47, 48, 49, 50, 51, 52, 53, 54, 55, 56, 57, 58, 6, 1000] [[0], [1], [2], [3], [4], [5], [6], [7], [8], [9], [10], [11], [12], [12]]
          [f1 (vV (.pointer (some ⟨w.heap.size, 0, none⟩))), f1 (vV (.int .i64 (L : Int))), f1 (vV (.slice (some ⟨g3, o3, none⟩) N c3)), f1 (vV (.pointer (some ⟨w.heap.size, 1, none⟩))), f1 (vV (.int .i64 (t : Int))), f1 (vV (.pointer (some ⟨g3, o3 + t, none⟩))), f1 (vV (.int .i64 (s0 : Int))), f1 (vV (.int .i64 (c : Int))), f1 (mkB n1 35 (nilCs c) c), f1 (vV (.int .i64 (c : Int))), f1 (mkB n1 4 (boolCs (List.replicate c false)) c), f1 (smB n1 L s0 c), f1 (pM n1), f1 (smP n1 L s0 c)]
          (Frm (fun b => n1 ≤ b)) (fun i => if i = 13 then RS n1 else Frm (fun _ => False)) (fun _ _ => True) [] [(1, .pointer (some ⟨w.heap.size, 0, none⟩)), (3, .slice (some ⟨g3, o3, none⟩) N c3), (4, .int .i64 (c : Int))] (by kernel_rfl) (by kernel_rfl) (fun _ _ _ => Frm.trans) ?_ ?_ (fun _ _ _ _ _ _ _ _ _ => trivial) (fun _ => trivial) (fun _ h => by cases h) (Frm.refl _ _).drew ?_ ?_ ?_
        · intro i a b h
          split at h
          · exact h.frm
          · exact h.mono fun _ _ h => h.elim
        · intro j i hj hi hne hna l a b hf hr
          have hj' : j < 14 := hj
          by_cases h13 : i = 13
          · subst h13
            rw [if_pos rfl] at hr
            have hcs : j = 0 ∨ j = 1 ∨ j = 2 ∨ j = 3 ∨ j = 4 ∨ j = 5 ∨ j = 6 ∨ j = 7 ∨ j = 8 ∨ j = 9 ∨ j = 10 ∨ j = 11 ∨ j = 12 := by omega
            rcases hcs with rfl | rfl | rfl | rfl | rfl | rfl | rfl | rfl | rfl | rfl | rfl | rfl | rfl
            · exact hf
            · exact hf
            · exact hf
            · exact hf
            · exact hf
            · exact hf
            · exact hf
            · exact hf
            · exact mkB.rs hf hr (by decide)
            · exact hf
            · exact mkB.rs hf hr (by decide)
            · exact smB.rs hf hr
            · exact pM.rs hf hr
          · rw [if_neg h13] at hr
            have hcs : j = 0 ∨ j = 1 ∨ j = 2 ∨ j = 3 ∨ j = 4 ∨ j = 5 ∨ j = 6 ∨ j = 7 ∨ j = 8 ∨ j = 9 ∨ j = 10 ∨ j = 11 ∨ j = 12 ∨ j = 13 := by omega
            rcases hcs with rfl | rfl | rfl | rfl | rfl | rfl | rfl | rfl | rfl | rfl | rfl | rfl | rfl | rfl
            · exact hf
            · exact hf
            · exact hf
            · exact hf
            · exact hf
            · exact hf
            · exact hf
            · exact hf
            · exact mkB.q hf hr
            · exact hf
            · exact mkB.q hf hr
            · exact smB.q hf hr
            · exact pM.q hf hr
            · exact smP.q hf hr
        · intro x hx
          simp only [List.mem_cons, List.not_mem_nil, or_false] at hx
          rcases hx with rfl | rfl | rfl <;> exact ⟨by simp, rfl⟩
        · refine ⟨?_, ?_, ?_, ?_, ?_, ?_, ?_, ?_, ?_, ?_, ?_, ?_, ?_, ?_, trivial⟩
          · intro Q tm df V hR _ hu hd
            have u1 : tm[1]?.getD undef = .pointer (some ⟨w.heap.size, 0, none⟩) := hu (1, _) (by simp)
            clear hu hd
            go_simp
            exact ⟨_, rfl, rfl, Frm.refl _ V⟩
          · intro Q tm df V hR _ hu hd
            have e0 : tm[47]?.getD undef = .pointer (some ⟨w.heap.size, 0, none⟩) := hd 0 (by simp)
            have y := (HXB.out hR).cell 0
            clear hu hd
            go_simp
            exact ⟨_, rfl, rfl, Frm.refl _ V⟩
          · intro Q tm df V hR _ hu hd
            have u1 : tm[3]?.getD undef = .slice (some ⟨g3, o3, none⟩) N c3 := hu (3, _) (by simp)
            clear hu hd
            go_simp
            exact ⟨_, rfl, rfl, Frm.refl _ V⟩
          · intro Q tm df V hR _ hu hd
            have u1 : tm[1]?.getD undef = .pointer (some ⟨w.heap.size, 0, none⟩) := hu (1, _) (by simp)
            clear hu hd
            go_simp
            exact ⟨_, rfl, rfl, Frm.refl _ V⟩
          · intro Q tm df V hR _ hu hd
            have e0 : tm[50]?.getD undef = .pointer (some ⟨w.heap.size, 1, none⟩) := hd 3 (by simp)
            have y := (HXB.out hR).cell 1
            clear hu hd
            go_simp
            exact ⟨_, rfl, rfl, Frm.refl _ V⟩
          · intro Q tm df V hR _ hu hd
            have e0 : tm[49]?.getD undef = .slice (some ⟨g3, o3, none⟩) N c3 := hd 2 (by simp)
            have e1 : tm[51]?.getD undef = .int .i64 (t : Int) := hd 4 (by simp)
            clear hu hd
            go_simp
            exact ⟨_, rfl, rfl, Frm.refl _ V⟩
          · intro Q tm df V hR _ hu hd
            have e0 : tm[52]?.getD undef = .pointer (some ⟨g3, o3 + t, none⟩) := hd 5 (by simp)
            have y := HXC.out hR
            clear hu hd
            go_simp
            exact ⟨_, rfl, rfl, Frm.refl _ V⟩
          · intro Q tm df V hR _ hu hd
            have u1 : tm[4]?.getD undef = .int .i64 (c : Int) := hu (4, _) (by simp)
            clear hu hd
            go_simp
            exact ⟨_, rfl, rfl, Frm.refl _ V⟩
          · intro Q tm df V hR _ hu hd
            have e0 : tm[54]?.getD undef = .int .i64 (c : Int) := hd 7 (by simp)
            have hmk := run_make_row' (P := Try.prog) 22 35 (.slice none 0 0) 24 Try.underlying22 info_row rfl .i64 .i64 c (by omega) (by omega)
            clear hu hd
            go_simp
            exact ⟨_, rfl, ⟨V.heap.size, rfl, by have := hR.1; have := HSZ.out; omega, Blk.new _ _ _⟩, (Frm.refl _ V).alloc _⟩
          · intro Q tm df V hR _ hu hd
            have u1 : tm[4]?.getD undef = .int .i64 (c : Int) := hu (4, _) (by simp)
            clear hu hd
            go_simp
            exact ⟨_, rfl, rfl, Frm.refl _ V⟩
          · intro Q tm df V hR _ hu hd
            have e0 : tm[56]?.getD undef = .int .i64 (c : Int) := hd 9 (by simp)
            have hmk := run_make_row' (P := Try.prog) 23 4 (.bool false) 1 Try.underlying23 info_boolE rfl .i64 .i64 c (by omega) (by omega)
            clear hu hd
            go_simp
            exact ⟨_, rfl, ⟨V.heap.size, rfl, by have := hR.1; have := HSZ.out; omega, by rw [← boolCs_made]; exact Blk.new _ _ _⟩, (Frm.refl _ V).alloc _⟩
          · intro Q tm df V hR _ hu hd
            have e0 : tm[48]?.getD undef = .int .i64 (L : Int) := hd 1 (by simp)
            have e1 : tm[53]?.getD undef = .int .i64 (s0 : Int) := hd 6 (by simp)
            obtain ⟨gN, e2, h2, b2⟩ : mkB n1 35 (nilCs c) c (tm[55]?.getD undef) V := hd 8 (by simp)
            obtain ⟨gE, e3, h3, b3⟩ : mkB n1 4 (boolCs (List.replicate c false)) c (tm[57]?.getD undef) V := hd 10 (by simp)
            clear hu hd
            go_simp
            exact ⟨_, rfl, ⟨gN, gE, rfl, h2, h3, b2, b3⟩, Frm.refl _ V⟩
          · intro Q tm df V hR _ hu hd
            clear hu hd
            go_simp
            exact ⟨_, rfl, ⟨V.heap.size, _, rfl, by have := hR.1; have := HSZ.out; omega, rfl, Blk.new _ _ _⟩, (Frm.refl _ V).alloc _⟩
          · intro Q tm df V hR _ hu hd
            obtain ⟨gN, gE, e0, h2, h3, b2, b3⟩ : smB n1 L s0 c (tm[58]?.getD undef) V := hd 11 (by simp)
            obtain ⟨b, cs, e1, hb, hs, hbk⟩ : pM n1 (tm[6]?.getD undef) V := hd 12 (by simp)
            obtain ⟨k0, k1, k2, k3, rfl⟩ : ∃ k0 k1 k2 k3, cs = #[k0, k1, k2, k3] := Go.Joins.array4 hs
            have y0 := hbk.cell 0
            have y1 := hbk.cell 1
            have y2 := hbk.cell 2
            have y3 := hbk.cell 3
            have z0 := hbk.frozen 0
            have z1 := hbk.frozen 1
            have z2 := hbk.frozen 2
            have z3 := hbk.frozen 3
            clear hu hd
            have hrs : RS n1 V (put4 V b (.int .i64 (L : Int)) (.int .i64 (s0 : Int)) (.slice (some ⟨gN, 0, none⟩) c c) (.slice (some ⟨gE, 0, none⟩) c c)) := ⟨b, _, _, hb, hbk, put4_blk hbk, rfl, rfl, put4_frm1⟩
            have hh : ∀ v, v = .pointer (some ⟨b, 0, none⟩) → smP n1 L s0 c v (put4 V b (.int .i64 (L : Int)) (.int .i64 (s0 : Int)) (.slice (some ⟨gN, 0, none⟩) c c) (.slice (some ⟨gE, 0, none⟩) c c)) := fun v e => ⟨b, gN, gE, e, hb, h2, h3, put4_blk hbk, hrs.blk b2 (by decide), hrs.blk b3 (by decide)⟩
            have HH := Lib.hid hh
            have HRS := Lib.hid hrs
            clear hrs hh
            go_simp
            exact ⟨HH.out _ e1, HRS.out⟩
        · intro vs V hR hf
          obtain ⟨ob, gN, gE, e6, h1, h2, h3, b1, b2, b3⟩ : smP n1 L s0 c (vs 12) V := hf 13 (by decide)
          clear hf
          simp only [putAll, List.size_toArray, List.length_cons, List.length_nil, Nat.zero_add, Nat.reduceAdd, show List.range 14 = [0, 1, 2, 3, 4, 5, 6, 7, 8, 9, 10, 11, 12, 13] from rfl, List.foldl_cons, List.foldl_nil, List.getD_cons_zero, List.getD_cons_succ, List.setIfInBounds_toArray, List.set_cons_zero, List.set_cons_succ, e6]
          have HF2 : Hid (Frm (fun b => n1 ≤ b) w1 V) := HF.out.trans hR
          have HOB : Hid (Blk V ob 25 #[.int .i64 (L : Int), .int .i64 (s0 : Int), .slice (some ⟨gN, 0, none⟩) c c, .slice (some ⟨gE, 0, none⟩) c c]) := b1
          have HNN : Hid (n1 ≤ gN ∧ n1 ≤ gE ∧ n1 ≤ ob) := ⟨h2, h3, h1⟩
          have HSM : Hid (SmAt V n1 V.heap.size gN gE m cl c 0 (List.replicate c (.slice none 0 0)) (List.replicate c false)) := by
            refine ⟨?_, b3, b2.lt, b3.lt, by simp, by simp, fun v hv => Or.inl ⟨by simp [hv], fun s hs => absurd hs (Nat.not_lt_zero s)⟩⟩
            have e : nilCs c = (List.replicate c (Value.slice none 0 0)).toArray := by
              unfold nilCs
              apply Array.toList_inj.1
              rw [toList_madeCells_one]
            rw [← e]
            exact b2
          have HOL : Hid (ob < V.heap.size) := b1.lt
          clear b1 b2 b3 h1 h2 h3 hR HF HXB HXC HSZ e6
          have HFX : Hid (∀ {V : World}, Frm (fun b => n1 ≤ b) w1 V → Frm (fun _ => False) w V) := fun F => ((HF1.out.mono fun _ _ h => h.elim).trans F).mono fun b hb h => by have := HS1.out; omega
          have hmk := run_make_row' (P := Try.prog) 35 3 (.int .i64 0) 8 Try.underlying35 info_int rfl .i64 .i64 L (by have := HL.out; have := HL3.out; omega) (by have := HL.out; have := HL3.out; omega)
          have hL3 : L ≤ 300 := by have := HL.out; have := HL3.out; omega
          clear HF1
          go_wp2_with fail
          go_loopg [7] (N + 1) (fun n u7 wr => ∃ (i : Nat) (rows : List Value) (es : List Bool), i ≤ N ∧ n = N + 1 - i ∧ u7 = .int .i64 (i : Int) ∧ Hid (SmAt wr n1 wr.heap.size gN gE m cl c i rows es) ∧ Hid (Blk wr ob 25 #[.int .i64 (L : Int), .int .i64 (s0 : Int), .slice (some ⟨gN, 0, none⟩) c c, .slice (some ⟨gE, 0, none⟩) c c]) ∧ Hid (Frm (fun b => n1 ≤ b) w1 wr))
          case atStart => exact ⟨0, _, _, Nat.zero_le _, rfl, rfl, HSM, HOB, HF2⟩
          case round =>
            clear HSM HOB HF2
            obtain ⟨i, rows, es, hi, rfl, rfl, HSM, HOB, HF⟩ := hrel
            by_cases hlt : i < N
            · have hlt' : (i : Int) < (N : Int) := by omega
              have d0 := HF.out.cell (show ¬ n1 ≤ g3 by omega) (HG3.out i hlt)
              obtain ⟨b1, b2⟩ := HCB.out i hlt
              obtain ⟨x, hx⟩ : ∃ x, x = cl.getD i 0 := ⟨_, rfl⟩
              have HX := Lib.hid hx
              rw [← hx] at d0 b1 b2
              clear hx
              by_cases hx0 : x < 0
              · have HS2 : Hid (SmAt wr n1 wr.heap.size gN gE m cl c (i + 1) rows es) := HSM.out.skip fun v hv e => by rw [← HX.out] at e; omega
                go_wp2_with fail
                go_roundg (N + 1 - (i + 1))
                case measure => omega
                case rel => exact ⟨i + 1, rows, es, by omega, rfl, by go_num, HS2, HOB, HF⟩
              obtain ⟨v, rfl⟩ := Int.eq_ofNat_of_zero_le (show 0 ≤ x by omega)
              have hvc : v < c := by have := HC.out.hi i (by rw [← HN.out]; exact hlt); have := HX.out; omega
              have hvc' : (v : Int) < (c : Int) := by omega
              have y2 := HOB.out.cell 2
              obtain ⟨q1, q2, q3, q4, q5, q6, q7⟩ := HSM.out
              have hvr : v < rows.length := by omega
              have y3 := q1.cell v
              have yf := q1.frozen v
              have e3 : rows.toArray[v]? = some (rows.getD v undef) := by simp [hvr]
              rw [e3] at y3
              rcases q7 v hvc with ⟨hnil, hno⟩ | ⟨s, g, _, _, hrow, _⟩
              case inr =>
                have HS2 : Hid (SmAt wr n1 wr.heap.size gN gE m cl c (i + 1) rows es) := HSM.out.skip fun u hu e => by
                  rw [← HX.out] at e
                  obtain rfl : v = u := by omega
                  rw [hrow]
                  simp
                rw [hrow] at y3
                clear q1 q2 q3 q4 q5 q6 q7 hrow e3 hvr
                go_wp2_with fail
                go_roundg (N + 1 - (i + 1))
                case measure => omega
                case rel => exact ⟨i + 1, rows, es, by omega, rfl, by go_num, HS2, HOB, HF⟩
              rw [hnil] at y3
              clear q1 q2 q3 q4 q5 q6 q7 hnil hno e3
              have HBX := Lib.hid (HF.out.blk HB1.out (by have := HS1.out; omega))
              have x0 := HBX.out.cell 0
              go_wp2_with fail
              have HG0 : Hid (Blk (wr.alloc (.cells (madeCells #[.int .i64 0] L) 3)) wr.heap.size 3 (intCs (List.replicate L 0))) := by rw [← intCs_made]; exact Blk.new wr _ _
              have FA : Frm (fun b => b = wr.heap.size) wr (wr.alloc (.cells (madeCells #[.int .i64 0] L) 3)) := (Frm.refl _ wr).alloc _
              have HSA := Lib.hid (HSM.out.frm FA fun b hb e => by omega)
              have HOA := Lib.hid (FA.blk HOB.out (by have := HOB.out.lt; omega))
              have HFA : Hid (Frm (fun b => n1 ≤ b) w1 (wr.alloc (.cells (madeCells #[.int .i64 0] L) 3))) := HF.out.alloc _
              obtain ⟨gr, hgr⟩ : ∃ gr, gr = wr.heap.size := ⟨_, rfl⟩
              have hng : n1 ≤ gr := by have := HF.out.1; have := HN1.out; omega
              have HOG : Hid (ob < gr) := by have := HOB.out.lt; show _ < _; omega
              have hgra : gr < (wr.alloc (.cells (madeCells #[.int .i64 0] L) 3)).heap.size := by simp [hgr]
              rw [← hgr] at HSA HG0
              rw [← hgr]
              generalize wr.alloc (.cells (madeCells #[.int .i64 0] L) 3) = wa at *
              clear HSM HOB HF d0 y2 y3 yf x0 HBX FA hgr
              have hiM : i < m.next.length := by rw [← HN.out]; exact hlt
              obtain ⟨gn, on, A5, c5, hA, hca, hrow⟩ := HM.out.next_at hiM
              subst hA
              have HCA := Lib.hid hca
              obtain ⟨hr1, hr2⟩ := HFI.out.rows _ (List.getElem_mem hiM)
              have HR2 := Lib.hid hr2
              have HROW := Lib.hid hrow
              have HLQ : Hid (m.next[i].length = L) := by have := HL.out; show _ = _; omega
              clear hca hrow hr1 hr2
              go_loopg [10] (L + 1) (fun n u10 wr => ∃ (k : Nat) (l : List Int), k ≤ L ∧ n = L + 1 - k ∧ u10 = .int .i64 (k : Int) ∧ Hid (l.length = L) ∧ Hid (∀ j : Nat, j < k → l.getD j 0 = A.clL m cl i j) ∧ Hid (Blk wr gr 3 (intCs l)) ∧ Hid (Frm (fun b => b = gr) wa wr))
              case atStart => exact ⟨0, _, Nat.zero_le _, rfl, rfl, by simp [Lib.hid], fun j hj => absurd hj (Nat.not_lt_zero j), HG0, Frm.refl _ _⟩
              case round =>
                clear HG0
                obtain ⟨k, l, hk, rfl, rfl, HLL, HRO, HG, HFG⟩ := hrel
                have HFW : Hid (Frm (fun b => n1 ≤ b) w1 wr) := HFA.out.trans (HFG.out.mono fun b _ e => by omega)
                have x0 := (HFW.out.blk HB1.out (show ¬ n1 ≤ w.heap.size by have := HS1.out; omega)).cell 0
                by_cases hkl : k < L
                · have hkl' : (k : Int) < (L : Int) := by omega
                  have hll : k < l.length := by rw [HLL.out]; exact hkl
                  have x2 := (HFW.out.blk HB1.out (show ¬ n1 ≤ w.heap.size by have := HS1.out; omega)).cell 2
                  have y0 := (HG.out.cell k).trans (intCs_getD hll)
                  have yf := HG.out.frozen k
                  have hkq : k < m.next[i].length := by rw [HLQ.out]; exact hkl
                  obtain ⟨g5, o5, hA5, _, hcj⟩ := HROW.out k hkq
                  subst hA5
                  have FS : Frm (fun b => b = gr) wr (wr.setCell ⟨gr, k, none⟩ (.int .i64 (-1))) := Frm.one gr k _
                  have HG3' : Hid (Blk (wr.setCell ⟨gr, k, none⟩ (.int .i64 (-1))) gr 3 (intCs (l.set k (-1)))) := by rw [← intCs_set]; exact HG.out.set_ k _
                  have HFS : Hid (Frm (fun b => b = gr) wa (wr.setCell ⟨gr, k, none⟩ (.int .i64 (-1)))) := HFG.out.trans FS
                  have HFW2 : Hid (Frm (fun b => n1 ≤ b) w1 (wr.setCell ⟨gr, k, none⟩ (.int .i64 (-1)))) := HFA.out.trans (HFS.out.mono fun b _ e => by omega)
                  have d1 := (HFX.out HFW2.out).cell id HCA.out
                  have d2 := (HFX.out HFW2.out).cell id hcj
                  obtain ⟨hx0', hx1'⟩ := HR2.out _ (List.getElem_mem hkq)
                  have HEX : Hid (A.lead m i k = m.next[i][k]) := by
                    show _ = _
                    unfold A.lead
                    rw [if_neg (by omega)]
                    simp [hiM, hkq]
                  have hkq' : (k : Int) < (m.next[i].length : Int) := by omega
                  clear hcj
                  generalize m.next[i][k] = x at *
                  clear hkq
                  have z2 := FS.cell (show w.heap.size ≠ gr by have := HS1.out; omega) x2
                  have hmore : ∀ y : Int, A.clL m cl i k = y → ∀ j : Nat, j < k + 1 → (l.set k y).getD j 0 = A.clL m cl i j := fun y hy j hj => by
                    rw [A.getD_setR hll]
                    split
                    · rename_i e; rw [← e, hy]
                    · exact HRO.out j (by omega)
                  have HMO := Lib.hid hmore
                  rw [HLQ.out] at d1 hkq'
                  clear hmore FS
                  have hxN : x < (N : Int) := by have := HN.out; omega
                  by_cases hxp : 0 ≤ x
                  case neg =>
                    have hxn : x < 0 := by omega
                    have HRO2 : Hid (∀ j : Nat, j < k + 1 → (l.set k (-1)).getD j 0 = A.clL m cl i j) := HMO.out _ (by unfold A.clL; rw [HEX.out, if_neg hxp])
                    have HLL2 : Hid ((l.set k (-1)).length = L) := by rw [List.length_set]; exact HLL
                    go_wp2_with fail
                    go_roundg (L + 1 - (k + 1))
                    case measure => omega
                    case rel => exact ⟨k + 1, l.set k (-1), by omega, rfl, by go_num, HLL2, HRO2, HG3', HFS⟩
                  obtain ⟨p, rfl⟩ := Int.eq_ofNat_of_zero_le hxp
                  have d3 := HFW2.out.cell (show ¬ n1 ≤ g3 by omega) (HG3.out p (by omega))
                  have HRO2 : Hid (∀ j : Nat, j < k + 1 → (l.set k (cl.getD p 0)).getD j 0 = A.clL m cl i j) := HMO.out _ (by unfold A.clL; rw [HEX.out, if_pos hxp, Int.toNat_natCast])
                  generalize cl.getD p 0 = u at *
                  have q0 := (HG3'.out.cell k).trans (intCs_getD (by rw [List.length_set]; exact hll))
                  have q1 := HG3'.out.frozen k
                  have HLL2 : Hid ((l.set k u).length = L) := by rw [List.length_set]; exact HLL
                  have HG4 : Hid (Blk ((wr.setCell ⟨gr, k, none⟩ (.int .i64 (-1))).setCell ⟨gr, k, none⟩ (.int .i64 u)) gr 3 (intCs (l.set k u))) := by
                    have h := HG3'.out.set_ k (.int .i64 u)
                    rw [intCs_set, List.set_set] at h
                    exact h
                  have HFS2 : Hid (Frm (fun b => b = gr) wa ((wr.setCell ⟨gr, k, none⟩ (.int .i64 (-1))).setCell ⟨gr, k, none⟩ (.int .i64 u))) := HFS.out.trans (Frm.one gr k _)
                  go_wp2_with fail
                  go_roundg (L + 1 - (k + 1))
                  case measure => omega
                  case rel => exact ⟨k + 1, l.set k u, by omega, rfl, by go_num, HLL2, HRO2, HG4, HFS2⟩
                · have hkl' : ¬ (k : Int) < (L : Int) := by omega
                  obtain rfl : L = k := by omega
                  have hrow : l = A.rowOf m cl i := by
                    have h := A.row_eq (n := m.letters.toNat) (f := fun k : Nat => A.clL m cl i k) (by rw [HLL.out, HL.out, Int.toNat_natCast]) (fun j hj => HRO.out j (by rw [HL.out, Int.toNat_natCast] at hj; exact hj))
                    exact h
                  subst hrow
                  -- the store of the row
                  have HSW := Lib.hid (HSA.out.frm HFG.out fun b hb e => by omega)
                  obtain ⟨q1, q2, q3, q4, q5, q6, q7⟩ := HSW.out
                  have HOW := Lib.hid (HFG.out.blk HOA.out (by have := HOG.out; omega))
                  have hLt : m.letters.toNat = L := by rw [HL.out, Int.toNat_natCast]
                  have o2 := HOW.out.cell 2
                  have rN := q1.cell v
                  have e3 : rows.toArray[v]? = some (rows.getD v undef) := by simp [hvr]
                  rw [e3] at rN
                  have rF := q1.frozen v
                  have HLTN := Lib.hid hLt
                  have hve : v < es.length := by omega
                  have FS : Frm (fun b => b = gN) wr (wr.setCell ⟨gN, v, none⟩ (.slice (some ⟨gr, 0, none⟩) L L)) := Frm.one gN v _
                  have hob : ob ≠ gN := by intro e; subst e; exact absurd (blk_type HOW.out q1) (by decide)
                  have hoe : ob ≠ gE := by intro e; subst e; exact absurd (blk_type HOW.out q2) (by decide)
                  have hEN : gE ≠ gN := by intro e; subst e; exact absurd (blk_type q2 q1) (by decide)
                  have HO5 := Lib.hid (FS.blk HOW.out hob)
                  have HE5 := Lib.hid (FS.blk q2 hEN)
                  have HN5 : Hid (Blk (wr.setCell ⟨gN, v, none⟩ (.slice (some ⟨gr, 0, none⟩) L L)) gN 35 (rows.toArray.setIfInBounds v (.slice (some ⟨gr, 0, none⟩) L L))) := q1.set_ v _
                  have HF5 : Hid (Frm (fun b => n1 ≤ b) w1 (wr.setCell ⟨gN, v, none⟩ (.slice (some ⟨gr, 0, none⟩) L L))) := HFW.out.trans (FS.mono fun b _ e => by have := HNN.out.1; omega)
                  have HG5 := Lib.hid (FS.blk HG.out (by omega))
                  have p3 := HO5.out.cell 3
                  have pE := (HE5.out.cell v).trans (boolCs_getD hve)
                  have pF := HE5.out.frozen v
                  have hif : i < m.fin.length := by rw [← HNF.out]; exact hlt
                  obtain ⟨gf, off, hAf, cf⟩ := HM.out.fin_at hif
                  subst hAf
                  have pf := (HFX.out HF5.out).cell id cf
                  have pb := (HF5.out.blk HB1.out (show ¬ n1 ≤ w.heap.size by have := HS1.out; omega)).cell 3
                  have HFI2 : Hid (m.fin.getD i false = m.fin[i]) := by show _ = _; simp [hif]
                  have HFS5 := Lib.hid FS
                  clear cf FS e3 q1 q2 q7 hLt
                  generalize m.fin[i] = fi at *
                  have hgrw : gr < wr.heap.size := HG.out.lt
                  go_wp2_with fail
                  clear x0 o2 rN rF
                  generalize wr.setCell ⟨gN, v, none⟩ (.slice (some ⟨gr, 0, none⟩) L L) = W5 at *
                  go_still_tail 9, (by kernel_rfl)
                  go_wp2_with fail
                  go_roundg (N + 1 - (i + 1))
                  case measure => omega
                  case rel =>
                    have F2 : Frm (fun b => b = gN ∨ b = gE) wr (W5.drew.setCell ⟨gE, v, none⟩ (.bool fi)) := (HFS5.out.mono fun _ _ e => .inl e).drew.set_ (p := ⟨gE, v, none⟩) (fun _ => .inr rfl) _
                    have FS2 : Frm (fun b => b = gE) W5 (W5.drew.setCell ⟨gE, v, none⟩ (.bool fi)) := (Frm.refl (fun b => b = gE) _).drew.set_ (p := ⟨gE, v, none⟩) (fun _ => rfl) _
                    have hsz := F2.1
                    have H2 : Blk (W5.drew.setCell ⟨gE, v, none⟩ (.bool fi)) gE 4 (boolCs (es.set v fi)) := by rw [← boolCs_set]; exact HE5.out.drew.set_ v _
                    have H1 := FS2.blk HN5.out hEN.symm
                    have hp := HSW.out.put (hi' := (W5.drew.setCell ⟨gE, v, none⟩ (.bool fi)).heap.size) F2 (by omega) hvc HX.out.symm HG.out ⟨hng, by omega⟩ (by rw [HLTN.out]; exact H1) (by rw [HFI2.out]; exact H2)
                    rw [HFI2.out, HLTN.out] at hp
                    exact ⟨i + 1, _, _, by omega, rfl, by go_num, hp, FS2.blk HO5.out hoe, HF5.out.trans (FS2.mono fun b _ e => by have := HNN.out.2.1; omega)⟩
            · have hlt' : ¬ (i : Int) < (N : Int) := by omega
              obtain rfl : N = i := by omega
              have hdone := HSM.out
              rw [HN.out] at hdone
              obtain ⟨sm, hrep, hma⟩ := hdone.done HC.out HNN.out.1 HNN.out.2.1
              rw [HL.out, HT.out, Int.toNat_natCast, HS0.out] at hma
              have HREP := Lib.hid hrep
              have HMA := Lib.hid hma
              have h0s : 0 ≤ m.start := by rw [HT.out]; omega
              have h1s : 0 ≤ cl.getD m.start.toNat 0 := by rw [HT.out, Int.toNat_natCast, HS0.out]; omega
              have HFS : Hid (A.Fits sm) := hrep.fits HFI.out HC.out h0s h1s
              have o0 := HOB.out.cell 0
              have o1 := HOB.out.cell 1
              have o2 := HOB.out.cell 2
              have o3' := HOB.out.cell 3
              have HCP : Hid (s0 < c) := by
                have h1 := HC.out.hi t (by rw [← HN.out]; exact htN)
                rw [HS0.out] at h1
                show _ < _
                omega
              have HSN : Hid (sm.next.length = c) := hrep.ln
              have HSF : Hid (sm.fin.length = c) := hrep.lf
              have HSL : Hid (sm.letters = (L : Int)) := hrep.ll.trans HL.out
              have HSS : Hid (sm.start = (s0 : Int)) := by
                have h := hrep.st
                rw [HT.out, Int.toNat_natCast, HS0.out] at h
                exact h
              clear hdone hrep hma h0s h1s HSM
              go_wp2_with fail
              refine (found_any HMA.out HFS.out (by rw [HSN.out]; exact hc4) (by rw [HSL.out]; omega)).mono ?_
              rintro _ w2 ⟨v1, v2, st, rfl, hv1, hv2, hfn, f2⟩
              have HFN := Lib.hid hfn
              obtain ⟨n2, hn2⟩ : ∃ n2, n2 = w2.heap.size := ⟨_, rfl⟩
              have hok := A.fnd_start HFS.out hfn (by rw [HSS.out]; omega)
              have HOK := Lib.hid hok.1
              obtain ⟨hM0, hst0⟩ := hok.2
              have HST0 : Hid (∃ hp : 0 < st.1.length, st.1[0] = sm.start) := ⟨hM0, hst0⟩
              obtain ⟨M, hM⟩ : ∃ M, M = st.1.length := ⟨_, rfl⟩
              have HMM := Lib.hid hM
              have HF2 : Hid (Frm (fun b => n1 ≤ b) w1 w2) := HF.out.trans (f2.mono fun _ _ h => h.elim)
              have HO2 := Lib.hid (f2.blk HOB.out id)
              have HOL2 : Hid (ob < n2) := by have h := HO2.out.lt; rw [← hn2] at h; exact h
              -- the order
              obtain ⟨A4, c4, rfl, ho4⟩ := hv1.below
              obtain ⟨g4, o4, rfl, hg4, -⟩ := ho4 0 hM0
              have HG4 : Hid (∀ i, i < M → w2.cell? ⟨g4, o4 + i, none⟩ = some (.int .i64 (st.1.getD i 0))) := fun i hi => by
                obtain ⟨g', o', e, _, h⟩ := ho4 i (by omega)
                simp only [Option.some.injEq, Addr.mk.injEq, and_true] at e
                obtain ⟨rfl, rfl⟩ := e
                rw [h]
                simp [show i < st.1.length by omega]
              have hl2 : st.2.length = c := HOK.out.len.trans HSN.out
              obtain ⟨A6, c6, rfl, ho6⟩ := hv2.below
              obtain ⟨g6, o6, rfl, hg6, -⟩ := ho6 0 (by have := HCP.out; omega)
              have HG6 : Hid (∀ p, p < c → w2.cell? ⟨g6, o6 + p, none⟩ = some (.int .i64 (st.2.getD p 0))) := fun i hi => by
                obtain ⟨g', o', e, _, h⟩ := ho6 i (by omega)
                simp only [Option.some.injEq, Addr.mk.injEq, and_true] at e
                obtain ⟨rfl, rfl⟩ := e
                rw [h]
                simp [show i < st.2.length by omega]
              -- small's rows
              have hma2 := HMA.out.keep0 f2
              obtain ⟨nv0, ev0, e0, ⟨An, cn, rfl, hnr⟩, ⟨Ae, ce, rfl, her⟩⟩ := hma2
              simp only [Value.agg.injEq, Array.mk.injEq, List.cons.injEq, Value.slice.injEq, and_true] at e0
              obtain ⟨-, -, ⟨e1, -, -⟩, ⟨e2, -, -⟩⟩ := e0
              subst e1 e2
              have HNX : Hid (∀ q, q < c → gN < n2 ∧ ∃ A5 c5, w2.cell? ⟨gN, q, none⟩ = some (.slice A5 L c5) ∧ ∀ k : Nat, k < L → ∃ g5 o5, A5 = some ⟨g5, o5, none⟩ ∧ g5 < n2 ∧ w2.cell? ⟨g5, o5 + k, none⟩ = some (.int .i64 (A.lead sm q k))) := fun q hq => by
                have hq' : q < sm.next.length := by rw [HSN.out]; exact hq
                obtain ⟨g', o', rv, e, _, h1, A5, c5, rfl, h2⟩ := hnr q hq'
                simp only [Option.some.injEq, Addr.mk.injEq, and_true] at e
                obtain ⟨rfl, rfl⟩ := e
                have hrl : sm.next[q].length = L := by
                  have := (HFS.out.rows _ (List.getElem_mem hq')).1
                  rw [HSL.out] at this
                  omega
                rw [Nat.zero_add, hrl] at h1
                refine ⟨by rw [hn2]; exact cell_ltR h1, A5, c5, h1, fun k hk => ?_⟩
                obtain ⟨g5, o5, e5, _, h5⟩ := h2 k (by omega)
                refine ⟨g5, o5, e5, by rw [hn2]; exact cell_ltR h5, ?_⟩
                rw [h5]
                unfold A.lead
                rw [if_neg (by omega)]
                simp [hq', show k < sm.next[q].length by omega]
              have HFE : Hid (∀ q, q < c → gE < n2 ∧ w2.cell? ⟨gE, q, none⟩ = some (.bool (sm.fin.getD q false))) := fun q hq => by
                have hq' : q < sm.fin.length := by rw [HSF.out]; exact hq
                obtain ⟨g', o', e, _, h1⟩ := her q hq'
                simp only [Option.some.injEq, Addr.mk.injEq, and_true] at e
                obtain ⟨rfl, rfl⟩ := e
                rw [Nat.zero_add] at h1
                exact ⟨by rw [hn2]; exact cell_ltR h1, by rw [h1]; simp [hq']⟩
              have HB2 := Lib.hid (HF2.out.blk HB1.out (show ¬ n1 ≤ w.heap.size by have := HS1.out; omega))
              have HZ2 := Lib.hid (HF2.out.blk HZ1.out (show ¬ n1 ≤ w.heap.size + 1 by have := HS1.out; omega))
              have HWZ : Hid (w.heap.size + 2 ≤ n2) := by have := HS1.out; have h := HF2.out.1; have := HN1.out; show _ ≤ _; omega
              have HF02 : Hid (Frm (fun _ => False) w w2) := HFX.out HF2.out
              have HN2 := Lib.hid hn2
              have x0 := HB2.out.cell 0
              have hg4' : g4 < n2 := by omega
              have hg6' : g6 < n2 := by omega
              rw [← hM, hl2]
              clear hv1 hv2 hfn f2 hok ho4 ho6 hnr her HB1 HZ1 HF HOB o0 o1 o2 o3' HMA hM0 hst0 hM hl2 hg4 hg6 hn2 HG3 HI
              go_wp2_with fail
              rw [← HN2.out]
              have HOU : Hid (OutAt (w2.alloc (.cells #[.int .i64 (L : Int), .int .i64 0, .slice none 0 0, .slice none 0 0] 25)) n2 n2 L (.slice none 0 0) (.slice none 0 0) [] []) :=
                ⟨blk_at HN2.out.symm, ⟨[], rfl, World.ownsRow_nil _ _ _ _, fun _ h => absurd h (Nat.not_lt_zero _)⟩, World.ownsRow_nil _ _ _ _⟩
              have HFR : Hid (Frm (fun b => n2 ≤ b) w2 (w2.alloc (.cells #[.int .i64 (L : Int), .int .i64 0, .slice none 0 0, .slice none 0 0] 25))) := (Frm.refl _ w2).alloc _
              have hM5 : M ≤ 4000 := by have h1 := HOK.out.le; have h2 := HSN.out; have h3 := HMM.out; omega
              clear x0
              go_loopg [14] (M + 1) (fun n u14 wr => ∃ (j : Nat) (nv ev : Value) (rows : List (List Int)) (es : List Bool), j ≤ M ∧ n = M + 1 - j ∧ u14 = .int .i64 (j : Int) ∧ Hid (rows.length = j) ∧ Hid (es.length = j) ∧ Hid (∀ i, i < j → rows.getD i [] = (List.range L).map (fun k : Nat => A.plL sm st (st.1.getD i 0) k)) ∧ Hid (∀ i, i < j → es.getD i false = sm.fin.getD (st.1.getD i 0).toNat false) ∧ Hid (OutAt wr n2 n2 L nv ev rows es) ∧ Hid (Frm (fun b => n2 ≤ b) w2 wr))
              case atStart => exact ⟨0, _, _, [], [], Nat.zero_le _, rfl, rfl, rfl, rfl, fun i hi => absurd hi (Nat.not_lt_zero i), fun i hi => absurd hi (Nat.not_lt_zero i), HOU, HFR⟩
              case round =>
                clear HOU HFR
                obtain ⟨j, nv, ev, rows, es, hj, rfl, rfl, HRL, HEL, HRS, HES, HOU, HFR⟩ := hrel
                by_cases hlj : j < M
                · have hlj' : (j : Int) < (M : Int) := by omega
                  obtain ⟨wo, hwo⟩ : ∃ wo, wo = wr := ⟨_, rfl⟩
                  subst hwo
                  have x0 := (HFR.out.blk HB2.out (show ¬ n2 ≤ w.heap.size by have := HWZ.out; omega)).cell 0
                  go_wp2_with fail
                  have HG0 : Hid (Blk (wo.alloc (.cells (madeCells #[.int .i64 0] L) 3)) wo.heap.size 3 (intCs (List.replicate L 0))) := by rw [← intCs_made]; exact Blk.new wo _ _
                  have HFA : Hid (Frm (fun b => b = wo.heap.size) wo (wo.alloc (.cells (madeCells #[.int .i64 0] L) 3))) := (Frm.refl _ wo).alloc _
                  obtain ⟨gr, hgr⟩ : ∃ gr, gr = wo.heap.size := ⟨_, rfl⟩
                  have hng : n2 ≤ gr := by have := HFR.out.1; have := HN2.out; omega
                  have HOUF : Hid (∀ {V : World}, Frm (fun b => b = gr) wo V → OutAt V n2 n2 L nv ev rows es) := fun F => HOU.out.frm F fun b hb e => by omega
                  rw [← hgr] at HG0 HFA
                  rw [← hgr]
                  have HGR := Lib.hid hgr
                  generalize wo.alloc (.cells (madeCells #[.int .i64 0] L) 3) = wa at *
                  clear x0 hgr
                  have hjM : j < st.1.length := by rw [← HMM.out]; exact hlj
                  obtain ⟨h1, h2, _⟩ := HOK.out.ord j hjM
                  obtain ⟨q, hq⟩ := Int.eq_ofNat_of_zero_le h1
                  have hqc : q < c := by rw [hq, HSN.out] at h2; omega
                  have HQ : Hid (st.1.getD j 0 = (q : Int)) := by show _ = _; rw [← hq]; simp [hjM]
                  obtain ⟨hgN, A5, c5, cN, hrow⟩ := HNX.out q hqc
                  have HCN := Lib.hid cN
                  have HROW := Lib.hid hrow
                  have hqc' : (q : Int) < (c : Int) := by omega
                  clear h1 h2 hq cN hrow
                  go_loopg [16] (L + 1) (fun n u16 wr' => ∃ (k : Nat) (l : List Int), k ≤ L ∧ n = L + 1 - k ∧ u16 = .int .i64 (k : Int) ∧ Hid (l.length = L) ∧ Hid (∀ i : Nat, i < k → l.getD i 0 = A.plL sm st q i) ∧ Hid (Blk wr' gr 3 (intCs l)) ∧ Hid (Frm (fun b => b = gr) wo wr'))
                  case atStart => exact ⟨0, _, Nat.zero_le _, rfl, rfl, by simp [Lib.hid], fun i hi => absurd hi (Nat.not_lt_zero i), HG0, HFA⟩
                  case round =>
                    clear HG0 HFA
                    obtain ⟨k, l, hk, rfl, rfl, HLL, HRO, HG, HFG⟩ := hrel
                    have HFW : Hid (Frm (fun b => n2 ≤ b) w2 wr) := HFR.out.trans (HFG.out.mono fun b _ e => by omega)
                    have x0 := (HFW.out.blk HB2.out (show ¬ n2 ≤ w.heap.size by have := HWZ.out; omega)).cell 0
                    by_cases hkl : k < L
                    · have hkl' : (k : Int) < (L : Int) := by omega
                      have hll : k < l.length := by rw [HLL.out]; exact hkl
                      have y0 := (HG.out.cell k).trans (intCs_getD hll)
                      have yf := HG.out.frozen k
                      obtain ⟨g5, o5, hA5, hg5, hcj⟩ := HROW.out k hkl
                      subst hA5
                      have FS : Frm (fun b => b = gr) wr (wr.setCell ⟨gr, k, none⟩ (.int .i64 (-1))) := Frm.one gr k _
                      have HG3' : Hid (Blk (wr.setCell ⟨gr, k, none⟩ (.int .i64 (-1))) gr 3 (intCs (l.set k (-1)))) := by rw [← intCs_set]; exact HG.out.set_ k _
                      have HFZ : Hid (Frm (fun b => b = gr) wo (wr.setCell ⟨gr, k, none⟩ (.int .i64 (-1)))) := HFG.out.trans FS
                      have HFW2 : Hid (Frm (fun b => n2 ≤ b) w2 (wr.setCell ⟨gr, k, none⟩ (.int .i64 (-1)))) := HFR.out.trans (HFZ.out.mono fun b _ e => by omega)
                      have hmore : ∀ y : Int, A.plL sm st q k = y → ∀ i : Nat, i < k + 1 → (l.set k y).getD i 0 = A.plL sm st q i := fun y hy i hi => by
                        rw [A.getD_setR hll]
                        split
                        · rename_i e; rw [← e, hy]
                        · exact HRO.out i (by omega)
                      have HMO := Lib.hid hmore
                      have HCJ := Lib.hid hcj
                      have HXB : Hid (A.lead sm q k = -1 ∨ (0 ≤ A.lead sm q k ∧ A.lead sm q k < c)) := by
                        have hqn : q < sm.next.length := by rw [HSN.out]; exact hqc
                        obtain ⟨i1, i2⟩ := A.lead_in HFS.out hqn (k := k) (by rw [HSL.out]; omega)
                        rw [HSN.out] at i2
                        show _ ∨ _
                        omega
                      have HPL : Hid (A.plL sm st q k = if 0 ≤ A.lead sm q k then st.2.getD (A.lead sm q k).toNat 0 else -1) := rfl
                      have HLLS : Hid (∀ u, (l.set k u).length = L) := fun u => by rw [List.length_set]; exact HLL.out
                      clear hmore FS hcj
                      generalize A.lead sm q k = x at *
                      generalize A.plL sm st q k = pl at *
                      go_wp2_with fail
                      clear y0 yf x0
                      generalize wr.setCell ⟨gr, k, none⟩ (.int .i64 (-1)) = W5 at *
                      have a0 := (HFW2.out.blk HO2.out (show ¬ n2 ≤ ob by have := HOL2.out; omega)).cell 2
                      have a1 := HFW2.out.cell (show ¬ n2 ≤ g4 by omega) (HG4.out j hlj)
                      rw [HQ.out] at a1
                      have a2 := HFW2.out.cell (show ¬ n2 ≤ gN by omega) HCN.out
                      have a3 := HFW2.out.cell (show ¬ n2 ≤ g5 by omega) HCJ.out
                      go_wp2_with fail
                      go_quiet (fail)
                      have HG1 := Lib.hid (HG3'.out.drewN nq)
                      have HFZ1 := Lib.hid (HFZ.out.drewN nq)
                      have HFW3 := Lib.hid (HFW2.out.drewN nq)
                      generalize W5.drewN nq = wq at *
                      clear HG3' HFZ HFW2 a0 a1 a2 a3
                      rcases HXB.out with hx | ⟨hx, hxc⟩
                      · subst hx
                        have HRO2 : Hid (∀ i : Nat, i < k + 1 → (l.set k (-1)).getD i 0 = A.plL sm st q i) := HMO.out _ (by rw [HPL.out]; rfl)
                        go_wp2_with fail
                        go_roundg (L + 1 - (k + 1))
                        case measure => omega
                        case rel => exact ⟨k + 1, l.set k (-1), by omega, rfl, by go_num, HLLS.out _, HRO2, HG1, HFZ1⟩
                      · obtain ⟨p, rfl⟩ := Int.eq_ofNat_of_zero_le hx
                        have b1 := HFW3.out.cell (show ¬ n2 ≤ g6 by omega) (HG6.out p (by omega))
                        have HRO2 : Hid (∀ i : Nat, i < k + 1 → (l.set k (st.2.getD p 0)).getD i 0 = A.plL sm st q i) := HMO.out _ (by rw [HPL.out, if_pos hx, Int.toNat_natCast])
                        generalize st.2.getD p 0 = u at *
                        have q0 := (HG1.out.cell k).trans (intCs_getD (by rw [HLLS.out]; exact hkl))
                        have q1 := HG1.out.frozen k
                        have HG4 : Hid (Blk (wq.setCell ⟨gr, k, none⟩ (.int .i64 u)) gr 3 (intCs (l.set k u))) := by
                          have h := HG1.out.set_ k (.int .i64 u)
                          rw [intCs_set, List.set_set] at h
                          exact h
                        have HFS2 : Hid (Frm (fun b => b = gr) wo (wq.setCell ⟨gr, k, none⟩ (.int .i64 u))) := HFZ1.out.trans (Frm.one gr k _)
                        go_wp2_with fail
                        go_roundg (L + 1 - (k + 1))
                        case measure => omega
                        case rel => exact ⟨k + 1, l.set k u, by omega, rfl, by go_num, HLLS.out _, HRO2, HG4, HFS2⟩
                    · have hkl' : ¬ (k : Int) < (L : Int) := by omega
                      obtain rfl : L = k := by omega
                      have hrow : l = (List.range L).map (fun i : Nat => A.plL sm st q i) := A.row_eq HLL.out HRO.out
                      have HROWE := Lib.hid hrow
                      obtain ⟨hb, ⟨vals, hv1, hv2, hv3⟩, hev⟩ := HOUF.out HFG.out
                      rw [HRL.out] at hv1 hv2
                      rw [HEL.out] at hev
                      obtain ⟨An, cn', rfl⟩ := own_form hv2
                      have y2 := hb.cell 2
                      have HB4 := Lib.hid hb
                      have HV1 := Lib.hid hv1
                      have HV2 := Lib.hid hv2
                      have HV3 := Lib.hid hv3
                      have HEV := Lib.hid hev
                      have HSZ : Hid (n2 ≤ wr.heap.size) := show _ ≤ _ by have := HFW.out.1; have := HN2.out; omega
                      obtain ⟨i0, hi0, hz0, hz1, hz2⟩ := info_parts info_row
                      clear hb hv1 hv2 hv3 hev hrow HRO
                      go_wp2_with (at_builtin; refine wpList_append_own _ rfl _ _ 22 rfl n2 35 i0 (.slice none 0 0) 1 24 Try.underlying22 hi0 hz0 hz1 hz2 rfl (by decide) _ _ _ rfl (World.ownsRow.alloc HV2.out _) ⟨wr.heap.size, 0, none⟩ 1 1 [.slice (some ⟨gr, 0, none⟩) L L] rfl rfl ?z1 ?z2 ?z3 ?z4 ?z5 ?_)
                      case z2 => simp [Value.oneCell']
                      case z3 => unfold maxLen; omega
                      case z4 => omega
                      case z5 => have := HSZ.out; simp; omega
                      intro v' w4 hown1 hgrow _
                      have FG : Frm (fun x => (Value.slice An j cn').ownBlock = some x) wr w4 := ((Frm.refl _ wr).alloc _).grown hgrow fun g h _ => h
                      have hne : ∀ {g : Nat} {t' : TypeId} {cs : Array Value}, Blk wr g t' cs → t' ≠ 35 → ¬ (Value.slice An j cn').ownBlock = some g := fun {g t' cs} hb ht e => by
                        obtain ⟨_, cs', hb'⟩ := own_type HV2.out e
                        exact ht (blk_type hb hb')
                      have HB5 := Lib.hid (FG.blk HB4.out (hne HB4.out (by decide)))
                      have HC5 : Hid (RowsC w4 n2 v' (rows ++ [l])) := RowsC.push (by rw [HRL.out]; exact HV1.out) (by rw [HRL.out]; exact HV2.out) HV3.out HG.out hng HLL.out FG (by rw [HRL.out]; exact hown1)
                      have HE5 : Hid (w4.ownsRow n2 4 1 ev j (es.map Value.bool)) := FG.row HEV.out (fun g hg => by
                        obtain ⟨_, cs', hb'⟩ := own_type HEV.out hg
                        exact hne hb' (by decide)) (Nat.le_refl _)
                      have HFW5 : Hid (Frm (fun b => n2 ≤ b) w2 w4) := HFW.out.trans (FG.mono fun b _ e => (own_type HV2.out e).1)
                      obtain ⟨An2, cn2, rfl⟩ := own_form hown1
                      clear hown1 hgrow FG hne HB4 HV1 HV2 HV3 HEV y2 HFW HG HFG
                      have y2 := HB5.out.cell 2
                      have yf := HB5.out.frozen 2
                      have HFS6 : Hid (Frm (fun b => b = n2) w4 (w4.setCell ⟨n2, 2, none⟩ (.slice An2 (j + 1) cn2))) := Frm.one n2 2 _
                      have HB6 : Hid (Blk (w4.setCell ⟨n2, 2, none⟩ (.slice An2 (j + 1) cn2)) n2 25 #[.int .i64 (L : Int), .int .i64 0, .slice An2 (j + 1) cn2, ev]) := HB5.out.set_ 2 _
                      have HC6 : Hid (RowsC (w4.setCell ⟨n2, 2, none⟩ (.slice An2 (j + 1) cn2)) n2 (.slice An2 (j + 1) cn2) (rows ++ [l])) := HC5.out.typ HFS6.out (fun b cs hb e => by subst e; exact absurd (blk_type hb HB5.out) (by decide)) (fun b cs hb e => by subst e; exact absurd (blk_type hb HB5.out) (by decide))
                      have HE6 : Hid ((w4.setCell ⟨n2, 2, none⟩ (.slice An2 (j + 1) cn2)).ownsRow n2 4 1 ev j (es.map Value.bool)) := HFS6.out.row HE5.out (fun g hg e => by
                        obtain ⟨_, cs', hb'⟩ := own_type HE5.out hg
                        subst e
                        exact absurd (blk_type hb' HB5.out) (by decide)) (Nat.le_refl _)
                      have HFW6 : Hid (Frm (fun b => n2 ≤ b) w2 (w4.setCell ⟨n2, 2, none⟩ (.slice An2 (j + 1) cn2))) := HFW5.out.trans (HFS6.out.mono fun b _ e => by omega)
                      clear HC5 HE5 HFW5
                      go_wp2_with fail
                      clear HFS6 y2 yf HB5
                      generalize w4.setCell ⟨n2, 2, none⟩ (.slice An2 (j + 1) cn2) = W6 at *
                      have HNZ : Hid (n2 ≤ W6.heap.size) := show _ ≤ _ by have := HFW6.out.1; have := HN2.out; omega
                      have HOWN : Hid (∀ x, ev.ownBlock = some x → n2 ≤ x ∧ x < W6.heap.size) := fun x hx => World.ownsRow.lt HE6.out x hx
                      obtain ⟨bo, hbo⟩ : ∃ bo, bo = sm.fin.getD q false := ⟨_, rfl⟩
                      have HBO := Lib.hid hbo
                      have HNB : Hid (∀ x, x < n2 → ¬ (x = n2 ∨ ev.ownBlock = some x)) := fun x hx e => by
                        rcases e with e | e
                        · omega
                        · have := (HOWN.out x e).1; omega
                      have HXO : Hid (∀ {V : World}, Frm (fun b => b = n2 ∨ ev.ownBlock = some b) W6 V → Blk V ob 25 #[.int .i64 (L : Int), .int .i64 (s0 : Int), .slice (some ⟨gN, 0, none⟩) c c, .slice (some ⟨gE, 0, none⟩) c c]) := fun F => F.blk (HFW6.out.blk HO2.out (by have := HOL2.out; omega)) (HNB.out _ HOL2.out)
                      have HX4 : Hid (∀ {V : World}, Frm (fun b => b = n2 ∨ ev.ownBlock = some b) W6 V → V.cell? ⟨g4, o4 + j, none⟩ = some (.int .i64 (q : Int))) := fun F => F.cell (HNB.out _ hg4') (HFW6.out.cell (show ¬ n2 ≤ g4 by omega) (by have h := HG4.out j hlj; rw [HQ.out] at h; exact h))
                      have HXE : Hid (∀ {V : World}, Frm (fun b => b = n2 ∨ ev.ownBlock = some b) W6 V → V.cell? ⟨gE, q, none⟩ = some (.bool bo)) := fun F => by
                        obtain ⟨e1, e2⟩ := HFE.out q hqc
                        have h := F.cell (HNB.out _ e1) (HFW6.out.cell (show ¬ n2 ≤ gE by omega) e2)
                        rw [HBO.out]
                        exact h
                      clear hbo
                      refine wp_region_dep [180, 181, 182, 183, 184, 185, 186, 187, 188, 189, 190, 191, 192, 1000] [[0], [1], [2], [3], [4], [5], [6], [7], [8], [9], [10], [11], [12], [11]]
                        [f1 (vV (.pointer (some ⟨n2, 3, none⟩))), f1 (vV ev), f1 (vV (.pointer (some ⟨ob, 3, none⟩))), f1 (vV (.slice (some ⟨gE, 0, none⟩) c c)), f1 (vV (.slice (some ⟨g4, o4, none⟩) M c4)), f1 (vV (.int .i64 (j : Int))), f1 (vV (.pointer (some ⟨g4, o4 + j, none⟩))), f1 (vV (.int .i64 (q : Int))), f1 (vV (.pointer (some ⟨gE, q, none⟩))), f1 (vV (.bool bo)), f1 (oneE W6.heap.size bo), f1 (growE n2 j es bo), f1 (vV (.pointer (some ⟨n2, 3, none⟩))), f1 (fun v w' => Blk w' n2 25 #[.int .i64 (L : Int), .int .i64 0, .slice An2 (j + 1) cn2, v])]
                        (Frm (fun b => b = n2 ∨ ev.ownBlock = some b)) (fun i => if i = 11 then RAe ev.ownBlock else if i = 13 then RB n2 else Frm (fun _ => False)) (fun i w' => if i = 11 then w'.ownsRow n2 4 1 ev j (es.map Value.bool) else if i = 13 ∨ i = 1 then Blk w' n2 25 #[.int .i64 (L : Int), .int .i64 0, .slice An2 (j + 1) cn2, ev] else True) []
                        [(13, .pointer (some ⟨n2, 0, none⟩)), (6, .pointer (some ⟨ob, 0, none⟩)), (11, .slice (some ⟨g4, o4, none⟩) M c4), (14, .int .i64 (j : Int))] (by kernel_rfl) (by kernel_rfl) (fun _ _ _ => Frm.trans) ?_ ?_ ?_ ?_ (fun _ h => by cases h) (Frm.refl _ _).drew ?_ ?_ ?_
                      · intro i a b h
                        split at h
                        · exact h.1.mono fun _ _ h => .inr h
                        · split at h
                          · exact h.1.mono fun _ _ h => .inl h
                          · exact h.mono fun _ _ h => h.elim
                      · intro j' i hj' hi hne hna l' a b hf hr
                        have hj2 : j' < 14 := hj'
                        by_cases h11 : i = 11
                        · subst h11
                          rw [if_pos rfl] at hr
                          by_cases e10 : j' = 10
                          · subst e10
                            obtain ⟨b', e, hb1, hb2⟩ := hf
                            refine ⟨b', e, hb1, hr.1.blk hb2 fun e' => ?_⟩
                            have := (HOWN.out b' e').2
                            omega
                          · have hcs : j' = 0 ∨ j' = 1 ∨ j' = 2 ∨ j' = 3 ∨ j' = 4 ∨ j' = 5 ∨ j' = 6 ∨ j' = 7 ∨ j' = 8 ∨ j' = 9 ∨ j' = 12 ∨ j' = 13 := by omega
                            rcases hcs with rfl | rfl | rfl | rfl | rfl | rfl | rfl | rfl | rfl | rfl | rfl | rfl <;> first | exact hf | (simp at hna)
                        · rw [if_neg h11] at hr
                          by_cases h13 : i = 13
                          · subst h13
                            rw [if_pos rfl] at hr
                            by_cases e10 : j' = 10
                            · subst e10
                              obtain ⟨b', e, hb1, hb2⟩ := hf
                              refine ⟨b', e, hb1, hr.1.blk hb2 ?_⟩
                              have := HNZ.out
                              have hb3 := HB6.out.lt
                              omega
                            · by_cases e11 : j' = 11
                              · subst e11
                                exact growE.rb hf hr
                              · have hcs : j' = 0 ∨ j' = 1 ∨ j' = 2 ∨ j' = 3 ∨ j' = 4 ∨ j' = 5 ∨ j' = 6 ∨ j' = 7 ∨ j' = 8 ∨ j' = 9 ∨ j' = 12 := by omega
                                rcases hcs with rfl | rfl | rfl | rfl | rfl | rfl | rfl | rfl | rfl | rfl | rfl <;> exact hf
                          · rw [if_neg h13] at hr
                            by_cases e10 : j' = 10
                            · subst e10
                              obtain ⟨b', e, hb1, hb2⟩ := hf
                              exact ⟨b', e, hb1, hr.blk hb2 id⟩
                            · by_cases e11 : j' = 11
                              · subst e11
                                exact hr.row hf (fun _ _ => id) (Nat.le_refl _)
                              · by_cases e13 : j' = 13
                                · subst e13
                                  exact hr.blk hf id
                                · have hcs : j' = 0 ∨ j' = 1 ∨ j' = 2 ∨ j' = 3 ∨ j' = 4 ∨ j' = 5 ∨ j' = 6 ∨ j' = 7 ∨ j' = 8 ∨ j' = 9 ∨ j' = 12 := by omega
                                  rcases hcs with rfl | rfl | rfl | rfl | rfl | rfl | rfl | rfl | rfl | rfl | rfl <;> exact hf
                      · intro i j' hj' hne hna a b hf hr
                        by_cases h11 : i = 11
                        · subst h11
                          rw [if_pos rfl] at hf ⊢
                          rw [if_neg (Ne.symm hne)] at hr
                          by_cases h13 : j' = 13
                          · subst h13
                            simp at hna
                          · rw [if_neg h13] at hr
                            exact hr.row hf (fun _ _ => id) (Nat.le_refl _)
                        · rw [if_neg h11] at hf ⊢
                          by_cases h13 : i = 13 ∨ i = 1
                          · rw [if_pos h13] at hf ⊢
                            by_cases j11 : j' = 11
                            · rw [if_pos j11] at hr
                              exact hr.blk hf (by decide)
                            · rw [if_neg j11] at hr
                              by_cases j13 : j' = 13
                              · subst j13
                                rcases h13 with h | h
                                · exact absurd h hne
                                · subst h
                                  simp at hna
                              · rw [if_neg j13] at hr
                                exact hr.blk hf id
                          · rw [if_neg h13]
                            trivial
                      · intro i
                        split
                        · exact HE6.out
                        · split
                          · exact HB6.out
                          · trivial
                      · intro x hx
                        simp only [List.mem_cons, List.not_mem_nil, or_false] at hx
                        rcases hx with rfl | rfl | rfl | rfl <;> exact ⟨by simp, rfl⟩
                      · refine ⟨?_, ?_, ?_, ?_, ?_, ?_, ?_, ?_, ?_, ?_, ?_, ?_, ?_, ?_, trivial⟩
                        · intro Q tm df V hR _ hu hd
                          have u1 : tm[13]?.getD undef = .pointer (some ⟨n2, 0, none⟩) := hu (13, _) (by simp)
                          clear hu hd
                          go_simp
                          exact ⟨_, rfl, rfl, Frm.refl _ V⟩
                        · intro Q tm df V hR hx hu hd
                          have hb : Blk V n2 25 #[.int .i64 (L : Int), .int .i64 0, .slice An2 (j + 1) cn2, ev] := hx
                          have e0 : tm[180]?.getD undef = .pointer (some ⟨n2, 3, none⟩) := hd 0 (by simp)
                          have y := hb.cell 3
                          clear hu hd hb
                          go_simp
                          exact ⟨_, rfl, rfl, Frm.refl _ V⟩
                        · intro Q tm df V hR _ hu hd
                          have u1 : tm[6]?.getD undef = .pointer (some ⟨ob, 0, none⟩) := hu (6, _) (by simp)
                          clear hu hd
                          go_simp
                          exact ⟨_, rfl, rfl, Frm.refl _ V⟩
                        · intro Q tm df V hR hx hu hd
                          have e0 : tm[182]?.getD undef = .pointer (some ⟨ob, 3, none⟩) := hd 2 (by simp)
                          have y := (HXO.out hR).cell 3
                          clear hu hd
                          go_simp
                          exact ⟨_, rfl, rfl, Frm.refl _ V⟩
                        · intro Q tm df V hR _ hu hd
                          have u1 : tm[11]?.getD undef = .slice (some ⟨g4, o4, none⟩) M c4 := hu (11, _) (by simp)
                          clear hu hd
                          go_simp
                          exact ⟨_, rfl, rfl, Frm.refl _ V⟩
                        · intro Q tm df V hR _ hu hd
                          have u1 : tm[14]?.getD undef = .int .i64 (j : Int) := hu (14, _) (by simp)
                          clear hu hd
                          go_simp
                          exact ⟨_, rfl, rfl, Frm.refl _ V⟩
                        · intro Q tm df V hR _ hu hd
                          have e0 : tm[184]?.getD undef = .slice (some ⟨g4, o4, none⟩) M c4 := hd 4 (by simp)
                          have e1 : tm[185]?.getD undef = .int .i64 (j : Int) := hd 5 (by simp)
                          clear hu hd
                          go_simp
                          exact ⟨_, rfl, rfl, Frm.refl _ V⟩
                        · intro Q tm df V hR hx hu hd
                          have e0 : tm[186]?.getD undef = .pointer (some ⟨g4, o4 + j, none⟩) := hd 6 (by simp)
                          have y := HX4.out hR
                          clear hu hd
                          go_simp
                          exact ⟨_, rfl, rfl, Frm.refl _ V⟩
                        · intro Q tm df V hR _ hu hd
                          have e0 : tm[183]?.getD undef = .slice (some ⟨gE, 0, none⟩) c c := hd 3 (by simp)
                          have e1 : tm[187]?.getD undef = .int .i64 (q : Int) := hd 7 (by simp)
                          clear hu hd
                          go_simp
                          exact ⟨_, rfl, rfl, Frm.refl _ V⟩
                        · intro Q tm df V hR hx hu hd
                          have e0 : tm[188]?.getD undef = .pointer (some ⟨gE, q, none⟩) := hd 8 (by simp)
                          have y := HXE.out hR
                          clear hu hd
                          go_simp
                          exact ⟨_, rfl, rfl, Frm.refl _ V⟩
                        · intro Q tm df V hR hx hu hd
                          have e0 : tm[189]?.getD undef = .bool bo := hd 9 (by simp)
                          clear hu hd hx
                          go_simp
                          exact ⟨_, rfl, ⟨V.heap.size, rfl, hR.1, Blk.new _ _ _⟩, (Frm.refl _ V).alloc _⟩
                        · intro Q tm df V hR hx hu hd
                          have hown : V.ownsRow n2 4 1 ev j (es.map Value.bool) := hx
                          have e1 : tm[181]?.getD undef = ev := hd 1 (by simp)
                          obtain ⟨b', e9, hb1, hb2⟩ : oneE W6.heap.size bo (tm[190]?.getD undef) V := hd 10 (by simp)
                          obtain ⟨i0, hi0, hz0, hz1, hz2⟩ := info_parts info_boolE
                          refine wp_app_own (.tmp 181) (.tmp 190) rfl Try.underlying23 hi0 hz0 hz1 hz2 rfl (by simpa [Act.eval] using e1) (by simpa [Act.eval] using e9) hown hb2 rfl (by unfold maxLen; omega) (by omega) (by have := hR.1; have := HNZ.out; omega) fun v' w' ho hg => ?_
                          exact ⟨v', rfl, (fun h => by cases h), ho, (Frm.refl _ V).grown hg (fun g h _ => h), fun x hx' => (own_type hown hx').2⟩
                        · intro Q tm df V hR _ hu hd
                          have u1 : tm[13]?.getD undef = .pointer (some ⟨n2, 0, none⟩) := hu (13, _) (by simp)
                          clear hu hd
                          go_simp
                          exact ⟨_, rfl, rfl, Frm.refl _ V⟩
                        · intro Q tm df V hR hx hu hd
                          have hb : Blk V n2 25 #[.int .i64 (L : Int), .int .i64 0, .slice An2 (j + 1) cn2, ev] := hx
                          have e0 : tm[192]?.getD undef = .pointer (some ⟨n2, 3, none⟩) := hd 12 (by simp)
                          have ho : growE n2 j es bo (tm[191]?.getD undef) V := hd 11 (by simp)
                          obtain ⟨A10, c10, e10⟩ := own_form ho
                          have y := hb.cell 3
                          have z := hb.frozen 3
                          have hrb : RB n2 V (V.setCell ⟨n2, 3, none⟩ (.slice A10 (j + 1) c10)) := ⟨(Frm.refl (fun x => x = n2) V).set_ (p := ⟨n2, 3, none⟩) (fun _ => rfl) _, _, hb⟩
                          have HRB := Lib.hid hrb
                          have HH2 : Hid (Blk (V.setCell ⟨n2, 3, none⟩ (.slice A10 (j + 1) c10)) n2 25 #[.int .i64 (L : Int), .int .i64 0, .slice An2 (j + 1) cn2, .slice A10 (j + 1) c10]) := hb.set_ 3 _
                          have H10 := Lib.hid e10
                          clear hu hd ho hb hrb
                          go_simp
                          exact ⟨by rw [show f1 _ _ _ = Blk _ _ _ _ from rfl, show updV _ 13 undef 11 = tm[191]?.getD undef from rfl, H10.out]; exact HH2.out, HRB.out⟩
                      · intro vs V hR hf
                        have hN : Blk V n2 25 #[.int .i64 (L : Int), .int .i64 0, .slice An2 (j + 1) cn2, vs 11] := hf 13 (by decide)
                        have hG : growE n2 j es bo (vs 11) V := hf 11 (by decide)
                        have hE1 : ∀ b cs, Blk W6 b 35 cs → ¬ (b = n2 ∨ ev.ownBlock = some b) := fun b cs hb e => by
                          rcases e with e | e
                          · subst e; exact absurd (blk_type hb HB6.out) (by decide)
                          · obtain ⟨_, cs', hb'⟩ := own_type HE6.out e
                            exact absurd (blk_type hb hb') (by decide)
                        have hE2 : ∀ b cs, Blk W6 b 3 cs → ¬ (b = n2 ∨ ev.ownBlock = some b) := fun b cs hb e => by
                          rcases e with e | e
                          · subst e; exact absurd (blk_type hb HB6.out) (by decide)
                          · obtain ⟨_, cs', hb'⟩ := own_type HE6.out e
                            exact absurd (blk_type hb hb') (by decide)
                        have HO2' : Hid (OutAt V n2 n2 L (.slice An2 (j + 1) cn2) (vs 11) (rows ++ [l]) (es ++ [bo])) := by
                          refine ⟨hN, HC6.out.typ hR hE1 hE2, ?_⟩
                          have h := hG
                          unfold growE at h
                          rw [List.length_append, List.map_append, HEL.out]
                          exact h
                        have HFR2 : Hid (Frm (fun b => n2 ≤ b) w2 V) := HFW6.out.trans (hR.mono fun b _ e => by
                          rcases e with e | e
                          · omega
                          · exact (HOWN.out b e).1)
                        have HRL2 : Hid ((rows ++ [l]).length = j + 1) := by show _ = _; rw [List.length_append, HRL.out]; rfl
                        have HEL2 : Hid ((es ++ [bo]).length = j + 1) := by show _ = _; rw [List.length_append, HEL.out]; rfl
                        have HRS2 : Hid (∀ i, i < j + 1 → (rows ++ [l]).getD i [] = (List.range L).map (fun k : Nat => A.plL sm st (st.1.getD i 0) k)) := fun i hi => by
                          by_cases e : i < j
                          · have h := HRS.out i e
                            rw [← h]
                            simp [List.getElem?_append_left (show i < rows.length by rw [HRL.out]; exact e)]
                          · obtain rfl : i = j := by omega
                            rw [HQ.out, ← HROWE.out]
                            have hl := HRL.out
                            simp [hl]
                        have HES2 : Hid (∀ i, i < j + 1 → (es ++ [bo]).getD i false = sm.fin.getD (st.1.getD i 0).toNat false) := fun i hi => by
                          by_cases e : i < j
                          · have h := HES.out i e
                            rw [← h]
                            simp [List.getElem?_append_left (show i < es.length by rw [HEL.out]; exact e)]
                          · obtain rfl : i = j := by omega
                            rw [HQ.out, Int.toNat_natCast, ← HBO.out]
                            have hl := HEL.out
                            simp [hl]
                        clear hN hG hE1 hE2 hR hf
                        simp only [putAll, List.size_toArray, List.length_cons, List.length_nil, Nat.zero_add, Nat.reduceAdd, show List.range 14 = [0, 1, 2, 3, 4, 5, 6, 7, 8, 9, 10, 11, 12, 13] from rfl, List.foldl_cons, List.foldl_nil, List.getD_cons_zero, List.getD_cons_succ, List.setIfInBounds_toArray, List.set_cons_zero, List.set_cons_succ]
                        go_wp2_with fail
                        go_roundg (M + 1 - (j + 1))
                        case measure => omega
                        case rel => exact ⟨j + 1, .slice An2 (j + 1) cn2, vs 11, rows ++ [l], es ++ [bo], by omega, rfl, by go_num, HRL2, HEL2, HRS2, HES2, HO2', HFR2⟩
                · have hlj' : ¬ (j : Int) < (M : Int) := by omega
                  obtain rfl : M = j := by omega
                  obtain ⟨hb, hrc, hev⟩ := HOU.out
                  have hnv : ∃ A0 c0, nv = .slice A0 M c0 := by
                    obtain ⟨vals, _, hv2, _⟩ := id hrc
                    rw [HRL.out] at hv2
                    exact own_form hv2
                  have hevf : ∃ A0 c0, ev = .slice A0 M c0 := by
                    have h := hev
                    rw [HEL.out] at h
                    exact own_form h
                  have hbs : Bools wr (fun b => n2 ≤ b ∧ NM wr b) ev es := own_boolsT hev
                  obtain ⟨An, cn', rfl⟩ := hnv
                  obtain ⟨Ae, ce', rfl⟩ := hevf
                  have HMA2 : Hid (MachAt wr (fun b => n2 ≤ b ∧ NM wr b) (.agg #[.int .i64 (L : Int), .int .i64 0, .slice An M cn', .slice Ae M ce']) ⟨(L : Int), 0, rows, es⟩) := ⟨_, _, rfl, hrc.rows2T, hbs⟩
                  have HSHR : Hid (A.Shr m ⟨(L : Int), 0, rows, es⟩) := by
                    refine ⟨cl, c, HC.out, Or.inr ⟨by rw [HT.out]; omega, by rw [HT.out, Int.toNat_natCast, HS0.out]; omega, sm, st, HREP.out, HFN.out, ⟨HSL.out.symm, rfl, HRL.out.trans HMM.out, HEL.out.trans HMM.out, fun i hi => ?_⟩⟩⟩
                    have hi' : i < M := by rw [HMM.out]; exact hi
                    have e : st.1.getD i 0 = st.1[i] := by simp [hi]
                    have h1 := HRS.out i hi'
                    have h2 := HES.out i hi'
                    rw [e] at h1 h2
                    refine ⟨?_, h2⟩
                    rw [HSL.out, Int.toNat_natCast]
                    exact h1
                  have HFF : Hid (Frm (fun _ => False) w wr) := ((HF02.out.mono fun _ _ h => h.elim).trans HFR.out).mono fun b hb h => by have := HWZ.out; omega
                  have HBZ := Lib.hid (HFR.out.blk HZ2.out (show ¬ n2 ≤ w.heap.size + 1 by have := HWZ.out; omega))
                  have y0 := hb.cell 0
                  have y1 := hb.cell 1
                  have y2 := hb.cell 2
                  have y3 := hb.cell 3
                  have z0 := HBZ.out.cell 0
                  have z1 := HBZ.out.cell 1
                  have z2 := HBZ.out.cell 2
                  have z3 := HBZ.out.cell 3
                  have q0 := HBZ.out.frozen 0
                  have q1 := HBZ.out.frozen 1
                  have q2 := HBZ.out.frozen 2
                  have q3 := HBZ.out.frozen 3
                  simp only [zeroM] at z0 z1 z2 z3
                  clear hb hrc hev hbs
                  go_wp2_with fail
                  have hm2 : MachAt (put4 wr (w.heap.size + 1) (.int .i64 (L : Int)) (.int .i64 0) (.slice An M cn') (.slice Ae M ce')) (fun b => w.heap.size ≤ b ∧ NM (put4 wr (w.heap.size + 1) (.int .i64 (L : Int)) (.int .i64 0) (.slice An M cn') (.slice Ae M ce')) b) (.agg #[.int .i64 (L : Int), .int .i64 0, .slice An M cn', .slice Ae M ce']) ⟨(L : Int), 0, rows, es⟩ := (HMA2.out.keep put4_frm1 fun b hb h => by have := HWZ.out; have := hb.1; omega).mono fun b hb => by have := HWZ.out; have h1 := hb.1; exact ⟨by omega, hb.2.frm put4_frm1 (by omega)⟩
                  refine bodyPost_ret (w := put4 wr (w.heap.size + 1) (.int .i64 (L : Int)) (.int .i64 0) (.slice An M cn') (.slice Ae M ce')) (v := .agg #[.int .i64 (L : Int), .int .i64 0, .slice An M cn', .slice Ae M ce']) ?_ rfl ⟨_, rfl, _, hm2, HSHR.out, put4_frm HFF.out (by omega)⟩
                  have h4 := put4_blk (l := .int .i64 (L : Int)) (s := .int .i64 0) (n := .slice An M cn') (e := .slice Ae M ce') HBZ.out
                  generalize put4 wr (w.heap.size + 1) (.int .i64 (L : Int)) (.int .i64 0) (.slice An M cn') (.slice Ae M ce') = w4 at *
                  clear y0 y1 y2 y3 z0 z1 z2 z3 q0 q1 q2 q3
                  have y0 := h4.cell 0
                  have y1 := h4.cell 1
                  have y2 := h4.cell 2
                  have y3 := h4.cell 3
                  simp [results, Try.results19, go_sem, y0, y1, y2, y3]
end Go.Proofs.Ytmoniecknimmdaa
end
section
namespace Go.Proofs.Ytmoniecknimmdaa
open Go.RowKit
namespace A
def leastM (m : Mac) : Mac := (leastO 100000 m).getD m
theorem leastM_is {m : Mac} (hv : valid m = 0) : leastO 100000 m = some (leastM m) ∧ LeastOf m (leastM m) := by
  obtain ⟨hf, hl, hn⟩ := valid_fits hv
  obtain ⟨o, h1, h2⟩ := leastO_ok hf (by omega) hl (f := 100000) (by omega)
  have e : leastM m = o := by unfold leastM; rw [h1]; rfl
  rw [e]
  exact ⟨h1, h2⟩
/-- What Least tells. -/
def lst (m : Mac) : Mac × Int := if valid m = 0 then (leastM m, 0) else (⟨0, 0, [], []⟩, 1)
theorem lst_O (m : Mac) : LeastO 100000 m = some (lst m) := by
  unfold LeastO lst
  by_cases hv : valid m = 0
  · rw [if_pos hv, if_pos hv, (leastM_is hv).1]
  · rw [if_neg hv, if_neg hv]
theorem Shr.is {m o : Mac} (hv : valid m = 0) (h : Shr m o) : o = leastM m :=
  (h.least (valid_fits hv).1).one (leastM_is hv).2 rfl fun l u v h1 h2 => by rw [h1] at h2; injection h2 with h2; rw [h2]
end A
theorem least_all {w : World} {P : Nat → Prop} {v : Value} {m : A.Mac} (h : MachAt w P v m) (hs : Sized m) :
    Calls Try.prog 8 #[v] w fun e w' => ∃ r, e = .returned (.tuple #[r, .int .i64 (A.lst m).2]) ∧ MachAt w' (fun b => w.heap.size ≤ b) r (A.lst m).1 ∧ Frm (fun _ => False) w w' :=
  Least_any (m2 := (A.lst m).1) (c := (A.lst m).2) h hs (Nat.le_refl _) (A.lst_O m)
set_option maxRecDepth 100000 in
set_option maxHeartbeats 8000000 in
theorem rleast_any {w : World} {P : Nat → Prop} {v : Value} {m m2 : A.Mac} {c : Int} (h : MachAt w P v m) (hsz : Sized m) (hr : A.lst m = (m2, c)) :
    Calls Try.prog 7 #[v] w fun e w' => ∃ r, e = .returned (.tuple #[r, .int .i64 c]) ∧ MachAt w' (fun b => w.heap.size ≤ b) r m2 ∧ Frm (fun _ => False) w w' := by
  obtain ⟨A1, c1, A2, c2, rfl⟩ := h.form
  have HRS := Lib.hid hr
  have HSZ := Lib.hid hsz
  have HB0 : Hid (Blk ((w.alloc (.cells #[.int .i64 m.letters, .int .i64 m.start, .slice A1 m.next.length c1, .slice A2 m.fin.length c2] 25)).alloc (.cells #[.int .i64 0, .int .i64 0, .slice none 0 0, .slice none 0 0] 25)) w.heap.size 25 #[.int .i64 m.letters, .int .i64 m.start, .slice A1 m.next.length c1, .slice A2 m.fin.length c2]) := (Blk.new w _ _).alloc _
  have HR0 : Hid (Blk ((w.alloc (.cells #[.int .i64 m.letters, .int .i64 m.start, .slice A1 m.next.length c1, .slice A2 m.fin.length c2] 25)).alloc (.cells #[.int .i64 0, .int .i64 0, .slice none 0 0, .slice none 0 0] 25)) (w.heap.size + 1) 25 #[.int .i64 0, .int .i64 0, .slice none 0 0, .slice none 0 0]) := blk_at (by simp)
  have F0 : Frm (fun _ => False) w ((w.alloc (.cells #[.int .i64 m.letters, .int .i64 m.start, .slice A1 m.next.length c1, .slice A2 m.fin.length c2] 25)).alloc (.cells #[.int .i64 0, .int .i64 0, .slice none 0 0, .slice none 0 0] 25)) := ((Frm.refl _ w).alloc _).alloc _
  have HM := Lib.hid (h.keep0 F0)
  have HF0 := Lib.hid F0
  have HS0 : Hid (w.heap.size + 2 ≤ ((w.alloc (.cells #[.int .i64 m.letters, .int .i64 m.start, .slice A1 m.next.length c1, .slice A2 m.fin.length c2] 25)).alloc (.cells #[.int .i64 0, .int .i64 0, .slice none 0 0, .slice none 0 0] 25)).heap.size) := show _ ≤ _ by simp
  clear F0 h hr hsz
  go_enter Try.func7, Try.ntmps7
  go_wp2_with fail
  refine (rvalid_any HM.out HSZ.out).mono ?_
  rintro _ w1 ⟨rfl, f1⟩
  have HB1 := Lib.hid (f1.blk HB0.out id)
  have HR1 := Lib.hid (f1.blk HR0.out id)
  have HM1 := Lib.hid (HM.out.keep0 f1)
  have HF1 := Lib.hid (HF0.out.trans f1)
  have HS1 : Hid (w.heap.size + 2 ≤ w1.heap.size) := Nat.le_trans HS0.out f1.1
  clear f1 HB0 HR0 HM HF0 HS0
  have x0 := HB1.out.cell 0
  have x1 := HB1.out.cell 1
  have x2 := HB1.out.cell 2
  have x3 := HB1.out.cell 3
  have r0 := HR1.out.cell 0
  have r1 := HR1.out.cell 1
  have r2 := HR1.out.cell 2
  have r3 := HR1.out.cell 3
  have q0 := HR1.out.frozen 0
  have q1 := HR1.out.frozen 1
  have q2 := HR1.out.frozen 2
  have q3 := HR1.out.frozen 3
  have hrs := HRS.out
  unfold A.lst at hrs
  by_cases hv : A.valid m = 0
  · rw [if_pos hv] at hrs
    obtain ⟨e2, rfl⟩ : m2 = A.leastM m ∧ c = 0 := ⟨(congrArg Prod.fst hrs).symm, (congrArg Prod.snd hrs).symm⟩
    obtain ⟨hfit, hl3, hn⟩ := A.valid_fits hv
    have HFI := Lib.hid hfit
    have HLN : Hid (m.next.length ≤ 4000 ∧ m.letters ≤ 300) := ⟨hn, hl3⟩
    have HV := Lib.hid hv
    have HE2 := Lib.hid e2
    clear e2
    rw [hv]
    clear hrs hfit hl3 hn hv HRS
    go_wp2_with fail
    refine (shrunk_any HM1.out HFI.out HLN.out.1 HLN.out.2).mono ?_
    rintro _ w2 ⟨r, o, rfl, m2', hsh, f2⟩
    have ho : m2 = o := HE2.out.trans (A.Shr.is HV.out hsh).symm
    subst ho
    clear hsh
    obtain ⟨B1, d1, B2, d2, rfl⟩ := m2'.form
    have HM2 := Lib.hid (m2'.mono (Q := fun b => w1.heap.size ≤ b) fun b hb => hb.1)
    have HR2 := Lib.hid (f2.blk HR1.out id)
    have HF2 := Lib.hid (HF1.out.trans f2)
    have HS2 : Hid (w.heap.size + 2 ≤ w2.heap.size) := Nat.le_trans HS1.out f2.1
    clear f2 m2' x0 x1 x2 x3 r0 r1 r2 r3 q0 q1 q2 q3
    have r0 := HR2.out.cell 0
    have r1 := HR2.out.cell 1
    have r2 := HR2.out.cell 2
    have r3 := HR2.out.cell 3
    have q0 := HR2.out.frozen 0
    have q1 := HR2.out.frozen 1
    have q2 := HR2.out.frozen 2
    have q3 := HR2.out.frozen 3
    go_wp2_with fail
    have h4 := put4_blk (l := .int .i64 m2.letters) (s := .int .i64 m2.start) (n := .slice B1 m2.next.length d1) (e := .slice B2 m2.fin.length d2) HR2.out
    have h5 := put4_frm1 (w := w2) (b := w.heap.size + 1) (l := .int .i64 m2.letters) (s := .int .i64 m2.start) (n := .slice B1 m2.next.length d1) (e := .slice B2 m2.fin.length d2)
    refine bodyPost_ret (w := put4 w2 (w.heap.size + 1) (.int .i64 m2.letters) (.int .i64 m2.start) (.slice B1 m2.next.length d1) (.slice B2 m2.fin.length d2)) (v := .tuple #[.agg #[.int .i64 m2.letters, .int .i64 m2.start, .slice B1 m2.next.length d1, .slice B2 m2.fin.length d2], .int .i64 0]) ?_ rfl ⟨_, rfl, ?_, put4_frm HF2.out (by omega)⟩
    · generalize put4 w2 (w.heap.size + 1) (.int .i64 m2.letters) (.int .i64 m2.start) (.slice B1 m2.next.length d1) (.slice B2 m2.fin.length d2) = w4 at *
      have y0 := h4.cell 0
      have y1 := h4.cell 1
      have y2 := h4.cell 2
      have y3 := h4.cell 3
      simp [results, Try.results7, go_sem, y0, y1, y2, y3]
    · have := HS1.out
      exact (HM2.out.keep h5 fun b hb e => by omega).mono fun b hb => by omega
  · rw [if_neg hv] at hrs
    obtain ⟨rfl, rfl⟩ : m2 = ⟨0, 0, [], []⟩ ∧ c = 1 := ⟨(congrArg Prod.fst hrs).symm, (congrArg Prod.snd hrs).symm⟩
    have hv' : (A.valid m != 0) = true := by rw [bne_iff_ne]; exact hv
    clear hv hrs HRS x0 x1 x2 x3
    go_wp2_with fail
    refine bodyPost_ret (w := put4 w1 (w.heap.size + 1) (.int .i64 0) (.int .i64 0) (.slice none 0 0) (.slice none 0 0)) (v := .tuple #[.agg #[.int .i64 0, .int .i64 0, .slice none 0 0, .slice none 0 0], .int .i64 1]) ?_ rfl ⟨_, rfl, ⟨_, _, rfl, ⟨none, 0, rfl, fun k hk => absurd hk (Nat.not_lt_zero _)⟩, ⟨none, 0, rfl, fun k hk => absurd hk (Nat.not_lt_zero _)⟩⟩, put4_frm HF1.out (by omega)⟩
    have h4 := put4_blk (l := .int .i64 0) (s := .int .i64 0) (n := .slice none 0 0) (e := .slice none 0 0) HR1.out
    generalize put4 w1 (w.heap.size + 1) (.int .i64 0) (.int .i64 0) (.slice none 0 0) (.slice none 0 0) = w4 at *
    have y0 := h4.cell 0
    have y1 := h4.cell 1
    have y2 := h4.cell 2
    have y3 := h4.cell 3
    simp [results, Try.results7, go_sem, y0, y1, y2, y3]
end Go.Proofs.Ytmoniecknimmdaa
end
section
namespace Go.Proofs.Ytmoniecknimmdaa
open Go.RowKit
namespace A
def small (m : Mac) : Bool := decide (m.next.length ≤ 30) && decide (m.fin.length ≤ 40) && decide (m.letters ≤ 8)
end A
set_option maxRecDepth 100000 in
set_option maxHeartbeats 4000000 in
theorem small_any {w : World} {P : Nat → Prop} {v : Value} {m : A.Mac} (h : MachAt w P v m) (hs : Sized m) : Calls Try.prog 5 #[v] w fun e w' => e = .returned (.bool (A.small m)) ∧ Frm (fun _ => False) w w' := by
  obtain ⟨A1, c1, A2, c2, rfl⟩ := h.form
  obtain ⟨s1, s2, _⟩ := hs
  obtain ⟨lt, st, nx, fn⟩ := m
  simp only at *
  unfold maxLen at s1 s2
  have bx := Blk.new w 25 #[.int .i64 lt, .int .i64 st, .slice A1 nx.length c1, .slice A2 fn.length c2]
  have x0 := bx.cell 0
  have x1 := bx.cell 1
  have x2 := bx.cell 2
  have x3 := bx.cell 3
  have F0 : Hid (Frm (fun _ => False) w (w.alloc (.cells #[.int .i64 lt, .int .i64 st, .slice A1 nx.length c1, .slice A2 fn.length c2] 25))) := (Frm.refl _ w).alloc _
  clear bx h
  have HX : Hid (A.small ⟨lt, st, nx, fn⟩ = (decide (nx.length ≤ 30) && decide (fn.length ≤ 40) && decide (lt ≤ 8))) := rfl
  by_cases a1 : nx.length ≤ 30
  · by_cases a2 : fn.length ≤ 40
    · by_cases a3 : lt ≤ 8
      · go_enter Try.func5, Try.ntmps5
        go_wp2_with fail
        go_ret
        exact ⟨ret_bool (by rw [HX.out]; simp [a1, a2, a3]), F0.out⟩
      · go_enter Try.func5, Try.ntmps5
        go_wp2_with fail
        go_ret
        exact ⟨ret_bool (by rw [HX.out]; simp [a1, a2, a3]), F0.out⟩
    · go_enter Try.func5, Try.ntmps5
      go_wp2_with fail
      go_ret
      exact ⟨ret_bool (by rw [HX.out]; simp [a1, a2]), F0.out⟩
  · go_enter Try.func5, Try.ntmps5
    go_wp2_with fail
    go_ret
    exact ⟨ret_bool (by rw [HX.out]; simp [a1]), F0.out⟩
end Go.Proofs.Ytmoniecknimmdaa
end
section
namespace Go.Proofs.Ytmoniecknimmdaa
open Go.RowKit
theorem fits_sized {o : A.Mac} (hf : A.Fits o) (hn : o.next.length ≤ 100000) (hl : o.letters ≤ 300) : Sized o := by
  have h1 := hf.fin
  have h2 := hf.letters
  refine ⟨by unfold maxLen; omega, by unfold maxLen; omega, fun row hr => ?_⟩
  have := (hf.rows row hr).1
  unfold maxLen
  omega
theorem A.LeastOf.sized {m o : A.Mac} (hv : A.valid m = 0) (h : A.LeastOf m o) : Sized o := by
  obtain ⟨hf, hl, hn⟩ := A.valid_fits hv
  have := h.le
  exact fits_sized h.mn.fits (by omega) (by rw [h.ll]; exact hl)
theorem lst_sized (m : A.Mac) : Sized (A.lst m).1 := by
  unfold A.lst
  by_cases hv : A.valid m = 0
  · rw [if_pos hv]
    exact (A.leastM_is hv).2.sized hv
  · rw [if_neg hv]
    exact ⟨Nat.zero_le _, Nat.zero_le _, fun row hr => by cases hr⟩
theorem mach_zero (w : World) (P : Nat → Prop) : MachAt w P (.agg #[.int .i64 0, .int .i64 0, .slice none 0 0, .slice none 0 0]) ⟨0, 0, [], []⟩ :=
  ⟨_, _, rfl, ⟨none, 0, rfl, fun _ hk => absurd hk (Nat.not_lt_zero _)⟩, ⟨none, 0, rfl, fun _ hk => absurd hk (Nat.not_lt_zero _)⟩⟩
set_option maxRecDepth 100000 in
set_option maxHeartbeats 16000000 in
theorem least_law {w : World} {P : Nat → Prop} {va : Value} {m : A.Mac} (ha : MachAt w P va m) (sm : Sized m) (sf : m.fin.length ≤ 140737488355328) (sr : ∀ row ∈ m.next, row.length * 8 ≤ 140737488355328) :
    Calls Try.prog 3 #[va] w fun e w' => e = .returned (.bool true) ∧ Frm (fun _ => False) w w' := by
  obtain ⟨A1, c1, A2, c2, rfl⟩ := ha.form
  have F0 : Frm (fun _ => False) w (w.alloc (.cells (macC m A1 c1 A2 c2) 25)) := (Frm.refl _ w).alloc _
  have bx := Blk.new w 25 (macC m A1 c1 A2 c2)
  have HB0 := Lib.hid bx
  have HF0 := Lib.hid F0
  have HM := Lib.hid ha
  have HS := Lib.hid sm
  have HSF := Lib.hid sf
  have HSR := Lib.hid sr
  clear ha sm sf sr F0
  have e0 := bx.cell 0
  have e1 := bx.cell 1
  have e2 := bx.cell 2
  have e3 := bx.cell 3
  simp only [macC] at e0 e1 e2 e3
  clear bx
  go_enter Try.func3, Try.ntmps3
  go_wp2_with fail
  clear e0 e1 e2 e3
  refine (small_any (HM.out.keep0 HF0.out) HS.out).mono ?_
  rintro _ w1 ⟨rfl, f1⟩
  have HF1 := Lib.hid (HF0.out.trans f1)
  have HB1 := Lib.hid (f1.blk HB0.out id)
  clear f1 HF0 HB0
  cases hsm : A.small m with
  | false =>
    clear hsm
    go_wp2_with fail
    refine (awake_any _).mono ?_
    rintro _ w2 ⟨rfl, f2⟩
    have HF2 := Lib.hid (HF1.out.trans f2)
    clear f2 HF1
    go_wp2_with fail
    go_ret
    exact ⟨rfl, HF2.out⟩
  | true =>
    have hlen : m.next.length ≤ 8000 := by
      unfold A.small at hsm
      simp at hsm
      omega
    have HLEN := Lib.hid hlen
    clear hsm hlen
    have e0 := HB1.out.cell 0
    have e1 := HB1.out.cell 1
    have e2 := HB1.out.cell 2
    have e3 := HB1.out.cell 3
    simp only [macC] at e0 e1 e2 e3
    obtain ⟨o, c, hoc⟩ : ∃ o c, A.lst m = (o, c) := ⟨_, _, rfl⟩
    have HSO : Hid (Sized o) := show Sized o by have := lst_sized m; rw [hoc] at this; exact this
    have HC0 : Hid (c ≠ 0 → o = ⟨0, 0, [], []⟩) := fun hc => by
      unfold A.lst at hoc
      by_cases hv : A.valid m = 0
      · rw [if_pos hv] at hoc
        injection hoc with _ h2
        exact absurd h2.symm hc
      · rw [if_neg hv] at hoc
        injection hoc with h1 _
        exact h1.symm
    have HOC := Lib.hid hoc
    clear hoc
    go_wp2_with fail
    clear e0 e1 e2 e3
    refine (rleast_any (HM.out.keep0 HF1.out) HS.out HOC.out).mono ?_
    rintro _ w2 ⟨r2, rfl, m2, f2⟩
    obtain ⟨B1, d1, B2, d2, rfl⟩ := m2.form
    obtain ⟨W3, hW3⟩ : ∃ W3, W3 = w2.alloc (.cells #[.int .i64 o.letters, .int .i64 o.start, .slice B1 o.next.length d1, .slice B2 o.fin.length d2] 25) := ⟨_, rfl⟩
    have FA : Frm (fun _ => False) w2 W3 := by rw [hW3]; exact (Frm.refl _ _).alloc _
    have HO3 : Hid (Blk W3 w2.heap.size 25 #[.int .i64 o.letters, .int .i64 o.start, .slice B1 o.next.length d1, .slice B2 o.fin.length d2]) := by rw [hW3]; exact Blk.new w2 _ _
    have HM3 := Lib.hid (m2.keep0 FA)
    have HF3 := Lib.hid ((HF1.out.trans f2).trans FA)
    have HB3 := Lib.hid (FA.blk (f2.blk HB1.out id) id)
    have HL3 : Hid (w.heap.size < w2.heap.size) := (f2.blk HB1.out id).lt
    clear f2 HF1 HB1 m2 FA
    have e0 := HB3.out.cell 0
    have e1 := HB3.out.cell 1
    have e2 := HB3.out.cell 2
    have e3 := HB3.out.cell 3
    simp only [macC] at e0 e1 e2 e3
    rw [hW3] at e0 e1 e2 e3
    go_wp2_with fail
    rw [← hW3]
    clear e0 e1 e2 e3 hW3
    refine (copy_any (HM.out.keep0 HF3.out) HLEN.out HSF.out HSR.out).mono ?_
    rintro _ w4 ⟨r4, rfl, m4, f4⟩
    have HM4 := Lib.hid m4
    have HO4 := Lib.hid (f4.blk HO3.out id)
    have HF4 := Lib.hid (HF3.out.trans f4)
    have HW4 := Lib.hid (HM3.out.keep0 f4)
    clear f4 m4 HO3 HM3 HF3 HB3
    go_wp2_with fail
    have hla := least_all HM4.out HS.out
    rw [HOC.out] at hla
    refine hla.mono ?_
    clear hla
    rintro _ w5 ⟨r5, rfl, m5, f5⟩
    obtain ⟨C1, h1, C2, h2, rfl⟩ := MachAt.form m5
    obtain ⟨W6, hW6⟩ : ∃ W6, W6 = w5.alloc (.cells #[.int .i64 o.letters, .int .i64 o.start, .slice C1 o.next.length h1, .slice C2 o.fin.length h2] 25) := ⟨_, rfl⟩
    have FA : Frm (fun _ => False) w5 W6 := by rw [hW6]; exact (Frm.refl _ _).alloc _
    have HP6 : Hid (Blk W6 w5.heap.size 25 #[.int .i64 o.letters, .int .i64 o.start, .slice C1 o.next.length h1, .slice C2 o.fin.length h2]) := by rw [hW6]; exact Blk.new w5 _ _
    have HO6 := Lib.hid (FA.blk (f5.blk HO4.out id) id)
    have HF6 := Lib.hid ((HF4.out.trans f5).trans FA)
    have HW6 := Lib.hid ((HW4.out.keep0 f5).keep0 FA)
    have HM6 := Lib.hid (m5.keep0 FA)
    clear f5 m5 HO4 HF4 HW4 HM4 FA
    have x0 := HO6.out.cell 0
    have x1 := HO6.out.cell 1
    have x2 := HO6.out.cell 2
    have x3 := HO6.out.cell 3
    have y0 := HP6.out.cell 0
    have y1 := HP6.out.cell 1
    have y2 := HP6.out.cell 2
    have y3 := HP6.out.cell 3
    rw [hW6] at x0 x1 x2 x3 y0 y1 y2 y3
    have hcc : (c == c) = true := by simp
    by_cases hc : c = 0
    · subst hc
      go_wp2_with fail
      rw [← hW6]
      clear x0 x1 x2 x3 y0 y1 y2 y3 hW6
      refine (rsame_any HM6.out HW6.out HSO.out).mono ?_
      rintro _ w7 ⟨rfl, f7⟩
      have HF7 := Lib.hid (HF6.out.trans f7)
      clear f7 HF6
      go_wp2_with fail
      refine (awake_any _).mono ?_
      rintro _ w8 ⟨rfl, f8⟩
      have HF8 := Lib.hid (HF7.out.trans f8)
      clear f8 HF7
      go_wp2_with fail
      go_ret
      exact ⟨rfl, HF8.out⟩
    · have hc1 : (c == 0) = false := by simp [hc]
      have hc2 : (c != 0) = true := by simp [hc]
      have HO := Lib.hid (HC0.out hc)
      clear hc
      go_wp2_with fail
      rw [← hW6]
      clear x0 x1 x2 x3 y0 y1 y2 y3 hW6
      refine (rsame_any (P := fun b => w4.heap.size ≤ b) (Q := fun _ => True) HM6.out (show MachAt W6 _ _ o by rw [HO.out]; exact mach_zero W6 _) HSO.out).mono ?_
      rintro _ w7 ⟨rfl, f7⟩
      have HF7 := Lib.hid (HF6.out.trans f7)
      clear f7 HF6
      go_wp2_with fail
      refine (awake_any _).mono ?_
      rintro _ w8 ⟨rfl, f8⟩
      have HF8 := Lib.hid (HF7.out.trans f8)
      clear f8 HF7
      go_wp2_with fail
      go_ret
      exact ⟨rfl, HF8.out⟩
end Go.Proofs.Ytmoniecknimmdaa
end
section
namespace Go.Proofs.Ytmoniecknimmdaa
open Go.ChangeShapes Go.WideShapes Go.ChangeAt Go.RowKit Go.Deep Go.Joins
theorem cellsR_ints : Try.prog.cellsOf 35 = 1 := by kernel_rfl
theorem cellsR_int : Try.prog.cellsOf 3 = 1 := by kernel_rfl
theorem cellsR_bool : Try.prog.cellsOf 4 = 1 := by kernel_rfl
theorem cellsR_pair : Try.prog.cellsOf 50 = 2 := by kernel_rfl
theorem cellsR_mach : Try.prog.cellsOf 25 = 4 := by kernel_rfl
theorem addr_any {g o : Nat} (k : Nat) : (⟨g, o, none⟩ : Addr).add k = ⟨g, o + k, none⟩ := by
  unfold Addr.add
  split
  · subst_vars; simp
  · rfl
theorem at_spot {w : World} {a : Addr} {v : Value} (h : w.cell? (a.add 0) = some v) : ∃ g o, a = ⟨g, o, none⟩ := by
  have : (a.add 0) = a := by simp [Addr.add]
  rw [this] at h
  exact ⟨a.block, a.off, by have := World.cell?_spot h; cases a; simp_all⟩
section
variable {H : Type} {enc : TypeId × Value → H} {W : World} {held : Bool} {n : Nat} {v : Value} {y : DataW H × List MemPlace}
theorem ints_of {base : Nat} (h : DataW.trod enc Try.prog W base (fun _ => true) held n 35 [v] = some y) : ∃ l, Ints W (fun _ => True) v l ∧ l.length ≤ maxLen := by
  rcases open_ints Try.underlying35 Try.underlying3 cellsR_int h with ⟨hc, _⟩ | ⟨a, len, cap, zs, hc, _, hl, hm, hz, _, hcell, _⟩
  · injection hc with hc
    subst hc
    exact ⟨[], ⟨none, 0, rfl, fun k hk => absurd hk (by simp)⟩, by simp⟩
  · injection hc with hc
    subst hc
    simp only [if_true] at hz
    have hlen : (zs.take len).length = len := by rw [List.length_take]; omega
    refine ⟨zs.take len, ⟨some a, cap, by rw [hlen], fun k hk => ?_⟩, by omega⟩
    rw [hlen] at hk
    obtain ⟨g, o, rfl⟩ := at_spot (hcell 0 (by omega))
    refine ⟨g, o, rfl, trivial, ?_⟩
    have := hcell k (by omega)
    rw [addr_any] at this
    rw [this]
    simp [show k < zs.length by omega]
theorem bools_of {base : Nat} (h : DataW.trod enc Try.prog W base (fun _ => true) held n 23 [v] = some y) : ∃ l, Bools W (fun _ => True) v l ∧ l.length ≤ maxLen := by
  rcases open_slice1 Try.underlying23 cellsR_bool h with ⟨hc, _⟩ | ⟨a, len, cap, m, q, V, D, Pl, hc, _, hl, hm, hmm, _, hx⟩
  · injection hc with hc
    subst hc
    exact ⟨[], ⟨none, 0, rfl, fun k hk => absurd hk (by simp)⟩, by simp⟩
  · injection hc with hc
    subst hc
    simp only [if_true] at hmm
    have each : ∀ i, ∃ b : Bool, i < m → V i = .bool b := fun i => by
      by_cases hi : i < m
      · obtain ⟨b, hb, _⟩ := DataW.trod_bool Try.underlying4 (hx i hi).2
        exact ⟨b, fun _ => by injection hb⟩
      · exact ⟨false, fun h => absurd h hi⟩
    obtain ⟨B, hB⟩ := Classical.axiomOfChoice each
    refine ⟨(List.range len).map B, ⟨some a, cap, by simp, fun k hk => ?_⟩, by simp; omega⟩
    have hk' : k < len := by simpa using hk
    obtain ⟨g, o, rfl⟩ := at_spot (hx 0 (by omega)).1
    refine ⟨g, o, rfl, trivial, ?_⟩
    have := (hx k (by omega)).1
    rw [addr_any] at this
    rw [this, hB k (by omega)]
    simp
theorem rows_of {base : Nat} (h : DataW.trod enc Try.prog W base (fun _ => true) held n 22 [v] = some y) : ∃ l, Rows2 W (fun _ => True) v l ∧ l.length ≤ maxLen ∧ ∀ r ∈ l, r.length ≤ maxLen := by
  rcases open_int_rows Try.underlying22 Try.underlying35 Try.underlying3 cellsR_ints cellsR_int h with ⟨hc, _⟩ | ⟨a, len, cap, A, L, C, Z, hc, _, hl, hm, _, hx⟩
  · injection hc with hc
    subst hc
    exact ⟨[], ⟨none, 0, rfl, fun k hk => absurd hk (by simp)⟩, by simp, fun _ h => by cases h⟩
  · injection hc with hc
    subst hc
    have hlr : ∀ r, r < cap → ((Z r).take (L r)).length = L r := fun r hr => by
      obtain ⟨_, h1, _, h2, _⟩ := hx r hr
      rw [List.length_take]
      omega
    refine ⟨(List.range len).map fun r => (Z r).take (L r), ⟨some a, cap, by simp, fun k hk => ?_⟩, by simp; omega, fun r hr => ?_⟩
    · have hk' : k < len := by simpa using hk
      obtain ⟨g, o, rfl⟩ := at_spot (hx 0 (by omega)).1
      obtain ⟨h0, h1, h2, h3, _, h5, h6⟩ := hx k (by omega)
      rw [addr_any] at h0
      refine ⟨g, o, _, rfl, trivial, h0, A k, C k, ?_, fun c hc => ?_⟩
      · simp only [List.getElem_map, List.getElem_range]
        rw [hlr k (by omega)]
      · simp only [List.getElem_map, List.getElem_range] at hc
        rw [hlr k (by omega)] at hc
        rcases hA : A k with _ | a'
        · have := h5 hA; omega
        · obtain ⟨_, h7⟩ := h6 a' hA
          obtain ⟨g', o', rfl⟩ := at_spot (h7 0 (by omega))
          have := h7 c (by omega)
          rw [addr_any] at this
          refine ⟨g', o', rfl, trivial, ?_⟩
          rw [this]
          simp [show c < (Z k).length by omega]
    · obtain ⟨i, hi, rfl⟩ := List.mem_map.1 hr
      have hi' := List.mem_range.1 hi
      rw [hlr i (by omega)]
      obtain ⟨_, h1, h2, _⟩ := hx i (by omega)
      omega
theorem pairs_of {base : Nat} (h : DataW.trod enc Try.prog W base (fun _ => true) held n 38 [v] = some y) : ∃ l, Prs2 W (fun _ => True) v l ∧ l.length ≤ maxLen := by
  rcases open_slice_pairs Try.underlying38 Try.underlying50 cellsR_pair rfl rfl cellsR_int cellsR_int h with ⟨hc, _⟩ | ⟨a, len, cap, m, q, V0, V1, D0, D1, P0, P1, hc, _, hl, hm, hmm, _, hx⟩
  · injection hc with hc
    subst hc
    exact ⟨[], ⟨none, 0, rfl, fun k hk => absurd hk (by simp)⟩, by simp⟩
  · injection hc with hc
    subst hc
    simp only [if_true] at hmm
    have each : ∀ i, ∃ p : A.Pr, i < m → V0 i = .int .i64 p.1 ∧ V1 i = .int .i64 p.2 := fun i => by
      by_cases hi : i < m
      · obtain ⟨x, hx0, _⟩ := DataW.trod_int Try.underlying3 (hx i hi).2.2.1
        obtain ⟨x', hx1, _⟩ := DataW.trod_int Try.underlying3 (hx i hi).2.2.2
        exact ⟨(x, x'), fun _ => ⟨by injection hx0, by injection hx1⟩⟩
      · exact ⟨(0, 0), fun h => absurd h hi⟩
    obtain ⟨B, hB⟩ := Classical.axiomOfChoice each
    refine ⟨(List.range len).map B, ⟨some a, cap, by simp, fun k hk => ?_⟩, by simp; omega⟩
    have hk' : k < len := by simpa using hk
    obtain ⟨g, o, rfl⟩ := at_spot (by have := (hx 0 (by omega)).1; rwa [Nat.zero_mul] at this)
    obtain ⟨h0, h1, _⟩ := hx k (by omega)
    rw [addr_any] at h0 h1
    refine ⟨g, o, rfl, trivial, ?_, ?_⟩
    · rw [h0, (hB k (by omega)).1]; simp
    · rw [Nat.add_assoc, h1, (hB k (by omega)).2]; simp
set_option maxRecDepth 100000 in
theorem mach_of {base b0 : Nat} {r : Reach} {d : DataW H} {p : List MemPlace} (hv : Value.okWide Try.prog W r b0 25 v) (h : DataW.Trod enc Try.prog W base (fun _ => true) held 25 v d p) : ∃ m, MachAt W (fun _ => True) v m ∧ Sized m ∧ (Lit.int .i64 m.letters).wf = true ∧ (Lit.int .i64 m.start).wf = true := by
  obtain ⟨v0, v1, v2, v3, y0, y1, y2, y3, q, rfl, _, _, h0, h1, h2, h3⟩ := open_agg4 Try.underlying25 (by kernel_rfl) cellsR_mach hv h
  obtain ⟨x0, e0, _, wx0⟩ := DataW.trod_int Try.underlying3 h0
  obtain ⟨x1, e1, _, wx1⟩ := DataW.trod_int Try.underlying3 h1
  obtain ⟨l2, m2, s2, t2⟩ := rows_of h2
  obtain ⟨l3, m3, s3⟩ := bools_of h3
  injection e0 with e0
  injection e1 with e1
  subst e0 e1
  exact ⟨⟨x0, x1, l2, l3⟩, ⟨v2, v3, rfl, m2, m3⟩, ⟨s2, s3, t2⟩, wx0, wx1⟩
end
end Go.Proofs.Ytmoniecknimmdaa
end
section
namespace Go.Proofs.Ytmoniecknimmdaa
open Go.ChangeShapes Go.WideShapes Go.ChangeAt Go.RowKit Go.Deep Go.Joins
theorem bytes_ints : Try.prog.bytesOf 35 = 24 := by kernel_rfl
theorem bytes_int : Try.prog.bytesOf 3 = 8 := by kernel_rfl
theorem bytes_bool : Try.prog.bytesOf 4 = 1 := by kernel_rfl
theorem weightsAll_mem {H : Type} {P : Program} {e : TypeId} : ∀ {l : List (DataW H)} {d : DataW H} {n : Nat}, d ∈ l → n ∈ d.weights P e → n ∈ DataW.weightsAll P e l
  | [], _, _, h, _ => by cases h
  | a :: l, d, n, h, hn => by
    simp only [DataW.weightsAll, List.mem_append]
    rcases List.mem_cons.1 h with rfl | h
    · exact .inl hn
    · exact .inr (weightsAll_mem h hn)
/-- What a datum weighs is within the reach. -/
def Light {H : Type} (t : TypeId) (d : DataW H) : Prop := ∀ n ∈ d.weights Try.prog t, n ≤ reachBytes
theorem Light.slice {H : Type} {t e : TypeId} {es sp : List (DataW H)} (h : Light t (.slice es sp)) (ht : Try.prog.underlying t = some (.slice e)) : (es.length + sp.length) * Try.prog.bytesOf e ≤ reachBytes ∧ ∀ d ∈ es, Light e d := by
  refine ⟨h _ (by simp [DataW.weights, ht]), fun d hd n hn => h n ?_⟩
  simp only [DataW.weights, ht, List.mem_cons, List.mem_append]
  exact .inr (.inl (weightsAll_mem hd hn))
section
variable {H : Type} {enc : TypeId × Value → H} {W : World} {held : Bool} {n : Nat} {v : Value} {y : DataW H × List MemPlace}
theorem ints_light {base : Nat} (h : DataW.trod enc Try.prog W base (fun _ => true) held n 35 [v] = some y) (hw : Light 35 y.1) : ∃ l, Ints W (fun _ => True) v l ∧ l.length * 8 ≤ reachBytes := by
  rcases open_ints Try.underlying35 Try.underlying3 cellsR_int h with ⟨hc, _⟩ | ⟨a, len, cap, zs, hc, _, hl, hm, hz, hy, hcell, _⟩
  · injection hc with hc
    subst hc
    exact ⟨[], ⟨none, 0, rfl, fun k hk => absurd hk (by simp)⟩, by simp⟩
  · injection hc with hc
    subst hc
    simp only [if_true] at hz
    rw [hy] at hw
    have hwt := (hw.slice Try.underlying35).1
    rw [bytes_int] at hwt
    simp only [lits, List.length_map, List.length_take, List.length_drop] at hwt
    have hlen : (zs.take len).length = len := by rw [List.length_take]; omega
    refine ⟨zs.take len, ⟨some a, cap, by rw [hlen], fun k hk => ?_⟩, by rw [hlen]; omega⟩
    rw [hlen] at hk
    obtain ⟨g, o, rfl⟩ := at_spot (hcell 0 (by omega))
    refine ⟨g, o, rfl, trivial, ?_⟩
    have := hcell k (by omega)
    rw [addr_any] at this
    rw [this]
    simp [show k < zs.length by omega]
theorem bools_light {base : Nat} (h : DataW.trod enc Try.prog W base (fun _ => true) held n 23 [v] = some y) (hw : Light 23 y.1) : ∃ l, Bools W (fun _ => True) v l ∧ l.length ≤ reachBytes := by
  rcases open_slice1 Try.underlying23 cellsR_bool h with ⟨hc, _⟩ | ⟨a, len, cap, m, q, V, D, Pl, hc, _, hl, hm, hmm, hy, hx⟩
  · injection hc with hc
    subst hc
    exact ⟨[], ⟨none, 0, rfl, fun k hk => absurd hk (by simp)⟩, by simp⟩
  · injection hc with hc
    subst hc
    simp only [if_true] at hmm
    rw [hy] at hw
    have hwt := (hw.slice Try.underlying23).1
    rw [bytes_bool] at hwt
    simp only [List.length_map, List.length_range] at hwt
    have each : ∀ i, ∃ b : Bool, i < m → V i = .bool b := fun i => by
      by_cases hi : i < m
      · obtain ⟨b, hb, _⟩ := DataW.trod_bool Try.underlying4 (hx i hi).2
        exact ⟨b, fun _ => by injection hb⟩
      · exact ⟨false, fun h => absurd h hi⟩
    obtain ⟨B, hB⟩ := Classical.axiomOfChoice each
    refine ⟨(List.range len).map B, ⟨some a, cap, by simp, fun k hk => ?_⟩, by simp; omega⟩
    have hk' : k < len := by simpa using hk
    obtain ⟨g, o, rfl⟩ := at_spot (hx 0 (by omega)).1
    refine ⟨g, o, rfl, trivial, ?_⟩
    have := (hx k (by omega)).1
    rw [addr_any] at this
    rw [this, hB k (by omega)]
    simp
theorem rows_light {base : Nat} (h : DataW.trod enc Try.prog W base (fun _ => true) held n 22 [v] = some y) (hw : Light 22 y.1) : ∃ l, Rows2 W (fun _ => True) v l ∧ l.length * 24 ≤ reachBytes ∧ ∀ r ∈ l, r.length * 8 ≤ reachBytes := by
  rcases open_int_rows Try.underlying22 Try.underlying35 Try.underlying3 cellsR_ints cellsR_int h with ⟨hc, _⟩ | ⟨a, len, cap, A, L, C, Z, hc, _, hl, hm, hy, hx⟩
  · injection hc with hc
    subst hc
    exact ⟨[], ⟨none, 0, rfl, fun k hk => absurd hk (by simp)⟩, by simp, fun _ h => by cases h⟩
  · injection hc with hc
    subst hc
    rw [hy] at hw
    obtain ⟨hwt, hwr⟩ := hw.slice Try.underlying22
    rw [bytes_ints] at hwt
    simp only [List.length_map, List.length_range] at hwt
    have hlr : ∀ r, r < cap → ((Z r).take (L r)).length = L r := fun r hr => by
      obtain ⟨_, h1, _, h2, _⟩ := hx r hr
      rw [List.length_take]
      omega
    refine ⟨(List.range len).map fun r => (Z r).take (L r), ⟨some a, cap, by simp, fun k hk => ?_⟩, by simp; omega, fun r hr => ?_⟩
    · have hk' : k < len := by simpa using hk
      obtain ⟨g, o, rfl⟩ := at_spot (hx 0 (by omega)).1
      obtain ⟨h0, h1, h2, h3, _, h5, h6⟩ := hx k (by omega)
      rw [addr_any] at h0
      refine ⟨g, o, _, rfl, trivial, h0, A k, C k, ?_, fun c hc => ?_⟩
      · simp only [List.getElem_map, List.getElem_range]
        rw [hlr k (by omega)]
      · simp only [List.getElem_map, List.getElem_range] at hc
        rw [hlr k (by omega)] at hc
        rcases hA : A k with _ | a'
        · have := h5 hA; omega
        · obtain ⟨_, h7⟩ := h6 a' hA
          obtain ⟨g', o', rfl⟩ := at_spot (h7 0 (by omega))
          have := h7 c (by omega)
          rw [addr_any] at this
          refine ⟨g', o', rfl, trivial, ?_⟩
          rw [this]
          simp [show c < (Z k).length by omega]
    · obtain ⟨i, hi, rfl⟩ := List.mem_map.1 hr
      have hi' := List.mem_range.1 hi
      rw [hlr i (by omega)]
      obtain ⟨_, h1, h2, h3, _, h5, _⟩ := hx i (by omega)
      have hli := hwr _ (List.mem_map.2 ⟨i, List.mem_range.2 hi', rfl⟩)
      rcases hA : A i with _ | a'
      · have := h5 hA
        have e0 : L i = 0 := by omega
        rw [e0]
        exact Nat.zero_le _
      · rw [hA] at hli
        have := (Light.slice hli Try.underlying35).1
        rw [bytes_int] at this
        simp only [lits, List.length_map, List.length_take, List.length_drop] at this
        omega
set_option maxRecDepth 100000 in
theorem mach_light {base b0 : Nat} {r : Reach} {d : DataW H} {p : List MemPlace} (hv : Value.okWide Try.prog W r b0 25 v) (h : DataW.Trod enc Try.prog W base (fun _ => true) held 25 v d p) (hw : Light 25 d) : ∃ m, MachAt W (fun _ => True) v m ∧ Sized m ∧ m.fin.length ≤ 140737488355328 ∧ ∀ row ∈ m.next, row.length * 8 ≤ 140737488355328 := by
  obtain ⟨v0, v1, v2, v3, y0, y1, y2, y3, q, rfl, rfl, _, h0, h1, h2, h3⟩ := open_agg4 Try.underlying25 (by kernel_rfl) cellsR_mach hv h
  have hf : ∀ (j : Nat) (t : TypeId) (d : DataW H), [3, 3, 22, 23][j]? = some t → [y0.1, y1.1, y2.1, y3.1][j]? = some d → Light t d := fun j t d ht hd n hn => hw n (by
    simp only [DataW.weights, Try.underlying25]
    exact DataW.weights_mem_each (j := j) ht hd n hn)
  obtain ⟨x0, e0, _, wx0⟩ := DataW.trod_int Try.underlying3 h0
  obtain ⟨x1, e1, _, wx1⟩ := DataW.trod_int Try.underlying3 h1
  obtain ⟨l2, m2, s2, t2⟩ := rows_light h2 (hf 2 _ _ rfl rfl)
  obtain ⟨l3, m3, s3⟩ := bools_light h3 (hf 3 _ _ rfl rfl)
  injection e0 with e0
  injection e1 with e1
  subst e0 e1
  unfold reachBytes at s2 s3 t2
  exact ⟨⟨x0, x1, l2, l3⟩, ⟨v2, v3, rfl, m2, m3⟩, ⟨show l2.length ≤ maxLen by unfold maxLen; omega, show l3.length ≤ maxLen by unfold maxLen; omega, fun row hr => by have := t2 row hr; unfold maxLen; omega⟩, show l3.length ≤ 140737488355328 by omega, fun row hr => by have := t2 row hr; omega⟩
end
end Go.Proofs.Ytmoniecknimmdaa
end
