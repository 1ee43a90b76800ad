/- The partition: words; one, mark. The partition: add. The partition: split. The partition: divide. What is found and numbered: words; numberOf at ints. Search at ints. What a search finds, in which order, and its rows; plain. The machine that a search comes to; plain. Contracts of the program's functions, with no condition beyond what each theorem states. -/
import Derived.Test.YtldmjpnldgekaaaC03
import Derived.RegionTactic
import Derived.BigRegion
import Derived.Maps.OwnSet
import Derived.Maps.Views
import Derived.Test.YtldmjpnldgekaaaC01
section
namespace Go.Proofs.Ytldmjpnldgekaaa
open Go.RowKit
namespace A
structure Pd where
  row : List Int
  place : List Int
  cls : List Int
  beg : List Int
  fin : List Int
  mkd : List Int
def Pd.f (d : Pd) : Nat → List Int
  | 0 => d.row
  | 1 => d.place
  | 2 => d.cls
  | 3 => d.beg
  | 4 => d.fin
  | 5 => d.mkd
  | _ => []
def Pd.upd (d : Pd) (i : Nat) (l : List Int) : Pd := match i with
  | 0 => { d with row := l }
  | 1 => { d with place := l }
  | 2 => { d with cls := l }
  | 3 => { d with beg := l }
  | 4 => { d with fin := l }
  | 5 => { d with mkd := l }
  | _ => d
theorem Pd.f_upd (d : Pd) {i : Nat} (hi : i < 6) (l : List Int) : (d.upd i l).f = updF d.f i l := by
  funext k
  match i, hi with
  | 0, _ => match k with | 0 | 1 | 2 | 3 | 4 | 5 | _ + 6 => rfl
  | 1, _ => match k with | 0 | 1 | 2 | 3 | 4 | 5 | _ + 6 => rfl
  | 2, _ => match k with | 0 | 1 | 2 | 3 | 4 | 5 | _ + 6 => rfl
  | 3, _ => match k with | 0 | 1 | 2 | 3 | 4 | 5 | _ + 6 => rfl
  | 4, _ => match k with | 0 | 1 | 2 | 3 | 4 | 5 | _ + 6 => rfl
  | 5, _ => match k with | 0 | 1 | 2 | 3 | 4 | 5 | _ + 6 => rfl
end A
def ptT : GT := ⟨82, 3, 1⟩
/-- The partition d in the block pb, its slices vf; all lie in S. -/
def PtV (w : World) (S : Nat → Prop) (pb : Nat) (vf : Nat → Value) (d : A.Pd) : Prop := Grp ptT w S pb 6 vf (fun i => (d.f i).length) (fun i => (d.f i).map (Value.int .i64))
def Pt (w : World) (S : Nat → Prop) (pb : Nat) (d : A.Pd) : Prop := ∃ vf, PtV w S pb vf d
section
variable {w w' : World} {S S' E : Nat → Prop} {pb : Nat} {vf : Nat → Value} {d : A.Pd}
theorem PtV.slot (h : PtV w S pb vf d) {i : Nat} (hi : i < 6) : ∃ A0 c, vf i = .slice A0 (d.f i).length c ∧ w.cell? ⟨pb, i, none⟩ = some (.slice A0 (d.f i).length c) ∧ w.frozen? ⟨pb, i, none⟩ = false ∧ (d.f i).length ≤ c := by
  obtain ⟨A0, c, e, h1, h2, _, h4⟩ := Grp.slot h hi
  exact ⟨A0, c, e, h1, h2, h4⟩
theorem PtV.at_ (h : PtV w S pb vf d) {i j : Nat} (hi : i < 6) (hj : j < (d.f i).length) : ∃ g c, vf i = .slice (some ⟨g, 0, none⟩) (d.f i).length c ∧ w.cell? ⟨pb, i, none⟩ = some (.slice (some ⟨g, 0, none⟩) (d.f i).length c) ∧ w.frozen? ⟨pb, i, none⟩ = false ∧ w.cell? ⟨g, j, none⟩ = some (.int .i64 ((d.f i).getD j 0)) ∧ w.frozen? ⟨g, j, none⟩ = false ∧ S g ∧ g ≠ pb ∧ g < w.heap.size := by
  obtain ⟨A0, c, e, h1, h2, h3, _⟩ := Grp.slot h hi
  obtain ⟨g, rfl⟩ := h3 (Nat.lt_of_le_of_lt (Nat.zero_le _) hj)
  obtain ⟨k1, k2, k3, k4, k5⟩ := Grp.cell h hi e (j := j) (u := .int .i64 ((d.f i).getD j 0)) (by simp [hj])
  exact ⟨g, c, e, h1, h2, k1, k2, k3, k4, k5⟩
/-- A cell of a row whose slice is known. -/
theorem PtV.get (h : PtV w S pb vf d) {i j g c n : Nat} (hi : i < 6) (e : vf i = .slice (some ⟨g, 0, none⟩) n c) (hj : j < (d.f i).length) : w.cell? ⟨g, j, none⟩ = some (.int .i64 ((d.f i).getD j 0)) ∧ w.frozen? ⟨g, j, none⟩ = false := by
  obtain ⟨A0, c', e', _⟩ := h.slot hi
  have hn : n = (d.f i).length := by rw [e'] at e; injection e with _ e2 _; exact e2.symm
  subst hn
  obtain ⟨k1, k2, _⟩ := Grp.cell h hi e (j := j) (u := .int .i64 ((d.f i).getD j 0)) (by simp [hj])
  exact ⟨k1, k2⟩
theorem PtV.slot_at (h : PtV w S pb vf d) {i g c n : Nat} (hi : i < 6) (e : vf i = .slice (some ⟨g, 0, none⟩) n c) : w.cell? ⟨pb, i, none⟩ = some (.slice (some ⟨g, 0, none⟩) n c) ∧ w.frozen? ⟨pb, i, none⟩ = false := by
  obtain ⟨A0, c', e', h1, h2, _⟩ := h.slot hi
  rw [← e', e] at h1
  exact ⟨h1, h2⟩
theorem PtV.set_ (h : PtV w S pb vf d) {i j g c n : Nat} (hi : i < 6) (e : vf i = .slice (some ⟨g, 0, none⟩) n c) (hj : j < (d.f i).length) (u : Int) : PtV (w.setCell ⟨g, j, none⟩ (.int .i64 u)) S pb vf (d.upd i ((d.f i).set j u)) := by
  obtain ⟨A0, c', e', _⟩ := h.slot hi
  have hn : n = (d.f i).length := by rw [e'] at e; injection e with _ e2 _; exact e2.symm
  subst hn
  have := Grp.store h hi e (j := j) (by rw [List.length_map]; exact hj) (.int .i64 u)
  unfold PtV
  rw [A.Pd.f_upd d hi]
  refine this.congr (fun k _ => ?_) (fun k _ => ?_)
  · unfold updF; split
    · rename_i e; subst e; rw [List.length_set]
    · rfl
  · unfold updF; split
    · rename_i e; subst e; rw [List.map_set]
    · rfl
theorem PtV.set_frm (h : PtV w S pb vf d) {i g c n : Nat} (hi : i < 6) (e : vf i = .slice (some ⟨g, 0, none⟩) n c) (j : Nat) (u : Int) : Frm S w (w.setCell ⟨g, j, none⟩ (.int .i64 u)) :=
  (Frm.refl S w).set_ (fun _ => (Grp.lie h i hi g (by rw [e]; rfl)).1) _
theorem PtV.ne (h : PtV w S pb vf d) {i j g g' c c' n n' : Nat} (hi : i < 6) (hj : j < 6) (hne : i ≠ j) (e : vf i = .slice (some ⟨g, 0, none⟩) n c) (e' : vf j = .slice (some ⟨g', 0, none⟩) n' c') : g ≠ g' := fun h2 => Grp.dis h i j hi hj hne g (by rw [e]; rfl) (by rw [e', h2]; rfl)
theorem PtV.drew (h : PtV w S pb vf d) : PtV w.drew S pb vf d := Grp.drew h
theorem PtV.drewN (h : PtV w S pb vf d) (n : Nat) : PtV (w.drewN n) S pb vf d := ⟨(Grp.out h).drewN n, Grp.so h, Grp.own (w := w) h, Grp.lie h, Grp.dis h⟩
theorem Pt.frm (h : Pt w S pb d) (F : Frm E w w') (hE : ∀ b, b < w.heap.size → S b → ¬ E b) : Pt w' S pb d := by
  obtain ⟨vf, h⟩ := h
  exact ⟨vf, Grp.frm h F hE⟩
theorem PtV.frm (h : PtV w S pb vf d) (F : Frm E w w') (hE : ∀ b, b < w.heap.size → S b → ¬ E b) : PtV w' S pb vf d := Grp.frm h F hE
theorem Pt.mono (h : Pt w S pb d) (hS : ∀ b, b < w.heap.size → S b → S' b) : Pt w S' pb d := by
  obtain ⟨vf, h⟩ := h
  exact ⟨vf, Grp.mono h hS⟩
theorem PtV.lt (h : PtV w S pb vf d) : pb < w.heap.size := Grp.out h |>.lt
end
set_option maxRecDepth 100000 in
set_option maxHeartbeats 4000000 in
theorem one_any {w : World} {S : Nat → Prop} {pb : Nat} {d : A.Pd} {k b : Nat} (h : Pt w S pb d) (h1 : k < d.beg.length) (h2 : d.beg.getD k 0 = (b : Int)) (h3 : b < d.row.length) :
    Calls Try.prog 56 #[.pointer (some ⟨pb, 0, none⟩), .int .i64 k] w fun e w' => e = .returned (.int .i64 (d.row.getD b 0)) ∧ Frm (fun _ => False) w w' := by
  obtain ⟨vf, h⟩ := h
  obtain ⟨g3, c3, e3, o3, f3, k3, l3, _⟩ := h.at_ (i := 3) (j := k) (by decide) h1
  obtain ⟨g0, c0, e0, o0, f0, k0, l0, _⟩ := h.at_ (i := 0) (j := b) (by decide) h3
  have hk' : (k : Int) < ((d.f 3).length : Int) := by have : k < (d.f 3).length := h1; omega
  have hb' : (b : Int) < ((d.f 0).length : Int) := by have : b < (d.f 0).length := h3; omega
  rw [show (d.f 3).getD k 0 = (b : Int) from h2] at k3
  have HX : Hid ((d.f 0).getD b 0 = d.row.getD b 0) := rfl
  generalize (d.f 0).getD b 0 = x at *
  generalize (d.f 0).length = n0 at *
  generalize (d.f 3).length = n3 at *
  rw [← HX.out]
  clear h1 h2 h3 h e0 e3
  go_enter Try.func56, Try.ntmps56
  go_wp2_with fail
  go_quiet (fail)
  go_wp2_with fail
  go_ret
  exact ⟨rfl, (Frm.refl _ w).drewN nq⟩
namespace A
/-- What marking the state st does: its class c, its place fr, the class's begin b, its m marked ones, the state ot at the place b + m. -/
def Pd.marked (d : Pd) (st c fr b m ot : Nat) : Pd :=
  let d1 : Pd := { d with row := d.row.set fr (ot : Int), place := d.place.set ot (fr : Int) }
  let d2 : Pd := { d1 with row := d1.row.set (b + m) (st : Int), place := d1.place.set st ((b : Int) + (m : Int)) }
  { d2 with mkd := d2.mkd.set c ((m : Int) + 1) }
/-- The numbers that marking meets. -/
structure Mk (d : Pd) (st c fr b m ot : Nat) : Prop where
  h1 : st < d.cls.length
  h2 : d.cls.getD st 0 = (c : Int)
  h3 : st < d.place.length
  h4 : d.place.getD st 0 = (fr : Int)
  h5 : c < d.beg.length
  h6 : d.beg.getD c 0 = (b : Int)
  h7 : c < d.mkd.length
  h8 : d.mkd.getD c 0 = (m : Int)
  h9 : b + m < d.row.length
  h10 : d.row.getD (b + m) 0 = (ot : Int)
  h11 : fr < d.row.length
  h12 : ot < d.place.length
  h13 : d.row.length ≤ 1000000000
end A
set_option maxRecDepth 100000 in
set_option maxHeartbeats 4000000 in
theorem mark_any {w : World} {S : Nat → Prop} {pb : Nat} {d : A.Pd} {st c fr b m ot : Nat} (h : Pt w S pb d) (hm : A.Mk d st c fr b m ot) :
    Calls Try.prog 91 #[.pointer (some ⟨pb, 0, none⟩), .int .i64 st] w fun e w' => e = .returned (.bool (decide (m = 0))) ∧ Pt w' S pb (d.marked st c fr b m ot) ∧ Frm S w w' := by
  obtain ⟨vf, h⟩ := h
  obtain ⟨h1, h2, h3, h4, h5, h6, h7, h8, h9, h10, h11, h12, h13⟩ := hm
  obtain ⟨g2, c2, e2, o2, f2, k2, l2, _⟩ := h.at_ (i := 2) (j := st) (by decide) h1
  obtain ⟨g1, c1, e1, o1, f1, k1, l1, _⟩ := h.at_ (i := 1) (j := st) (by decide) h3
  obtain ⟨g3, c3, e3, o3, f3, k3, l3, _⟩ := h.at_ (i := 3) (j := c) (by decide) h5
  obtain ⟨g5, c5, e5, o5, f5, k5, l5, _⟩ := h.at_ (i := 5) (j := c) (by decide) h7
  obtain ⟨g0, c0, e0, o0, f0, k0, l0, _⟩ := h.at_ (i := 0) (j := b + m) (by decide) h9
  obtain ⟨_, y0⟩ := h.get (i := 0) (j := fr) (by decide) e0 h11
  obtain ⟨_, y1⟩ := h.get (i := 1) (j := ot) (by decide) e1 h12
  rw [show (d.f 2).getD st 0 = (c : Int) from h2] at k2
  rw [show (d.f 1).getD st 0 = (fr : Int) from h4] at k1
  rw [show (d.f 3).getD c 0 = (b : Int) from h6] at k3
  rw [show (d.f 5).getD c 0 = (m : Int) from h8] at k5
  rw [show (d.f 0).getD (b + m) 0 = (ot : Int) from h10] at k0
  have n01 := h.ne (i := 0) (j := 1) (by decide) (by decide) (by decide) e0 e1
  have n05 := h.ne (i := 0) (j := 5) (by decide) (by decide) (by decide) e0 e5
  have n15 := h.ne (i := 1) (j := 5) (by decide) (by decide) (by decide) e1 e5
  have np0 : pb ≠ g0 := fun e => (Grp.lie h 0 (by decide) g0 (by rw [e0]; rfl)).2 e.symm
  have np1 : pb ≠ g1 := fun e => (Grp.lie h 1 (by decide) g1 (by rw [e1]; rfl)).2 e.symm
  have np5 : pb ≠ g5 := fun e => (Grp.lie h 5 (by decide) g5 (by rw [e5]; rfl)).2 e.symm
  obtain ⟨N0, hN0⟩ : ∃ N0, N0 = (d.f 0).length := ⟨_, rfl⟩
  obtain ⟨N1, hN1⟩ : ∃ N1, N1 = (d.f 1).length := ⟨_, rfl⟩
  obtain ⟨N2, hN2⟩ : ∃ N2, N2 = (d.f 2).length := ⟨_, rfl⟩
  obtain ⟨N3, hN3⟩ : ∃ N3, N3 = (d.f 3).length := ⟨_, rfl⟩
  obtain ⟨N5, hN5⟩ : ∃ N5, N5 = (d.f 5).length := ⟨_, rfl⟩
  have b1 : (st : Int) < (N2 : Int) := by rw [hN2]; have : st < (d.f 2).length := h1; omega
  have b2 : (st : Int) < (N1 : Int) := by rw [hN1]; have : st < (d.f 1).length := h3; omega
  have b3 : (c : Int) < (N3 : Int) := by rw [hN3]; have : c < (d.f 3).length := h5; omega
  have b4 : (c : Int) < (N5 : Int) := by rw [hN5]; have : c < (d.f 5).length := h7; omega
  have b5 : (b : Int) + (m : Int) < (N0 : Int) := by rw [hN0]; have : b + m < (d.f 0).length := h9; omega
  have b6 : (fr : Int) < (N0 : Int) := by rw [hN0]; have : fr < (d.f 0).length := h11; omega
  have b7 : (ot : Int) < (N1 : Int) := by rw [hN1]; have : ot < (d.f 1).length := h12; omega
  have b8 : (N0 : Int) ≤ 1000000000 := by rw [hN0]; have : (d.f 0).length ≤ 1000000000 := h13; omega
  rw [← hN0] at o0 e0
  rw [← hN1] at o1 e1
  rw [← hN2] at o2 e2
  rw [← hN3] at o3 e3
  rw [← hN5] at o5 e5
  have HP := Lib.hid h
  have HE0 := Lib.hid e0
  have HE1 := Lib.hid e1
  have HE5 := Lib.hid e5
  have H9 := Lib.hid h9
  have H11 := Lib.hid h11
  have H12 := Lib.hid h12
  have H3 := Lib.hid h3
  have H7 := Lib.hid h7
  have H8 := Lib.hid h8
  clear h1 h2 h3 h4 h5 h6 h7 h8 h9 h10 h11 h12 h13 e0 e1 e2 e3 e5 h hN0 hN1 hN2 hN3 hN5
  go_enter Try.func91, Try.ntmps91
  go_wp2_with fail
  go_quiet (fail)
  go_wp2_with fail
  go_region
  have P1 : PtV (((w.drewN (nq + 1)).setCell ⟨g0, fr, none⟩ (.int .i64 (ot : Int))).setCell ⟨g1, ot, none⟩ (.int .i64 (fr : Int))) S pb vf _ := ((HP.out.drewN (nq + 1)).set_ (i := 0) (by decide) HE0.out H11.out ot).set_ (i := 1) (by decide) HE1.out H12.out fr
  have F1 : Frm S w (((w.drewN (nq + 1)).setCell ⟨g0, fr, none⟩ (.int .i64 (ot : Int))).setCell ⟨g1, ot, none⟩ (.int .i64 (fr : Int))) := (((Frm.refl S w).drewN (nq + 1)).trans ((HP.out.drewN (nq + 1)).set_frm (i := 0) (by decide) HE0.out fr ot)).trans (((HP.out.drewN (nq + 1)).set_ (i := 0) (by decide) HE0.out H11.out ot).set_frm (i := 1) (by decide) HE1.out ot fr)
  generalize ((w.drewN (nq + 1)).setCell ⟨g0, fr, none⟩ (.int .i64 (ot : Int))).setCell ⟨g1, ot, none⟩ (.int .i64 (fr : Int)) = W1 at P1 F1 ⊢
  have HP1 := Lib.hid P1
  have HF1 := Lib.hid F1
  have l9 : b + m < ((d.row.set fr (ot : Int))).length := by rw [List.length_set]; exact H9.out
  have l3 : st < ((d.place.set ot (fr : Int))).length := by rw [List.length_set]; exact H3.out
  have HL9 := Lib.hid l9
  have HL3 := Lib.hid l3
  clear k0 k1 k2 k3 k5 o0 o1 o2 o3 o5 f0 f1 f2 f3 f5 y0 y1 l0 l1 l2 l5
  obtain ⟨o0, f0⟩ := P1.slot_at (i := 0) (by decide) HE0.out
  obtain ⟨o1, f1⟩ := P1.slot_at (i := 1) (by decide) HE1.out
  obtain ⟨_, y0⟩ := P1.get (i := 0) (j := b + m) (by decide) HE0.out l9
  obtain ⟨_, y1⟩ := P1.get (i := 1) (j := st) (by decide) HE1.out l3
  have b0 : (0 : Int) ≤ (b : Int) + (m : Int) := by omega
  clear P1 F1 l9 l3
  go_wp2_with fail
  go_region
  have P2 : PtV ((W1.setCell ⟨g0, b + m, none⟩ (.int .i64 (st : Int))).setCell ⟨g1, st, none⟩ (.int .i64 ((b : Int) + (m : Int)))).drew S pb vf _ := ((HP1.out.set_ (i := 0) (by decide) HE0.out HL9.out st).set_ (i := 1) (by decide) HE1.out HL3.out ((b : Int) + (m : Int))).drew
  have F2 : Frm S w ((W1.setCell ⟨g0, b + m, none⟩ (.int .i64 (st : Int))).setCell ⟨g1, st, none⟩ (.int .i64 ((b : Int) + (m : Int)))).drew := ((HF1.out.trans (HP1.out.set_frm (i := 0) (by decide) HE0.out (b + m) st)).trans ((HP1.out.set_ (i := 0) (by decide) HE0.out HL9.out st).set_frm (i := 1) (by decide) HE1.out st ((b : Int) + (m : Int)))).drew
  generalize ((W1.setCell ⟨g0, b + m, none⟩ (.int .i64 (st : Int))).setCell ⟨g1, st, none⟩ (.int .i64 ((b : Int) + (m : Int)))).drew = W2 at P2 F2 ⊢
  clear o0 o1 f0 f1 y0 y1
  have HP2 := Lib.hid P2
  have HF2 := Lib.hid F2
  obtain ⟨o5, f5⟩ := P2.slot_at (i := 5) (by decide) HE5.out
  obtain ⟨k5, l5⟩ := P2.get (i := 5) (j := c) (by decide) HE5.out H7.out
  have e5 : W2.cell? ⟨g5, c, none⟩ = some (.int .i64 (m : Int)) := by rw [k5]; exact congrArg (fun x => some (Value.int .i64 x)) H8.out
  have HP3 := Lib.hid (P2.set_ (i := 5) (j := c) (by decide) HE5.out H7.out ((m : Int) + 1))
  have HF3 := Lib.hid (F2.trans (P2.set_frm (i := 5) (by decide) HE5.out c ((m : Int) + 1)))
  have b9 : (m : Int) ≤ 1000000000 := by omega
  clear P2 F2 k5
  go_wp2_with fail
  go_ret
  refine ⟨ret_bool ?_, ⟨vf, HP3.out⟩, HF3.out⟩
  have : ((m : Int) + 1 = 1) ↔ m = 0 := by omega
  by_cases hm : m = 0 <;> simp [hm] <;> omega
end Go.Proofs.Ytldmjpnldgekaaa
end
section
namespace Go.Proofs.Ytldmjpnldgekaaa
open Go.RowKit
section
variable {w : World} {S : Nat → Prop} {pb : Nat} {vf : Nat → Value} {d : A.Pd}
theorem PtV.push (h : PtV w S pb vf d) {i : Nat} (hi : i < 6) {w1 : World} {v' : Value} {x : Int} (hg : w.grownBy w1 (vf i).ownBlock) (ho : w1.ownsRow 0 3 1 v' ((d.f i).length + 1) ((d.f i).map (Value.int .i64) ++ [.int .i64 x])) (hl : v'.ownBlock = (vf i).ownBlock ∨ ∀ g, v'.ownBlock = some g → w.heap.size ≤ g) : PtV (w1.setCell ⟨pb, i, none⟩ v') (fun b => S b ∨ w.heap.size ≤ b) pb (updF vf i v') (d.upd i (d.f i ++ [x])) := by
  have := Grp.put h hi hg ho hl
  unfold PtV
  rw [A.Pd.f_upd d hi]
  refine this.congr (fun k _ => ?_) (fun k _ => ?_)
  · unfold updF; split
    · rw [List.length_append]; rfl
    · rfl
  · unfold updF; split
    · rw [List.map_append]; rfl
    · rfl
theorem PtV.app (h : PtV w S pb vf d) {i : Nat} (hi : i < 6) {o : Obj} {w1 : World} {v' : Value} {x : Int} {A0 : Option Addr} {n c : Nat} (e : vf i = .slice A0 n c) (ho : w1.ownsRow 0 3 1 v' (n + 1) ((d.f i).map (Value.int .i64) ++ [.int .i64 x])) (hg : (w.alloc o).grownBy w1 (Value.slice A0 n c).ownBlock) {m : Nat} (hl : v'.ownBlock = (Value.slice A0 n c).ownBlock ∨ v'.ownBlock = some m) (hm : w.heap.size ≤ m) :
    PtV (w1.setCell ⟨pb, i, none⟩ v') (fun b => S b ∨ w.heap.size ≤ b) pb (updF vf i v') (d.upd i (d.f i ++ [x])) ∧ Frm S w (w1.setCell ⟨pb, i, none⟩ v') ∧ w1.cell? ⟨pb, i, none⟩ = some (.slice A0 n c) ∧ w1.frozen? ⟨pb, i, none⟩ = false := by
  obtain ⟨A1, c', e', _⟩ := h.slot hi
  have hn : n = (d.f i).length := by rw [e'] at e; injection e with _ e2 _; exact e2.symm
  subst hn
  have hall : w.grownBy w1 (vf i).ownBlock := by rw [e]; exact (World.grownBy_alloc w _ _).trans hg
  have hb : Blk w1 pb ptT.oty (cellsOf 6 vf) := (Grp.out h).grown hall fun e2 => (Grp.lie h i hi pb e2.symm).2 rfl
  refine ⟨h.push hi hall ho ?_, Grp.put_frm h hi hall, ?_, hb.frozen i⟩
  · rw [e]
    exact hl.imp id fun h g hg => by rw [h] at hg; simp only [Option.some.injEq] at hg; omega
  · rw [hb.cell i, cellsOf_get vf hi, e]
end
namespace A
/-- The classes when the first k states of the part are in the class n. -/
def clsTo (row : List Int) (b n k : Nat) (cls : List Int) : List Int := (List.range k).foldl (fun c i => c.set (row.getD (b + i) 0).toNat (n : Int)) cls
theorem clsTo_succ (row : List Int) (b n k : Nat) (cls : List Int) : clsTo row b n (k + 1) cls = (clsTo row b n k cls).set (row.getD (b + k) 0).toNat (n : Int) := by
  unfold clsTo; rw [List.range_succ, List.foldl_append]; rfl
theorem clsTo_len (row : List Int) (b n k : Nat) (cls : List Int) : (clsTo row b n k cls).length = cls.length := by
  induction k with
  | zero => rfl
  | succ k ih => rw [clsTo_succ, List.length_set, ih]
def Pd.added (d : Pd) (b e : Nat) : Pd := { d with cls := clsTo d.row b d.beg.length (e - b) d.cls, beg := d.beg ++ [(b : Int)], fin := d.fin ++ [(e : Int)], mkd := d.mkd ++ [0] }
structure Ad (d : Pd) (b e : Nat) : Prop where
  h1 : b < e
  h2 : e ≤ d.row.length
  h3 : ∀ i, b ≤ i → i < e → 0 ≤ d.row.getD i 0 ∧ d.row.getD i 0 < d.cls.length
  h4 : d.row.length ≤ 1000000000
  h5 : d.beg.length ≤ 1000000000
  h6 : d.fin.length ≤ 1000000000
  h7 : d.mkd.length ≤ 1000000000
end A
set_option maxRecDepth 100000 in
set_option maxHeartbeats 4000000 in
theorem add_any {w : World} {S : Nat → Prop} {pb : Nat} {d : A.Pd} {b e : Nat} (h : Pt w S pb d) (hm : A.Ad d b e) :
    Calls Try.prog 90 #[.pointer (some ⟨pb, 0, none⟩), .int .i64 b, .int .i64 e] w fun r w' => r = .returned (.tuple #[]) ∧ Pt w' (fun x => S x ∨ w.heap.size ≤ x) pb (d.added b e) ∧ Frm S w w' := by
  obtain ⟨vf, h⟩ := h
  obtain ⟨h1, h2, h3, h4, h5, h6, h7⟩ := hm
  obtain ⟨g0, c0, e0, o0, f0, k0, l0, _⟩ := h.at_ (i := 0) (j := b) (by decide) (show b < d.row.length by omega)
  obtain ⟨_, _, e0', -, -, hc0⟩ := h.slot (i := 0) (by decide)
  rw [e0] at e0'
  injection e0' with q1 _ q3
  subst q1 q3
  obtain ⟨N0, hN0⟩ : ∃ N0, N0 = (d.f 0).length := ⟨_, rfl⟩
  obtain ⟨N3, hN3⟩ : ∃ N3, N3 = (d.f 3).length := ⟨_, rfl⟩
  have b1 : (b : Int) ≤ (e : Int) := by omega
  have b2 : (e : Int) ≤ (c0 : Int) := by have : e ≤ (d.f 0).length := h2; omega
  have b3 : (b : Int) < (c0 : Int) := by omega
  have b4 : (0 : Int) < (e : Int) - (b : Int) := by omega
  have b5 : e - b ≤ 1000000000 := by omega
  rw [← hN0] at o0 e0
  have HP := Lib.hid h
  have HE0 := Lib.hid e0
  have H2 := Lib.hid h2
  have H3 := Lib.hid h3
  have H5 := Lib.hid h5
  have H6 := Lib.hid h6
  have H7 := Lib.hid h7
  have HN0 := Lib.hid hN0
  have HN3 := Lib.hid hN3
  have H1 := Lib.hid h1
  clear h2 h3 h4 h5 h6 h7 k0 l0 e0 h hc0 hN0 hN3
  go_enter Try.func90, Try.ntmps90
  go_wp2_with fail
  clear o0 f0
  go_loopg [16] (e - b + 1) (fun n i wr => ∃ k : Nat, k ≤ e - b ∧ n = e - b + 1 - k ∧ i = .int .i64 (k : Int) ∧ Hid (PtV wr S pb vf (d.upd 2 (A.clsTo d.row b d.beg.length k d.cls))) ∧ Hid (Frm S w wr))
  case atStart => exact ⟨0, Nat.zero_le _, rfl, rfl, HP, Frm.refl _ _⟩
  case round =>
    obtain ⟨k, hk, rfl, rfl, HQ, HF⟩ := hrel
    by_cases hlt : k < e - b
    · have hlt' : (k : Int) < ((e - b : Nat) : Int) := by omega
      have hb0 : b + k < d.row.length := by have := H2.out; omega
      obtain ⟨q1, q2⟩ := H3.out (b + k) (by omega) (by omega)
      obtain ⟨k0, l0⟩ := HQ.out.get (i := 0) (j := b + k) (by decide) HE0.out hb0
      have hrw : ((d.upd 2 (A.clsTo d.row b d.beg.length k d.cls)).f 0).getD (b + k) 0 = d.row.getD (b + k) 0 := rfl
      rw [hrw] at k0
      have HS : Hid (A.clsTo d.row b d.beg.length (k + 1) d.cls = (A.clsTo d.row b d.beg.length k d.cls).set (d.row.getD (b + k) 0).toNat (d.beg.length : Int)) := A.clsTo_succ _ _ _ _ _
      generalize d.row.getD (b + k) 0 = x at *
      obtain ⟨t, rfl⟩ : ∃ t : Nat, x = (t : Int) := ⟨x.toNat, by omega⟩
      have ht : t < (A.clsTo d.row b d.beg.length k d.cls).length := by rw [A.clsTo_len]; omega
      obtain ⟨g2, c2, e2, o2, f2, k2, l2, _⟩ := HQ.out.at_ (i := 2) (j := t) (by decide) ht
      obtain ⟨A3, c3, e3, o3, f3, _⟩ := HQ.out.slot (i := 3) (by decide)
      have h3l : ((d.upd 2 (A.clsTo d.row b d.beg.length k d.cls)).f 3).length = d.beg.length := rfl
      rw [h3l] at o3
      have HQ2 := Lib.hid (HQ.out.drew.set_ (i := 2) (j := t) (by decide) e2 ht (d.beg.length : Int))
      have HF2 := Lib.hid (HF.out.drew.trans (HQ.out.drew.set_frm (i := 2) (by decide) e2 t (d.beg.length : Int)))
      have ht' : (t : Int) < (((d.upd 2 (A.clsTo d.row b d.beg.length k d.cls)).f 2).length : Int) := by
        have h : ((d.upd 2 (A.clsTo d.row b d.beg.length k d.cls)).f 2).length = (A.clsTo d.row b d.beg.length k d.cls).length := rfl
        rw [h]; omega
      generalize ((d.upd 2 (A.clsTo d.row b d.beg.length k d.cls)).f 2).getD t 0 = z at k2
      clear hrw e2 e3 h3l ht
      generalize ((d.upd 2 (A.clsTo d.row b d.beg.length k d.cls)).f 2).length = N2 at *
      go_wp2_with fail
      go_region
      go_wp2_with fail
      go_roundg (e - b + 1 - (k + 1))
      case measure => omega
      case rel => exact ⟨k + 1, by omega, rfl, by go_num, by rw [HS.out]; first | exact HQ2 | exact HQ2.out.drew, by first | exact HF2 | exact HF2.out.drew⟩
    · have hlt' : ¬ (k : Int) < ((e - b : Nat) : Int) := by omega
      obtain rfl : k = e - b := by omega
      obtain ⟨A3, c3, e3, o3, f3, _⟩ := HQ.out.slot (i := 3) (by decide)
      have HL3 : Hid (((d.upd 2 (A.clsTo d.row b d.beg.length (e - b) d.cls)).f 3).length = d.beg.length) := rfl
      have hO3 := Grp.own HQ.out 3 (by decide)
      rw [e3] at hO3
      rw [HL3.out] at o3 hO3 e3
      have HO3 := Lib.hid hO3
      have HE3 := Lib.hid e3
      obtain ⟨i0, hi0, hz0, hz1, hz2⟩ := info_parts info_int
      clear hO3 e3
      go_wp2_with (at_builtin; refine wpList_append_own_at _ rfl _ _ 37 rfl 0 3 i0 (.int .i64 0) 1 8 Try.underlying37 hi0 hz0 hz1 hz2 rfl (by decide) _ _ _ rfl (HO3.out.alloc _) ⟨wr.heap.size, 0, none⟩ 1 1 [.int .i64 (b : Int)] rfl rfl ?y1 ?y2 ?y3 ?y4 ?y5 ?_)
      case y2 => simp [Value.oneCell']
      case y3 => have := H5.out; unfold maxLen; omega
      case y4 => have := H5.out; omega
      intro v' w1 hown1 hgrow _ hat
      obtain ⟨A9, c9, rfl⟩ := own_form hown1
      obtain ⟨Q1, F1, p1, r1⟩ := HQ.out.app (i := 3) (by decide) HE3.out hown1 hgrow hat (by simp)
      have HQ1 : Hid (PtV _ (fun x => S x ∨ w.heap.size ≤ x) pb _ _) := Grp.mono Q1 fun b _ hb => by have := HF.out.1; rcases hb with hb | hb; exact .inl hb; exact .inr (by omega)
      have HF1 := Lib.hid (HF.out.trans F1)
      obtain ⟨A4, c4, e4, o4, f4, _⟩ := HQ1.out.slot (i := 4) (by decide)
      have HL4 : Hid ((((d.upd 2 (A.clsTo d.row b d.beg.length (e - b) d.cls)).upd 3 ((d.upd 2 (A.clsTo d.row b d.beg.length (e - b) d.cls)).f 3 ++ [(b : Int)])).f 4).length = d.fin.length) := rfl
      have hO4 := Grp.own HQ1.out 4 (by decide)
      rw [e4] at hO4
      rw [HL4.out] at o4 hO4 e4
      have HO4 := Lib.hid hO4
      have HE4 := Lib.hid e4
      clear Q1 F1 hown1 hgrow hat hO4 e4
      go_wp2_with (at_builtin; refine wpList_append_own_at _ rfl _ _ 37 rfl 0 3 i0 (.int .i64 0) 1 8 Try.underlying37 hi0 hz0 hz1 hz2 rfl (by decide) _ _ _ rfl (HO4.out.alloc _) ⟨w1.heap.size, 0, none⟩ 1 1 [.int .i64 (e : Int)] rfl rfl ?z1 ?z2 ?z3 ?z4 ?z5 ?_)
      case z1 => exact cell_one_at (by simp)
      case z2 => simp [Value.oneCell']
      case z3 => have := H6.out; unfold maxLen; omega
      case z4 => have := H6.out; omega
      case z5 => exact Nat.zero_le _
      intro v' w2 hown1 hgrow _ hat
      obtain ⟨A10, c10, rfl⟩ := own_form hown1
      obtain ⟨Q2, F2, p2, r2⟩ := HQ1.out.app (i := 4) (by decide) HE4.out hown1 hgrow hat (by simp)
      have HQ2 : Hid (PtV _ (fun x => S x ∨ w.heap.size ≤ x) pb _ _) := Grp.mono Q2 fun b _ hb => by have := HF1.out.1; rcases hb with hb | hb; exact hb; exact .inr (by omega)
      have HF2 : Hid (Frm S w _) := Frm.mono (E := fun x => S x ∨ w.heap.size ≤ x) ((HF1.out.mono fun _ _ h => .inl h).trans F2) fun b hb h => h.resolve_right (by omega)
      obtain ⟨A5, c5, e5, o5, f5, _⟩ := HQ2.out.slot (i := 5) (by decide)
      have HL5 : Hid (((((d.upd 2 (A.clsTo d.row b d.beg.length (e - b) d.cls)).upd 3 ((d.upd 2 (A.clsTo d.row b d.beg.length (e - b) d.cls)).f 3 ++ [(b : Int)])).upd 4 (((d.upd 2 (A.clsTo d.row b d.beg.length (e - b) d.cls)).upd 3 ((d.upd 2 (A.clsTo d.row b d.beg.length (e - b) d.cls)).f 3 ++ [(b : Int)])).f 4 ++ [(e : Int)])).f 5).length = d.mkd.length) := rfl
      have hO5 := Grp.own HQ2.out 5 (by decide)
      rw [e5] at hO5
      rw [HL5.out] at o5 hO5 e5
      have HO5 := Lib.hid hO5
      have HE5 := Lib.hid e5
      clear Q2 F2 hown1 hgrow hat hO5 e5 o4 f4 p1 r1
      go_wp2_with (at_builtin; refine wpList_append_own_at _ rfl _ _ 37 rfl 0 3 i0 (.int .i64 0) 1 8 Try.underlying37 hi0 hz0 hz1 hz2 rfl (by decide) _ _ _ rfl (HO5.out.alloc _) ⟨w2.heap.size, 0, none⟩ 1 1 [.int .i64 0] rfl rfl ?x1 ?x2 ?x3 ?x4 ?x5 ?_)
      case x1 => exact cell_one_at (by simp)
      case x2 => simp [Value.oneCell']
      case x3 => have := H7.out; unfold maxLen; omega
      case x4 => have := H7.out; omega
      case x5 => exact Nat.zero_le _
      intro v' w3 hown1 hgrow _ hat
      obtain ⟨A11, c11, rfl⟩ := own_form hown1
      obtain ⟨Q3, F3, p3, r3⟩ := HQ2.out.app (i := 5) (by decide) HE5.out hown1 hgrow hat (by simp)
      have HQ3 : Hid (PtV _ (fun x => S x ∨ w.heap.size ≤ x) pb _ _) := Grp.mono Q3 fun b _ hb => by have := HF2.out.1; rcases hb with hb | hb; exact hb; exact .inr (by omega)
      have HF3 : Hid (Frm S w _) := Frm.mono (E := fun x => S x ∨ w.heap.size ≤ x) ((HF2.out.mono fun _ _ h => .inl h).trans F3) fun b hb h => h.resolve_right (by omega)
      clear Q3 F3 hown1 hgrow hat o5 f5 p2 r2
      go_wp2_with fail
      go_end0
      exact ⟨rfl, ⟨_, HQ3.out⟩, HF3.out⟩
end Go.Proofs.Ytldmjpnldgekaaa
end
section
namespace Go.Proofs.Ytldmjpnldgekaaa
open Go.RowKit
namespace A
def Pd.splitted (d : Pd) (k b e m : Nat) : Pd × Bool :=
  if b + m = e then ({ d with mkd := d.mkd.set k 0 }, false)
  else if m ≤ e - (b + m) then (({ d with mkd := d.mkd.set k 0, beg := d.beg.set k ((b : Int) + (m : Int)) } : Pd).added b (b + m), true)
  else (({ d with mkd := d.mkd.set k 0, fin := d.fin.set k ((b : Int) + (m : Int)) } : Pd).added (b + m) e, true)
structure Sp (d : Pd) (k b e m : Nat) : Prop where
  h1 : k < d.beg.length
  h2 : d.beg.getD k 0 = (b : Int)
  h3 : k < d.fin.length
  h4 : d.fin.getD k 0 = (e : Int)
  h5 : k < d.mkd.length
  h6 : d.mkd.getD k 0 = (m : Int)
  h7 : 0 < m
  h8 : b + m ≤ e
  h9 : e ≤ d.row.length
  h10 : ∀ i, b ≤ i → i < e → 0 ≤ d.row.getD i 0 ∧ d.row.getD i 0 < d.cls.length
  h11 : d.row.length ≤ 1000000000
  h12 : d.beg.length ≤ 1000000000
  h13 : d.fin.length ≤ 1000000000
  h14 : d.mkd.length ≤ 1000000000
end A
set_option maxRecDepth 100000 in
set_option maxHeartbeats 4000000 in
theorem split_any {w : World} {S : Nat → Prop} {pb : Nat} {d : A.Pd} {k b e m : Nat} (h : Pt w S pb d) (hm : A.Sp d k b e m) :
    Calls Try.prog 92 #[.pointer (some ⟨pb, 0, none⟩), .int .i64 k] w fun r w' => r = .returned (.bool (d.splitted k b e m).2) ∧ Pt w' (fun x => S x ∨ w.heap.size ≤ x) pb (d.splitted k b e m).1 ∧ Frm S w w' := by
  obtain ⟨vf, h⟩ := h
  obtain ⟨h1, h2, h3, h4, h5, h6, h7, h8, h9, h10, h11, h12, h13, h14⟩ := hm
  obtain ⟨g3, c3, e3, o3, f3, k3, l3, _⟩ := h.at_ (i := 3) (j := k) (by decide) h1
  obtain ⟨g4, c4, e4, o4, f4, k4, l4, _⟩ := h.at_ (i := 4) (j := k) (by decide) h3
  obtain ⟨g5, c5, e5, o5, f5, k5, l5, _⟩ := h.at_ (i := 5) (j := k) (by decide) h5
  rw [show (d.f 3).getD k 0 = (b : Int) from h2] at k3
  rw [show (d.f 4).getD k 0 = (e : Int) from h4] at k4
  rw [show (d.f 5).getD k 0 = (m : Int) from h6] at k5
  have b1 : (k : Int) < ((d.f 3).length : Int) := by have : k < (d.f 3).length := h1; omega
  have b2 : (k : Int) < ((d.f 4).length : Int) := by have : k < (d.f 4).length := h3; omega
  have b3 : (k : Int) < ((d.f 5).length : Int) := by have : k < (d.f 5).length := h5; omega
  have b4 : (e : Int) ≤ 1000000000 := by omega
  have b5 : (b : Int) + (m : Int) ≤ (e : Int) := by omega
  have HP := Lib.hid h
  have HE3 := Lib.hid e3
  have HE4 := Lib.hid e4
  have HE5 := Lib.hid e5
  have HP1 : Hid (∀ n, PtV ((w.drewN n).setCell ⟨g5, k, none⟩ (.int .i64 0)) S pb vf { d with mkd := d.mkd.set k 0 }) := fun n => (h.drewN n).set_ (i := 5) (j := k) (by decide) e5 h5 0
  have HF1 : Hid (∀ n, Frm S w ((w.drewN n).setCell ⟨g5, k, none⟩ (.int .i64 0))) := fun n => Frm.trans ((Frm.refl S w).drewN n) ((h.drewN n).set_frm (i := 5) (by decide) e5 k 0)
  have n35 := h.ne (i := 3) (j := 5) (by decide) (by decide) (by decide) e3 e5
  have n45 := h.ne (i := 4) (j := 5) (by decide) (by decide) (by decide) e4 e5
  have np5 : pb ≠ g5 := fun e => (Grp.lie h 5 (by decide) g5 (by rw [e5]; rfl)).2 e.symm
  have HH : Hid (A.Sp d k b e m) := ⟨h1, h2, h3, h4, h5, h6, h7, h8, h9, h10, h11, h12, h13, h14⟩
  generalize (d.f 3).length = n3 at *
  generalize (d.f 4).length = n4 at *
  generalize (d.f 5).length = n5 at *
  clear h h1 h2 h3 h4 h5 h6 h9 h10 h11 h12 h13 h14 e3 e4 e5
  by_cases hc : b + m = e
  · have hX : d.splitted k b e m = ({ d with mkd := d.mkd.set k 0 }, false) := by unfold A.Pd.splitted; rw [if_pos hc]
    rw [hX]
    have b6 : (b : Int) + (m : Int) = (e : Int) := by omega
    have HB6 := Lib.hid b6
    have hb : (((b : Int) + (m : Int)) == (e : Int)) = true := by rw [b6]; simp
    clear b6 hc hX
    go_enter Try.func92, Try.ntmps92
    go_wp2_with fail
    go_quiet (fail)
    go_wp2_with fail
    go_ret
    exact ⟨rfl, ⟨vf, Grp.mono (HP1.out nq) fun _ _ h => .inl h⟩, HF1.out nq⟩
  have b6 : ¬ (b : Int) + (m : Int) = (e : Int) := by omega
  have hb : (((b : Int) + (m : Int)) == (e : Int)) = false := by rw [beq_eq_false_iff_ne]; exact b6
  have HC := Lib.hid hc
  clear b6 hc
  by_cases hq : m ≤ e - (b + m)
  · have hX : d.splitted k b e m = (({ d with mkd := d.mkd.set k 0, beg := d.beg.set k ((b : Int) + (m : Int)) } : A.Pd).added b (b + m), true) := by unfold A.Pd.splitted; rw [if_neg HC.out, if_pos hq]
    rw [hX]
    have b7 : (b : Int) + (m : Int) - (b : Int) ≤ (e : Int) - ((b : Int) + (m : Int)) := by omega
    have HQ := Lib.hid hq
    have HP2 : Hid (∀ n, PtV (((w.drewN n).setCell ⟨g5, k, none⟩ (.int .i64 0)).setCell ⟨g3, k, none⟩ (.int .i64 ((b : Int) + (m : Int)))) S pb vf { d with mkd := d.mkd.set k 0, beg := d.beg.set k ((b : Int) + (m : Int)) }) := fun n => (HP1.out n).set_ (i := 3) (j := k) (by decide) HE3.out HH.out.h1 _
    have HF2 : Hid (∀ n, Frm S w (((w.drewN n).setCell ⟨g5, k, none⟩ (.int .i64 0)).setCell ⟨g3, k, none⟩ (.int .i64 ((b : Int) + (m : Int))))) := fun n => (HF1.out n).trans ((HP1.out n).set_frm (i := 3) (by decide) HE3.out k _)
    clear hq hX
    go_enter Try.func92, Try.ntmps92
    go_wp2_with fail
    go_quiet (fail)
    go_wp2_with fail
    have had := add_any (b := b) (e := b + m) ⟨vf, HP2.out nq⟩ ⟨by omega, by have := HH.out.h9; dsimp only; omega, fun i h1 h2 => HH.out.h10 i h1 (by omega), HH.out.h11, by dsimp only; rw [List.length_set]; exact HH.out.h12, HH.out.h13, by dsimp only; rw [List.length_set]; exact HH.out.h14⟩
    rw [Int.natCast_add] at had
    refine had.mono ?_
    rintro _ w2 ⟨rfl, ⟨vf2, q2⟩, f2⟩
    have HQ2 := Lib.hid q2
    have HF3 := Lib.hid ((HF2.out nq).trans f2)
    have HSZ := (HF2.out nq).1
    clear q2 f2 had o3 o4 o5 f3 f4 f5 k3 k4 k5 l3 l4 l5
    go_wp2_with fail
    go_ret
    exact ⟨rfl, ⟨vf2, Grp.mono HQ2.out fun b _ h => by rcases h with h | h; exact .inl h; exact .inr (by omega)⟩, HF3.out⟩
  · have hX : d.splitted k b e m = (({ d with mkd := d.mkd.set k 0, fin := d.fin.set k ((b : Int) + (m : Int)) } : A.Pd).added (b + m) e, true) := by unfold A.Pd.splitted; rw [if_neg HC.out, if_neg hq]
    rw [hX]
    have b7 : ¬ ((b : Int) + (m : Int) - (b : Int) ≤ (e : Int) - ((b : Int) + (m : Int))) := by have := HC.out; omega
    have HQ := Lib.hid hq
    have HP2 : Hid (∀ n, PtV (((w.drewN n).setCell ⟨g5, k, none⟩ (.int .i64 0)).setCell ⟨g4, k, none⟩ (.int .i64 ((b : Int) + (m : Int)))) S pb vf { d with mkd := d.mkd.set k 0, fin := d.fin.set k ((b : Int) + (m : Int)) }) := fun n => (HP1.out n).set_ (i := 4) (j := k) (by decide) HE4.out HH.out.h3 _
    have HF2 : Hid (∀ n, Frm S w (((w.drewN n).setCell ⟨g5, k, none⟩ (.int .i64 0)).setCell ⟨g4, k, none⟩ (.int .i64 ((b : Int) + (m : Int))))) := fun n => (HF1.out n).trans ((HP1.out n).set_frm (i := 4) (by decide) HE4.out k _)
    clear hq hX
    go_enter Try.func92, Try.ntmps92
    go_wp2_with fail
    go_quiet (fail)
    go_wp2_with fail
    have had := add_any (b := b + m) (e := e) ⟨vf, HP2.out nq⟩ ⟨by have := HC.out; omega, HH.out.h9, fun i h1 h2 => HH.out.h10 i (by omega) h2, HH.out.h11, HH.out.h12, by dsimp only; rw [List.length_set]; exact HH.out.h13, by dsimp only; rw [List.length_set]; exact HH.out.h14⟩
    rw [Int.natCast_add] at had
    refine had.mono ?_
    rintro _ w2 ⟨rfl, ⟨vf2, q2⟩, f2⟩
    have HQ2 := Lib.hid q2
    have HF3 := Lib.hid ((HF2.out nq).trans f2)
    have HSZ := (HF2.out nq).1
    clear q2 f2 had o3 o4 o5 f3 f4 f5 k3 k4 k5 l3 l4 l5
    go_wp2_with fail
    go_ret
    exact ⟨rfl, ⟨vf2, Grp.mono HQ2.out fun b _ h => by rcases h with h | h; exact .inl h; exact .inr (by omega)⟩, HF3.out⟩
end Go.Proofs.Ytldmjpnldgekaaa
end
section
namespace Go.Proofs.Ytldmjpnldgekaaa
open Go.RowKit
namespace A
def natO (l : List Int) (i : Nat) : Option Nat := if i < l.length ∧ 0 ≤ l.getD i 0 then some (l.getD i 0).toNat else none
theorem natO_some {l : List Int} {i n : Nat} (h : natO l i = some n) : i < l.length ∧ l.getD i 0 = (n : Int) := by
  unfold natO at h
  split at h
  · rename_i hc
    simp only [Option.some.injEq] at h
    exact ⟨hc.1, by omega⟩
  · cases h
def big : Nat := 1000000000
def markO (d : Pd) (st : Nat) : Option (Pd × Bool) :=
  (natO d.cls st).bind fun c => (natO d.place st).bind fun fr => (natO d.beg c).bind fun b => (natO d.mkd c).bind fun m => (natO d.row (b + m)).bind fun ot =>
    if fr < d.row.length ∧ ot < d.place.length ∧ d.row.length ≤ big then some (d.marked st c fr b m ot, decide (m = 0)) else none
theorem markO_inv {d d' : Pd} {st : Nat} {r : Bool} (h : markO d st = some (d', r)) : ∃ c fr b m ot, Mk d st c fr b m ot ∧ d' = d.marked st c fr b m ot ∧ r = decide (m = 0) := by
  unfold markO at h
  simp only [Option.bind_eq_some_iff] at h
  obtain ⟨c, h1, fr, h2, b, h3, m, h4, ot, h5, h6⟩ := h
  split at h6
  · rename_i hc
    simp only [Option.some.injEq, Prod.mk.injEq] at h6
    obtain ⟨rfl, rfl⟩ := h6
    exact ⟨c, fr, b, m, ot, ⟨(natO_some h1).1, (natO_some h1).2, (natO_some h2).1, (natO_some h2).2, (natO_some h3).1, (natO_some h3).2, (natO_some h4).1, (natO_some h4).2, (natO_some h5).1, (natO_some h5).2, hc.1, hc.2.1, hc.2.2⟩, rfl, rfl⟩
  · cases h6
def partOk (d : Pd) (b e : Nat) : Bool := (List.range e).all fun i => decide (i < b) || (decide (0 ≤ d.row.getD i 0) && decide (d.row.getD i 0 < d.cls.length))
theorem partOk_at {d : Pd} {b e : Nat} (h : partOk d b e = true) (i : Nat) (h1 : b ≤ i) (h2 : i < e) : 0 ≤ d.row.getD i 0 ∧ d.row.getD i 0 < d.cls.length := by
  have := List.all_eq_true.1 h i (List.mem_range.2 h2)
  simp only [Bool.or_eq_true, Bool.and_eq_true, decide_eq_true_eq] at this
  rcases this with h | h
  · omega
  · exact h
def splitO (d : Pd) (k : Nat) : Option (Pd × Bool) :=
  (natO d.beg k).bind fun b => (natO d.fin k).bind fun e => (natO d.mkd k).bind fun m =>
    if 0 < m ∧ b + m ≤ e ∧ e ≤ d.row.length ∧ partOk d b e = true ∧ d.row.length ≤ big ∧ d.beg.length ≤ big ∧ d.fin.length ≤ big ∧ d.mkd.length ≤ big then some (d.splitted k b e m) else none
theorem splitO_inv {d d' : Pd} {k : Nat} {r : Bool} (h : splitO d k = some (d', r)) : ∃ b e m, Sp d k b e m ∧ d' = (d.splitted k b e m).1 ∧ r = (d.splitted k b e m).2 := by
  unfold splitO at h
  simp only [Option.bind_eq_some_iff] at h
  obtain ⟨b, h1, e, h2, m, h3, h4⟩ := h
  split at h4
  · rename_i hc
    simp only [Option.some.injEq] at h4
    obtain ⟨k1, k2, k3, k4, k5, k6, k7, k8⟩ := hc
    exact ⟨b, e, m, ⟨(natO_some h1).1, (natO_some h1).2, (natO_some h2).1, (natO_some h2).2, (natO_some h3).1, (natO_some h3).2, k1, k2, k3, partOk_at k4, k5, k6, k7, k8⟩, by rw [h4], by rw [h4]⟩
  · cases h4
/-- Marks states, and tells the classes that are touched. -/
def touch : List Int → Pd → List Int → Option (Pd × List Int)
  | [], d, ts => some (d, ts)
  | s :: l, d, ts => if 0 ≤ s then (match markO d s.toNat with
    | none => none
    | some (d', true) => touch l d' (ts ++ [d'.cls.getD s.toNat 0])
    | some (d', false) => touch l d' ts) else none
/-- Splits classes, and tells the new ones. -/
def splits : List Int → Pd → List Int → Option (Pd × List Int)
  | [], d, fs => some (d, fs)
  | k :: l, d, fs => if 0 ≤ k then (match splitO d k.toNat with
    | none => none
    | some (d', true) => splits l d' (fs ++ [(d'.beg.length : Int) - 1])
    | some (d', false) => splits l d' fs) else none
def divideO (d : Pd) (ws : List Int) : Option (Pd × List Int) := match touch ws d [] with
  | none => none
  | some (d', ts) => splits ts d' []
theorem touch_len : ∀ {l : List Int} {d d' : Pd} {ts ts' : List Int}, touch l d ts = some (d', ts') → ts'.length ≤ ts.length + l.length
  | [], d, d', ts, ts', h => by simp only [touch, Option.some.injEq, Prod.mk.injEq] at h; rw [h.2]; simp
  | s :: l, d, d', ts, ts', h => by
    unfold touch at h
    split at h
    · split at h
      · cases h
      · have := touch_len h; simp at this ⊢; omega
      · have := touch_len h; simp at this ⊢; omega
    · cases h
theorem splitted_beg (d : Pd) (k b e m : Nat) : (d.splitted k b e m).1.beg.length ≤ d.beg.length + 1 := by
  unfold Pd.splitted
  split
  · dsimp only; omega
  · split
    · dsimp only [Pd.added]; rw [List.length_append, List.length_set]; simp
    · dsimp only [Pd.added]; rw [List.length_append]; simp
end A
theorem own_lt {w : World} {base : Nat} {v : Value} {l : List Int} (h : OwnInts w base v l) : ∀ g, v.ownBlock = some g → base ≤ g ∧ g < w.heap.size := fun g hg => World.ownsRow.lt h g hg
theorem marked_cls (d : A.Pd) (st c fr b m ot : Nat) : (d.marked st c fr b m ot).cls = d.cls := rfl
set_option maxRecDepth 100000 in
set_option maxHeartbeats 4000000 in
theorem divide_any {w : World} {S Q : Nat → Prop} {pb : Nat} {d d' : A.Pd} {v : Value} {ws fs : List Int} (h : Pt w S pb d) (hw : Ints w Q v ws) (hQ : ∀ b, Q b → ¬ S b) (hd : A.divideO d ws = some (d', fs)) (hl : ws.length ≤ 100000000) :
    Calls Try.prog 74 #[.pointer (some ⟨pb, 0, none⟩), v] w fun r w' => ∃ u, r = .returned u ∧ OwnInts w' w.heap.size u fs ∧ Pt w' (fun x => S x ∨ w.heap.size ≤ x) pb d' ∧ Frm S w w' := by
  obtain ⟨A0, c0, rfl, hw⟩ := hw
  have HW := Lib.hid hw
  have HQ := Lib.hid hQ
  obtain ⟨S0, hS0⟩ : ∃ S0 : Nat → Prop, ∀ b, S0 b ↔ S b ∧ b < w.heap.size := ⟨_, fun b => Iff.rfl⟩
  have HP : Hid (Pt w S0 pb d) := h.mono fun b hb hs => (hS0 b).2 ⟨hs, hb⟩
  have HS0 := Lib.hid hS0
  unfold A.divideO at hd
  split at hd
  · cases hd
  rename_i d1 ts ht
  have HTL : Hid (ts.length ≤ ws.length) := show _ ≤ _ by have := A.touch_len ht; simpa using this
  have HT : Hid (A.touch (ws.drop 0) d [] = some (d1, ts)) := ht
  have HD := Lib.hid hd
  obtain ⟨i0, hi0, hz0, hz1, hz2⟩ := info_parts info_int
  have HWL := Lib.hid hl
  clear h hw hQ hS0 hd ht
  go_enter Try.func74, Try.ntmps74
  go_wp2_with fail
  go_loopg [5, 13] (ws.length + 1) (fun n u i wr => ∃ (k : Nat) (dk : A.Pd) (tk : List Int), k ≤ ws.length ∧ n = ws.length + 1 - k ∧ i = .int .i64 (k : Int) ∧ tk.length ≤ k ∧ Hid (A.touch (ws.drop k) dk tk = some (d1, ts)) ∧ Hid (OwnInts wr w.heap.size u tk) ∧ Hid (Pt wr S0 pb dk) ∧ Hid (Frm S0 w wr))
  case atStart => exact ⟨0, d, [], Nat.zero_le _, rfl, rfl, Nat.le_refl _, HT, World.ownsRow_nil _ _ _ _, HP, Frm.refl _ _⟩
  case round =>
    clear HT HP
    obtain ⟨k, dk, tk, hk, rfl, rfl, htk, HT, HO, HP, HF⟩ := hrel
    obtain ⟨A5, c5, rfl⟩ := own_form HO.out
    by_cases hlt : k < ws.length
    · have hlt' : (k : Int) < (ws.length : Int) := by omega
      obtain ⟨g, o, rfl, hq, hc⟩ := HW.out k hlt
      have c1 := HF.out.cell (fun e => HQ.out g hq ((HS0.out g).1 e).1) hc
      have ht := HT.out
      rw [List.drop_eq_getElem_cons hlt] at ht
      unfold A.touch at ht
      generalize ws[k]'hlt = s at *
      split at ht
      case isFalse => cases ht
      rename_i hs0
      obtain ⟨st, rfl⟩ : ∃ st : Nat, s = (st : Int) := ⟨s.toNat, by omega⟩
      rw [Int.toNat_natCast] at ht
      cases hm : A.markO dk st with
      | none => rw [hm] at ht; cases ht
      | some res =>
      obtain ⟨d2, r⟩ := res
      rw [hm] at ht
      obtain ⟨c, fr, b, m, ot, hmk, rfl, rfl⟩ := A.markO_inv hm
      have HMK := Lib.hid hmk
      have HT2 := Lib.hid ht
      have HCL := Lib.hid hc
      clear hmk hm ht hc hs0
      go_wp2_with fail
      refine (mark_any HP.out HMK.out).mono ?_
      rintro _ w2 ⟨rfl, ⟨vf, q2⟩, f2⟩
      have HP2 : Hid (PtV w2 S0 pb vf (dk.marked st c fr b m ot)) := q2
      have HF2 := Lib.hid (HF.out.trans f2)
      have HO2 : Hid (OwnInts w2 w.heap.size (.slice A5 tk.length c5) tk) := HO.out.frm f2 fun g hg hs => by have := ((HS0.out g).1 hs).2; omega
      clear q2 f2
      by_cases hm0 : m = 0
      · have hb : decide (m = 0) = true := by simp [hm0]
        rw [hb] at HT2 ⊢
        obtain ⟨g2, c2, e2, o2, f2, k2, l2, _⟩ := HP2.out.at_ (i := 2) (j := st) (by decide) (show st < (dk.marked st c fr b m ot).cls.length from HMK.out.h1)
        have hst : (st : Int) < (((dk.marked st c fr b m ot).f 2).length : Int) := by have : st < ((dk.marked st c fr b m ot).f 2).length := HMK.out.h1; omega
        rw [show ((dk.marked st c fr b m ot).f 2).getD st 0 = (dk.marked st c fr b m ot).cls.getD st 0 from rfl] at k2
        generalize ((dk.marked st c fr b m ot).f 2).length = n2 at *
        have HT3 : Hid (A.touch (ws.drop (k + 1)) (dk.marked st c fr b m ot) (tk ++ [(dk.marked st c fr b m ot).cls.getD st 0]) = some (d1, ts)) := HT2.out
        generalize (dk.marked st c fr b m ot).cls.getD st 0 = cl at *
        have HTK := Lib.hid htk
        clear e2 hb hm0 HT2
        go_wp2_with (at_builtin; refine wpList_append_own_at _ rfl _ _ 37 rfl w.heap.size 3 i0 (.int .i64 0) 1 8 Try.underlying37 hi0 hz0 hz1 hz2 rfl (by decide) _ _ _ rfl (HO2.out.alloc _) ⟨w2.heap.size, 0, none⟩ 1 1 [.int .i64 cl] rfl rfl ?y1 ?y2 ?y3 ?y4 ?y5 ?_)
        case y1 => exact cell_one_at (by simp)
        case y2 => simp [Value.oneCell']
        case y3 => have := HTK.out; have := HWL.out; unfold maxLen; omega
        case y4 => have := HTK.out; have := HWL.out; omega
        case y5 => have := HF2.out.1; simp; omega
        intro v' w3 hown1 hgrow _ hat
        obtain ⟨A9, c9, rfl⟩ := own_form hown1
        have f3 : Frm (fun b => w.heap.size ≤ b) w2 w3 := ((Frm.refl _ w2).alloc _).grown hgrow fun g hg _ => (own_lt HO2.out g hg.symm.symm).1
        have HF3 : Hid (Frm S0 w w3) := Frm.mono (E := fun b => S0 b ∨ w.heap.size ≤ b) ((HF2.out.mono fun _ _ h => .inl h).trans (f3.mono fun _ _ h => .inr h)) fun b hb h => h.resolve_right (by omega)
        have HO3 : Hid (OwnInts w3 w.heap.size (.slice A9 (tk.length + 1) c9) (tk ++ [cl])) := OwnInts.grown rfl hown1
        have HP3 : Hid (Pt w3 S0 pb (dk.marked st c fr b m ot)) := Pt.frm ⟨vf, HP2.out⟩ f3 fun b _ hs => by have := ((HS0.out b).1 hs).2; omega
        clear hown1 hgrow hat f3 o2 f2 k2 l2
        go_wp2_with fail
        go_roundg (ws.length + 1 - (k + 1))
        case measure => omega
        case rel => exact ⟨k + 1, _, _, by omega, rfl, by go_num, by have := HTK.out; simp only [List.length_append, List.length_cons, List.length_nil]; omega, HT3, HO3, HP3, HF3⟩
      · have hb : decide (m = 0) = false := by simp [hm0]
        rw [hb] at HT2 ⊢
        have HT3 : Hid (A.touch (ws.drop (k + 1)) (dk.marked st c fr b m ot) tk = some (d1, ts)) := HT2.out
        clear HT2 hm0 hb
        go_wp2_with fail
        go_roundg (ws.length + 1 - (k + 1))
        case measure => omega
        case rel => exact ⟨k + 1, _, tk, by omega, rfl, by go_num, by omega, HT3, HO2, ⟨vf, HP2.out⟩, HF2⟩
    · have hlt' : ¬ (k : Int) < (ws.length : Int) := by omega
      have ht := HT.out
      rw [List.drop_of_length_le (by omega)] at ht
      simp only [A.touch, Option.some.injEq, Prod.mk.injEq] at ht
      obtain ⟨rfl, rfl⟩ := ht
      have HD0 : Hid (A.splits (tk.drop 0) dk [] = some (d', fs)) := HD.out
      have HNO : Hid (∀ g, (Value.slice A5 tk.length c5).ownBlock = some g → ¬ S0 g) := fun g hg hs => by have := ((HS0.out g).1 hs).2; have := own_lt HO.out g hg; omega
      have HSS : Hid (∀ b, S0 b → (S b ∨ w.heap.size ≤ b) ∧ b < wr.heap.size) := fun b hs => ⟨.inl ((HS0.out b).1 hs).1, Nat.lt_of_lt_of_le ((HS0.out b).1 hs).2 HF.out.1⟩
      have HFS : Hid (Frm S w wr) := HF.out.mono fun b _ hs => ((HS0.out b).1 hs).1
      have HTL2 := HTL.out
      have HWL2 := HWL.out
      clear HT HD HF hk hlt
      go_wp2_with fail
      go_loopg [8, 33] (tk.length + 1) (fun n u i wr => ∃ (k : Nat) (dk : A.Pd) (fk : List Int) (Sk : Nat → Prop), k ≤ tk.length ∧ n = tk.length + 1 - k ∧ i = .int .i64 (k : Int) ∧ fk.length ≤ k ∧ Hid (A.splits (tk.drop k) dk fk = some (d', fs)) ∧ Hid (OwnInts wr w.heap.size u fk) ∧ Hid (∀ g, u.ownBlock = some g → ¬ Sk g) ∧ Hid (OwnInts wr w.heap.size (.slice A5 tk.length c5) tk) ∧ Hid (∀ g, (Value.slice A5 tk.length c5).ownBlock = some g → ¬ Sk g ∧ u.ownBlock ≠ some g) ∧ Hid (Pt wr Sk pb dk) ∧ Hid (∀ b, Sk b → (S b ∨ w.heap.size ≤ b) ∧ b < wr.heap.size) ∧ Hid (Frm S w wr))
      case atStart => exact ⟨0, dk, [], S0, Nat.zero_le _, rfl, rfl, Nat.le_refl _, HD0, World.ownsRow_nil _ _ _ _, fun g h => (by cases h), HO, fun g hg => ⟨HNO.out g hg, fun h => (by cases h)⟩, HP, HSS, HFS⟩
      case round =>
        clear HD0 HNO HSS HFS HO HP
        obtain ⟨k, dk, fk, Sk, hk, rfl, rfl, hfk, HD, HO, HNO, HT, HNT, HP, HSS, HF⟩ := hrel
        obtain ⟨A8, c8, rfl⟩ := own_form HO.out
        by_cases hlt : k < tk.length
        · have hlt2 : (k : Int) < (tk.length : Int) := by omega
          obtain ⟨g5, rfl, _, d0⟩ := OwnInts.at_ (l := tk) HT.out hlt
          have hd := HD.out
          rw [List.drop_eq_getElem_cons hlt] at hd
          have hge : tk.getD k 0 = tk[k]'hlt := by simp [hlt]
          rw [← hge] at hd
          unfold A.splits at hd
          generalize tk.getD k 0 = s at *
          split at hd
          case isFalse => cases hd
          rename_i hs0
          obtain ⟨kk, rfl⟩ : ∃ kk : Nat, s = (kk : Int) := ⟨s.toNat, by omega⟩
          rw [Int.toNat_natCast] at hd
          cases hm : A.splitO dk kk with
          | none => rw [hm] at hd; cases hd
          | some res =>
          obtain ⟨d2, r⟩ := res
          rw [hm] at hd
          obtain ⟨b, e, m, hsp, hd2, hr⟩ := A.splitO_inv hm
          have HSP := Lib.hid hsp
          have HD2 := Lib.hid hd
          have HDD := Lib.hid hd2
          have HRR := Lib.hid hr
          clear hsp hm hd hs0 hge hd2 hr
          go_wp2_with fail
          have hsa := split_any HP.out HSP.out
          rw [← HDD.out, ← HRR.out] at hsa
          refine hsa.mono ?_
          rintro _ w2 ⟨rfl, q2, f2⟩
          have hlt' := f2.1
          have HP2 : Hid (Pt w2 (fun b => (Sk b ∨ wr.heap.size ≤ b) ∧ b < w2.heap.size) pb d2) := q2.mono fun b hb hs => ⟨hs, hb⟩
          have HF2 : Hid (Frm S w w2) := Frm.mono (E := fun b => S b ∨ w.heap.size ≤ b) ((HF.out.mono fun _ _ h => .inl h).trans (f2.mono fun b _ h => (HSS.out b h).1)) fun b hb h => h.resolve_right (by omega)
          have HO2 : Hid (OwnInts w2 w.heap.size (.slice A8 fk.length c8) fk) := f2.row HO.out (fun g hg => HNO.out g hg) (Nat.le_refl _)
          have HT2 : Hid (OwnInts w2 w.heap.size (.slice (some ⟨g5, 0, none⟩) tk.length c5) tk) := f2.row HT.out (fun g hg => (HNT.out g hg).1) (Nat.le_refl _)
          have HNO2 : Hid (∀ g, (Value.slice A8 fk.length c8).ownBlock = some g → ¬ ((Sk g ∨ wr.heap.size ≤ g) ∧ g < w2.heap.size)) := fun g hg h => by
            have h1 := HNO.out g hg
            have h2 := (own_lt HO.out g hg).2
            rcases h.1 with h3 | h3
            · exact h1 h3
            · omega
          have HNT2 : Hid (∀ g, (Value.slice (some ⟨g5, 0, none⟩) tk.length c5).ownBlock = some g → ¬ ((Sk g ∨ wr.heap.size ≤ g) ∧ g < w2.heap.size) ∧ (Value.slice A8 fk.length c8).ownBlock ≠ some g) := fun g hg => by
            have h1 := HNT.out g hg
            have h2 := (own_lt HT.out g hg).2
            refine ⟨fun h => ?_, h1.2⟩
            rcases h.1 with h3 | h3
            · exact h1.1 h3
            · omega
          have HSS2 : Hid (∀ b, ((Sk b ∨ wr.heap.size ≤ b) ∧ b < w2.heap.size) → (S b ∨ w.heap.size ≤ b) ∧ b < w2.heap.size) := fun b h => by
            refine ⟨?_, h.2⟩
            rcases h.1 with h3 | h3
            · exact (HSS.out b h3).1
            · exact .inr (Nat.le_trans HF.out.1 h3)
          obtain ⟨Sk2, hSk2⟩ : ∃ Sk2 : Nat → Prop, Sk2 = fun b => (Sk b ∨ wr.heap.size ≤ b) ∧ b < w2.heap.size := ⟨_, rfl⟩
          have HP3 : Hid (Pt w2 Sk2 pb d2) := by rw [hSk2]; exact HP2
          have HNO3 : Hid (∀ g, (Value.slice A8 fk.length c8).ownBlock = some g → ¬ Sk2 g) := by rw [hSk2]; exact HNO2
          have HNT3 : Hid (∀ g, (Value.slice (some ⟨g5, 0, none⟩) tk.length c5).ownBlock = some g → ¬ Sk2 g ∧ (Value.slice A8 fk.length c8).ownBlock ≠ some g) := by rw [hSk2]; exact HNT2
          have HSS3 : Hid (∀ b, Sk2 b → (S b ∨ w.heap.size ≤ b) ∧ b < w2.heap.size) := by rw [hSk2]; exact HSS2
          have hbeg : d2.beg.length ≤ 1000000001 := by have := HSP.out.h12; have := A.splitted_beg dk kk b e m; rw [← HDD.out] at this; omega
          clear q2 f2 hsa HP2 HNO2 HNT2 HSS2 hSk2 HP HNO HNT HSS HF HO HT d0
          cases r with
          | false =>
            have HD3 : Hid (A.splits (tk.drop (k + 1)) d2 fk = some (d', fs)) := HD2.out
            clear HD2
            go_wp2_with fail
            go_roundg (tk.length + 1 - (k + 1))
            case measure => omega
            case rel => exact ⟨k + 1, d2, fk, Sk2, by omega, rfl, by go_num, by omega, HD3, HO2, HNO3, HT2, HNT3, HP3, HSS3, HF2⟩
          | true =>
            have HD3 : Hid (A.splits (tk.drop (k + 1)) d2 (fk ++ [(d2.beg.length : Int) - 1]) = some (d', fs)) := HD2.out
            obtain ⟨vf2, hv2⟩ := HP3.out
            obtain ⟨A3, c3, e3, o3, f3, _⟩ := hv2.slot (i := 3) (by decide)
            have hl3 : (d2.f 3).length = d2.beg.length := rfl
            rw [hl3] at o3
            have HFK := Lib.hid hfk
            clear HD2 e3 hl3 hv2 hfk
            go_wp2_with (at_builtin; refine wpList_append_own_at _ rfl _ _ 37 rfl w.heap.size 3 i0 (.int .i64 0) 1 8 Try.underlying37 hi0 hz0 hz1 hz2 rfl (by decide) _ _ _ rfl (HO2.out.alloc _) ⟨w2.heap.size, 0, none⟩ 1 1 [.int .i64 ((d2.beg.length : Int) - 1)] rfl rfl ?z1 ?z2 ?z3 ?z4 ?z5 ?_)
            case z1 => exact cell_one_at (by simp)
            case z2 => simp [Value.oneCell']
            case z3 => have := HFK.out; unfold maxLen; omega
            case z4 => have := HFK.out; omega
            case z5 => have := HF2.out.1; simp; omega
            intro v' w3 hown1 hgrow _ hat
            obtain ⟨A9, c9, rfl⟩ := own_form hown1
            have f3 : Frm (fun b => (Value.slice A8 fk.length c8).ownBlock = some b) w2 w3 := ((Frm.refl _ w2).alloc _).grown hgrow fun g hg _ => hg
            have HF3 : Hid (Frm S w w3) := Frm.mono (E := fun b => S b ∨ w.heap.size ≤ b) ((HF2.out.mono fun _ _ h => .inl h).trans (f3.mono fun b _ h => .inr (own_lt HO2.out b h).1)) fun b hb h => h.resolve_right (by omega)
            have HO3 : Hid (OwnInts w3 w.heap.size (.slice A9 (fk.length + 1) c9) (fk ++ [(d2.beg.length : Int) - 1])) := OwnInts.grown rfl hown1
            have HP4 : Hid (Pt w3 Sk2 pb d2) := Pt.frm HP3.out f3 fun b _ hs h => HNO3.out b h hs
            have HT3 : Hid (OwnInts w3 w.heap.size (.slice (some ⟨g5, 0, none⟩) tk.length c5) tk) := f3.row HT2.out (fun g hg h => (HNT3.out g hg).2 h) (Nat.le_refl _)
            have HNO4 : Hid (∀ g, (Value.slice A9 (fk.length + 1) c9).ownBlock = some g → ¬ Sk2 g) := fun g hg hs => by
              rcases hat with h | h
              · rw [h] at hg; exact HNO3.out g hg hs
              · rw [h] at hg; have := (HSS3.out g hs).2; simp at hg; omega
            have HNT4 : Hid (∀ g, (Value.slice (some ⟨g5, 0, none⟩) tk.length c5).ownBlock = some g → ¬ Sk2 g ∧ (Value.slice A9 (fk.length + 1) c9).ownBlock ≠ some g) := fun g hg => by
              refine ⟨(HNT3.out g hg).1, fun hn => ?_⟩
              rcases hat with h | h
              · rw [h] at hn; exact (HNT3.out g hg).2 hn
              · rw [h] at hn; have := (own_lt HT2.out g hg).2; simp at hn; omega
            have HSS4 : Hid (∀ b, Sk2 b → (S b ∨ w.heap.size ≤ b) ∧ b < w3.heap.size) := fun b hs => ⟨(HSS3.out b hs).1, Nat.lt_of_lt_of_le (HSS3.out b hs).2 f3.1⟩
            clear hown1 hgrow hat f3 o3 
            go_wp2_with fail
            go_roundg (tk.length + 1 - (k + 1))
            case measure => omega
            case rel => exact ⟨k + 1, d2, _, Sk2, by omega, rfl, by go_num, by have := HFK.out; simp only [List.length_append, List.length_cons, List.length_nil]; omega, HD3, HO3, HNO4, HT3, HNT4, HP4, HSS4, HF3⟩
        · have hlt2 : ¬ (k : Int) < (tk.length : Int) := by omega
          have hd := HD.out
          rw [List.drop_of_length_le (by omega)] at hd
          simp only [A.splits, Option.some.injEq, Prod.mk.injEq] at hd
          obtain ⟨rfl, rfl⟩ := hd
          clear HD
          go_wp2_with fail
          go_ret
          exact ⟨_, rfl, HO.out, HP.out.mono fun b _ hs => (HSS.out b hs).1, HF.out⟩
end Go.Proofs.Ytldmjpnldgekaaa
end
section
namespace Go.Proofs.Ytldmjpnldgekaaa
open Go.RowKit Go.Maps
namespace A
variable {α : Type} [DecidableEq α]
def idx (x : α) : List α → Nat
  | [] => 0
  | y :: l => if y = x then 0 else idx x l + 1
theorem idx_lt {x : α} : ∀ {l : List α}, x ∈ l → idx x l < l.length
  | y :: l, h => by
    unfold idx
    by_cases e : y = x
    · simp [e]
    · rw [if_neg e]
      have := idx_lt (l := l) (by rcases List.mem_cons.1 h with h | h; exact absurd h.symm e; exact h)
      simp; omega
theorem idx_get {x : α} : ∀ {l : List α} (h : x ∈ l), l[idx x l]'(idx_lt h) = x
  | y :: l, h => by
    by_cases e : y = x
    · simp [idx, e]
    · have h2 : x ∈ l := by rcases List.mem_cons.1 h with h | h; exact absurd h.symm e; exact h
      have := idx_get h2
      simp only [idx, if_neg e, List.getElem_cons_succ]
      exact this
/-- The number of a thing, and what is found then. -/
def numO (none_ x : α) (ts : List α) : Int × List α := if x = none_ then (-1, ts) else if x ∈ ts then (idx x ts, ts) else (ts.length, ts ++ [x])
end A
section
variable {α : Type} [DecidableEq α]
/-- What the datum D tells of numbers: none has -1, each thing its place. -/
structure Reads (kl : α → Lit) (ok : α → Prop) (none_ : α) (ts : List α) (D : DataW Unit) : Prop where
  map : IsMap D
  has : ∀ x, ok x → Maps.has D (kl x) = decide (x = none_ ∨ x ∈ ts)
  non : D.atKey (kl none_) (.lit (.int .i64 0)) = .lit (.int .i64 (-1))
  at_ : ∀ i (h : i < ts.length), D.atKey (kl ts[i]) (.lit (.int .i64 0)) = .lit (.int .i64 (i : Int))
  oks : ∀ x ∈ ts, ok x
  nin : none_ ∉ ts
  okn : ok none_
theorem Reads.new {kl : α → Lit} {ok : α → Prop} {none_ : α} (hk : ∀ x, ok x → WideAt.IsKeyLit (kl x)) (hinj : ∀ x y, ok x → ok y → kl x = kl y → x = y) (hn : ok none_) : Reads kl ok none_ [] ((.map [] : DataW Unit).put (kl none_) (.lit (.int .i64 (-1)))) := by
  refine ⟨isMap_empty.put _ _, fun x hx => ?_, atKey_put_same isMap_empty (hk _ hn) _ _, fun i h => by simp at h, fun x hx => by simp at hx, by simp, hn⟩
  by_cases e : x = none_
  · subst e; rw [has_put_same isMap_empty (hk _ hn)]; simp
  · rw [has_put_other (fun h => e (hinj _ _ hx hn h))]; simp [e]; rfl
theorem Reads.put {kl : α → Lit} {ok : α → Prop} {none_ : α} {ts : List α} {D : DataW Unit} (h : Reads kl ok none_ ts D) (hk : ∀ x, ok x → WideAt.IsKeyLit (kl x)) (hinj : ∀ x y, ok x → ok y → kl x = kl y → x = y) {x : α} (hx : ok x) (hn : x ≠ none_) (hm : x ∉ ts) : Reads kl ok none_ (ts ++ [x]) (D.put (kl x) (.lit (.int .i64 (ts.length : Int)))) := by
  refine ⟨h.map.put _ _, fun y hy => ?_, ?_, fun i hi => ?_, fun y hy => ?_, ?_, h.okn⟩
  · by_cases e : y = x
    · subst e; rw [has_put_same h.map (hk _ hx)]; simp
    · rw [has_put_other (fun h => e (hinj _ _ hy hx h)), h.has y hy]; simp [e]
  · rw [atKey_put_other (fun e => hn (hinj _ _ hx h.okn e.symm))]; exact h.non
  · by_cases hlt : i < ts.length
    · have e : (ts ++ [x])[i] = ts[i] := List.getElem_append_left hlt
      rw [e, atKey_put_other (fun e2 => hm ((hinj _ _ (h.oks _ (List.getElem_mem hlt)) hx e2) ▸ List.getElem_mem hlt))]
      exact h.at_ i hlt
    · have hi' : i = ts.length := by simp at hi; omega
      subst hi'
      have e : (ts ++ [x])[ts.length] = x := by simp
      rw [e, atKey_put_same h.map (hk _ hx)]
  · rw [List.mem_append, List.mem_singleton] at hy
    rcases hy with hy | hy
    · exact h.oks y hy
    · subst hy; exact hx
  · rw [List.mem_append, List.mem_singleton]
    rintro (h2 | h2)
    · exact h.nin h2
    · exact hn h2.symm
structure FT (α : Type) where
  fty : TypeId
  e : TypeId
  k : TypeId
  sz : Nat
  f : α → List Value
/-- What is found, in the block fb; all lies in S. -/
structure Fnd (T : FT α) (kl : α → Lit) (ok : α → Prop) (none_ : α) (w : World) (S : Nat → Prop) (fb mb : Nat) (v : Value) (ts : List α) (D : DataW Unit) : Prop where
  out : Blk w fb T.fty #[.map (some mb), v]
  own : w.ownsMap Try.prog T.k (plainElem Try.prog 3) mb (ts.length + 1) D
  rd : Reads kl ok none_ ts D
  row : w.ownsRow 0 T.e T.sz v ts.length (ts.flatMap T.f)
  sf : S fb
  sm : S mb
  sv : ∀ g, v.ownBlock = some g → S g ∧ g ≠ fb ∧ g ≠ mb
  nm : fb ≠ mb
theorem ownsMap_heap {w w' : World} {k : TypeId} {R : Value → Option (DataW Unit × List MemPlace)} {b n : Nat} {D : DataW Unit} (h : w.ownsMap Try.prog k R b n D) (e : w'.heap[b]? = w.heap[b]?) : w'.ownsMap Try.prog k R b n D := by
  obtain ⟨es, clock, h1, h2, h3, h4⟩ := h
  exact ⟨es, clock, e.trans h1, h2, h3, h4⟩
theorem ownsMap_lt {w : World} {k : TypeId} {R : Value → Option (DataW Unit × List MemPlace)} {b n : Nat} {D : DataW Unit} (h : w.ownsMap Try.prog k R b n D) : b < w.heap.size := by
  obtain ⟨es, clock, h1, _⟩ := h
  exact lt_of_heap h1
variable {T : FT α} {kl : α → Lit} {ok : α → Prop} {none_ : α} {w w' : World} {S S' E : Nat → Prop} {fb mb : Nat} {v : Value} {ts : List α} {D : DataW Unit}
theorem Fnd.frm (h : Fnd T kl ok none_ w S fb mb v ts D) (F : Frm E w w') (hE : ∀ b, b < w.heap.size → S b → ¬ E b) : Fnd T kl ok none_ w' S fb mb v ts D :=
  ⟨F.blk h.out (hE _ h.out.lt h.sf), ownsMap_heap h.own (F.2 _ (ownsMap_lt h.own) (hE _ (ownsMap_lt h.own) h.sm)), h.rd, F.row h.row (fun g hg => hE g (World.ownsRow.lt h.row g hg).2 (h.sv g hg).1) (Nat.le_refl _), h.sf, h.sm, h.sv, h.nm⟩
theorem Fnd.mono (h : Fnd T kl ok none_ w S fb mb v ts D) (hS : ∀ b, b < w.heap.size → S b → S' b) : Fnd T kl ok none_ w S' fb mb v ts D :=
  ⟨h.out, h.own, h.rd, h.row, hS _ h.out.lt h.sf, hS _ (ownsMap_lt h.own) h.sm, fun g hg => ⟨hS _ (World.ownsRow.lt h.row g hg).2 (h.sv g hg).1, (h.sv g hg).2⟩, h.nm⟩
/-- A thing put in: the map turned to w1, then its number in the list's new row in w2, then the field. -/
theorem Fnd.add (h : Fnd T kl ok none_ w S fb mb v ts D) (hk : ∀ x, ok x → WideAt.IsKeyLit (kl x)) (hinj : ∀ x y, ok x → ok y → kl x = kl y → x = y) {x : α} (hx : ok x) (hn : x ≠ none_) (hm : x ∉ ts) {w1 W w2 : World} {v' : Value} {p : Nat}
    (ho1 : w1.ownsMap Try.prog T.k (plainElem Try.prog 3) mb (ts.length + 1 + 1) (D.put (kl x) (.lit (.int .i64 (ts.length : Int))))) (hg1 : w.grownBy w1 (some mb)) (hW : w1.grownBy W none) (ho2 : w2.ownsRow 0 T.e T.sz v' (ts.length + 1) (ts.flatMap T.f ++ T.f x)) (hg2 : W.grownBy w2 v.ownBlock) (hl : v'.ownBlock = v.ownBlock ∨ v'.ownBlock = some p) (hp : w.heap.size ≤ p) :
    Fnd T kl ok none_ (w2.setCell ⟨fb, 1, none⟩ v') (fun b => S b ∨ w.heap.size ≤ b) fb mb v' (ts ++ [x]) (D.put (kl x) (.lit (.int .i64 (ts.length : Int)))) ∧ Frm S w (w2.setCell ⟨fb, 1, none⟩ v') ∧ w2.cell? ⟨fb, 1, none⟩ = some v ∧ w2.frozen? ⟨fb, 1, none⟩ = false := by
  have F1 : Frm S w w1 := (Frm.refl S w).grown hg1 fun g e _ => by injection e with e; subst e; exact h.sm
  have F2 : Frm S w W := F1.grown hW fun g e _ => by cases e
  have F3 : Frm S w w2 := F2.grown hg2 fun g e _ => (h.sv g e.symm.symm).1
  have hb1 : Blk w1 fb T.fty #[.map (some mb), v] := h.out.grown hg1 fun e => by injection e with e; exact h.nm e
  have hb2 : Blk w2 fb T.fty #[.map (some mb), v] := (hb1.grown hW (fun e => by cases e)).grown hg2 fun e => (h.sv fb e.symm).2.1 rfl
  have hmb1 : mb < w1.heap.size := ownsMap_lt ho1
  have hmW : W.heap[mb]? = w1.heap[mb]? := hW.block mb hmb1 (fun e => by cases e)
  have hm2 : w2.heap[mb]? = W.heap[mb]? := hg2.block mb (Nat.lt_of_lt_of_le hmb1 hW.size) fun e => (h.sv mb e.symm).2.2 rfl
  have hnew : ∀ g, v'.ownBlock = some g → (S g ∨ w.heap.size ≤ g) ∧ g ≠ fb ∧ g ≠ mb := fun g hg => by
    rcases hl with e | e
    · rw [e] at hg
      exact ⟨.inl (h.sv g hg).1, (h.sv g hg).2⟩
    · rw [e] at hg
      injection hg with hg
      have := h.out.lt
      have := ownsMap_lt h.own
      exact ⟨.inr (by omega), by omega, by omega⟩
  refine ⟨⟨?_, ?_, h.rd.put hk hinj hx hn hm, ?_, .inl h.sf, .inl h.sm, hnew, h.nm⟩, F3.set_ (fun _ => h.sf) _, hb2.cell 1, hb2.frozen 1⟩
  · exact hb2.set_ 1 v'
  · rw [List.length_append]
    exact ownsMap_heap ho1 (by rw [Below.heap_setCell w2 ⟨fb, 1, none⟩ v' mb (fun e => h.nm e.symm), hm2, hmW])
  · rw [List.length_append, List.flatMap_append, show [x].flatMap T.f = T.f x by simp]
    refine ⟨ho2.1, ho2.2.imp id fun ⟨g', cap, cur, e', hbase, hx, h3⟩ => ⟨g', cap, cur, e', hbase, ?_, h3⟩⟩
    exact Blk.far (cs := cur) hx (hnew g' (by rw [e']; rfl)).2.1 v'
end
theorem law_int : Keyed Try.prog 3 := int_keyed Try.underlying3
theorem zero_int (w : World) : (zeroValue 3).run Try.prog w = .ok (.int .i64 0) w := by kernel_rfl
def fdT : FT Int := ⟨117, 3, 3, 1, fun x => [.int .i64 x]⟩
def okI (x : Int) : Prop := (Lit.int .i64 x).wf = true
def klI (x : Int) : Lit := .int .i64 x
theorem klI_key : ∀ x, okI x → WideAt.IsKeyLit (klI x) := fun _ hx => law_int.key (keyOf_int_mk Try.underlying3 hx)
theorem klI_inj : ∀ x y, okI x → okI y → klI x = klI y → x = y := fun x y _ _ h => by unfold klI at h; injection h
/-- What is found of ints. -/
def FdI (w : World) (S : Nat → Prop) (fb : Nat) (none_ : Int) (ts : List Int) : Prop := ∃ mb v D, Fnd fdT klI okI none_ w S fb mb v ts D
set_option maxRecDepth 100000 in
set_option maxHeartbeats 8000000 in
theorem numberI_any {w : World} {S : Nat → Prop} {fb : Nat} {none_ x : Int} {ts : List Int} (h : FdI w S fb none_ ts) (hx : okI x) (hl : ts.length ≤ 1000000000) :
    Calls Try.prog 75 #[.pointer (some ⟨fb, 0, none⟩), .int .i64 x] w fun e w' => e = .returned (.int .i64 (A.numO none_ x ts).1) ∧ FdI w' (fun b => S b ∨ w.heap.size ≤ b) fb none_ (A.numO none_ x ts).2 ∧ Frm S w w' := by
  obtain ⟨mb, v, D, h⟩ := h
  obtain ⟨A1, c1, rfl⟩ := own_form h.row
  have x0 := h.out.cell 0
  have x1 := h.out.cell 1
  have f1 := h.out.frozen 1
  have HF := Lib.hid h
  have hown := h.own
  have hkey := keyOf_int_mk Try.underlying3 hx
  have HH := Lib.hid (h.rd.has x hx)
  have HX := Lib.hid hx
  clear h hx
  go_enter Try.func75, Try.ntmps75
  by_cases hin : x = none_ ∨ x ∈ ts
  · have hh : Maps.has D (.int .i64 x) = true := by have h := HH.out; rw [decide_eq_true hin] at h; exact h
    have HN : Hid (∀ c : Int, D.atKey (.int .i64 x) (.lit (.int .i64 0)) = .lit (.int .i64 c) → A.numO none_ x ts = (c, ts)) := fun c hc => by
      unfold A.numO
      by_cases hxn : x = none_
      · rw [if_pos hxn]
        have := HF.out.rd.non
        rw [← hxn] at this
        have e : (DataW.lit (Lit.int .i64 (-1)) : DataW Unit) = .lit (.int .i64 c) := this.symm.trans hc
        injection e with e
        injection e with _ e
        rw [← e]
      · have hm : x ∈ ts := hin.resolve_left hxn
        rw [if_neg hxn, if_pos hm]
        have := HF.out.rd.at_ _ (A.idx_lt hm)
        rw [A.idx_get hm] at this
        have e : (DataW.lit (Lit.int .i64 (A.idx x ts : Int)) : DataW Unit) = .lit (.int .i64 c) := this.symm.trans hc
        injection e with e
        injection e with _ e
        rw [← e]
    clear hin
    go_wp2_with (at_lookup; refine wpList_lookup_own_ok_int _ rfl _ _ 115 rfl 3 3 .i64 law_int Try.underlying115 Try.underlying3 (zero_int _) mb _ D rfl hown _ _ rfl hkey ?_; intro c hat hwc)
    have HN2 := Lib.hid (HN.out c hat)
    clear hat hwc HN
    go_ret
    rw [HN2.out]
    exact ⟨rfl, ⟨mb, _, D, HF.out.mono fun _ _ h => .inl h⟩, Frm.refl _ _⟩
  · have hh : Maps.has D (.int .i64 x) = false := by have h := HH.out; rw [decide_eq_false hin] at h; exact h
    obtain ⟨hxn, hxm⟩ : x ≠ none_ ∧ x ∉ ts := ⟨fun e => hin (.inl e), fun e => hin (.inr e)⟩
    have HN : Hid (A.numO none_ x ts = ((ts.length : Int), ts ++ [x])) := show _ = _ by unfold A.numO; rw [if_neg hxn, if_neg hxm]
    have HXN := Lib.hid hxn
    have HXM := Lib.hid hxm
    have HNM := Lib.hid HF.out.nm
    obtain ⟨i0, hi0, hz0, hz1, hz2⟩ := info_parts info_int
    clear hin hxn hxm
    go_wp2_with (first | (at_lookup; refine wpList_lookup_own_ok_int _ rfl _ _ 115 rfl 3 3 .i64 law_int Try.underlying115 Try.underlying3 (zero_int _) mb _ D rfl hown _ _ rfl hkey ?_; intro c hat hwc; clear hat hwc) | (at_mapUpdate; refine wpList_mapUpdate_own _ rfl _ _ _ 115 rfl 3 3 law_int Try.underlying115 _ mb _ D rfl hown ?u1 _ _ _ rfl rfl hkey _ [] (plainElem_int Try.underlying3 ?u2) ?_))
    case u1 => unfold maxLen; omega
    case u2 => exact WalkArith.wf_i64 (by omega)
    intro w1 hown1 hgrow1
    have hb1 : Blk w1 fb 117 #[.map (some mb), .slice A1 ts.length c1] := HF.out.out.grown hgrow1 fun e => by injection e with e; exact HNM.out e
    have hr1 : w1.ownsRow 0 3 1 (.slice A1 ts.length c1) ts.length (ts.flatMap fdT.f) := World.ownsRow.kept HF.out.row hgrow1 (by
      cases hv : (Value.slice A1 ts.length c1).ownBlock with
      | none => exact .inl rfl
      | some g => exact .inr fun e => (HF.out.sv g hv).2.2 (by injection e))
    have HO1 := Lib.hid hown1
    have HG1 := Lib.hid hgrow1
    have HR1 := Lib.hid hr1
    have y1 := hb1.cell 1
    have hsz := hgrow1.size
    clear hown1 hgrow1 hb1 hr1 hown x0 x1 f1 hh
    go_wp2_with (at_builtin; refine wpList_append_own_at _ rfl _ _ 37 rfl 0 3 i0 (.int .i64 0) 1 8 Try.underlying37 hi0 hz0 hz1 hz2 rfl (by decide) _ _ _ rfl (HR1.out.alloc _) ⟨w1.heap.size, 0, none⟩ 1 1 [.int .i64 x] rfl rfl ?y1 ?y2 ?y3 ?y4 ?y5 ?_)
    case y1 => exact cell_one_at rfl
    case y2 => simp [Value.oneCell']
    case y3 => unfold maxLen; omega
    case y4 => omega
    case y5 => exact Nat.zero_le _
    intro v' w2 hown2 hgrow2 _ hat
    obtain ⟨A9, c9, rfl⟩ := own_form hown2
    obtain ⟨q1, q2, q3, q4⟩ := HF.out.add klI_key klI_inj HX.out HXN.out HXM.out HO1.out HG1.out (World.grownBy_alloc w1 _ none) hown2 hgrow2 hat (by first | omega | (simp; omega))
    have Q1 := Lib.hid q1
    have Q2 := Lib.hid q2
    clear q1 q2 hown2 hgrow2 hat y1 hsz
    go_wp2_with fail
    go_ret
    rw [HN.out]
    exact ⟨rfl, ⟨mb, _, _, Q1.out⟩, Q2.out⟩
end Go.Proofs.Ytldmjpnldgekaaa
end
section
namespace Go.Proofs.Ytldmjpnldgekaaa
open Go.RowKit Go.Maps
namespace A
variable {α : Type} [DecidableEq α]
/-- The row of a thing: the numbers of what its letters lead to; none if next is not known there, or more than most things are found. -/
def rowS (nx : α → Int → Option α) (none_ : α) (most : Int) (x : α) : List Nat → List α → List Int → Option (List α × List Int)
  | [], ts, row => some (ts, row)
  | k :: ks, ts, row => match nx x (k : Int) with
    | none => none
    | some y => if most < ((numO none_ y ts).2.length : Int) then none else rowS nx none_ most x ks (numO none_ y ts).2 (row ++ [(numO none_ y ts).1])
def srchO (nx : α → Int → Option α) (none_ : α) (L : Nat) (most : Int) : Nat → Nat → List α → List (List Int) → Option (List α × List (List Int))
  | f, at_, ts, rows => if h : at_ < ts.length then (match f with
    | 0 => none
    | n + 1 => match rowS nx none_ most ts[at_] (List.range L) ts [] with
      | none => none
      | some (ts', row) => srchO nx none_ L most n (at_ + 1) ts' (rows ++ [row])) else some (ts, rows)
/-- What Search finds, where it does not give up: the things, and the rows. -/
def searchO (nx : α → Int → Option α) (f : Nat) (first none_ : α) (L : Nat) (most : Int) : Option (List α × List (List Int)) := srchO nx none_ L most f 0 (numO none_ first []).2 []
end A
/-- The rows found so far: an own row of slices, each with a block of its own, none in S. -/
def RowsOwn (w : World) (base L : Nat) (S : Nat → Prop) (u : Value) (rows : List (List Int)) : Prop := ∃ gs : List Nat, gs.length = rows.length ∧ w.ownsRow base 37 1 u rows.length (gs.map fun g => Value.slice (some ⟨g, 0, none⟩) L L) ∧ (∀ g, u.ownBlock = some g → ¬ S g) ∧ ∀ i (h : i < rows.length) (h' : i < gs.length), Blk w gs[i] 3 (intCs rows[i]) ∧ rows[i].length = L ∧ base ≤ gs[i] ∧ ¬ S gs[i] ∧ u.ownBlock ≠ some gs[i]
theorem RowsOwn.frm {w w' : World} {base L : Nat} {S E S' : Nat → Prop} {u : Value} {rows : List (List Int)} (h : RowsOwn w base L S u rows) (F : Frm E w w') (hE : ∀ b, b < w.heap.size → E b → S b) (hS : ∀ b, b < w.heap.size → S' b → S b) : RowsOwn w' base L S' u rows := by
  obtain ⟨gs, h1, h2, h3, h4⟩ := h
  refine ⟨gs, h1, F.row h2 (fun g hg he => h3 g hg (hE g (World.ownsRow.lt h2 g hg).2 he)) (Nat.le_refl _), fun g hg hs => h3 g hg (hS g (World.ownsRow.lt h2 g hg).2 hs), fun i hi hi' => ?_⟩
  obtain ⟨k1, k2, k3, k4, k5⟩ := h4 i hi hi'
  exact ⟨F.blk k1 fun he => k4 (hE _ k1.lt he), k2, k3, fun hs => k4 (hS _ k1.lt hs), k5⟩
theorem RowsOwn.rows2 {w : World} {base L : Nat} {S : Nat → Prop} {u : Value} {rows : List (List Int)} (h : RowsOwn w base L S u rows) : Rows2 w (fun b => base ≤ b) u rows := by
  obtain ⟨gs, h1, h2, h3, h4⟩ := h
  obtain ⟨A0, c, rfl⟩ := own_form h2
  refine ⟨A0, c, rfl, fun k hk => ?_⟩
  have hk' : k < gs.length := by omega
  obtain ⟨k1, k2, k3, k4, k5⟩ := h4 k hk hk'
  rcases h2.2 with ⟨_, hn⟩ | ⟨g, cap, cur, e, hb, _⟩
  · omega
  · injection e with e1 e2 e3
    subst e1
    have hc := @World.ownsRow.cells _ _ _ _ _ _ _ h2 g rfl k (.slice (some ⟨gs[k], 0, none⟩) L L) (by simp [hk'])
    rw [add_zero_off] at hc
    refine ⟨g, 0, _, rfl, hb, by rw [Nat.zero_add]; exact hc, some ⟨gs[k], 0, none⟩, L, by rw [k2], fun j hj => ⟨gs[k], 0, rfl, k3, ?_⟩⟩
    rw [Nat.zero_add, k1.cell j]
    exact intCs_get hj
theorem RowsOwn.push {w w1 : World} {base L rb m : Nat} {S : Nat → Prop} {u v' : Value} {rows : List (List Int)} {row : List Int} (h : RowsOwn w base L (fun b => S b ∨ b = rb) u rows) (hb : Blk w rb 3 (intCs row)) (hrl : row.length = L) (hrb : base ≤ rb) (hs : ¬ S rb) (F : Frm (fun b => u.ownBlock = some b) w w1) (ho : w1.ownsRow base 37 1 v' (rows.length + 1) ((h.choose.map fun g => Value.slice (some ⟨g, 0, none⟩) L L) ++ [.slice (some ⟨rb, 0, none⟩) L L])) (hl : v'.ownBlock = u.ownBlock ∨ v'.ownBlock = some m) (hm : w.heap.size ≤ m) (hS : ∀ b, S b → b < w.heap.size) : RowsOwn w1 base L S v' (rows ++ [row]) := by
  obtain ⟨h1, h2, h3, h4⟩ := h.choose_spec
  generalize h.choose = gs at *
  have hub : ∀ g, v'.ownBlock = some g → u.ownBlock = some g ∨ g = m := fun g hg => by
    rcases hl with e | e
    · rw [e] at hg; exact .inl hg
    · rw [e] at hg; injection hg with hg; exact .inr hg.symm
  refine ⟨gs ++ [rb], by simp [h1], ?_, fun g hg hsg => ?_, fun i hi hi' => ?_⟩
  · rw [List.length_append, List.map_append]; exact ho
  · rcases hub g hg with e | e
    · exact h3 g e (.inl hsg)
    · have := hS g hsg; omega
  · by_cases hlt : i < rows.length
    · have hlt' : i < gs.length := by omega
      obtain ⟨k1, k2, k3, k4, k5⟩ := h4 i hlt hlt'
      rw [List.getElem_append_left hlt, List.getElem_append_left hlt']
      refine ⟨F.blk k1 (fun e => k5 e), k2, k3, fun hs => k4 (.inl hs), fun e => ?_⟩
      rcases hub _ e with e | e
      · exact k5 e
      · have := k1.lt; omega
    · have e : i = rows.length := by simp at hi; omega
      subst e
      have e2 : (rows ++ [row])[rows.length] = row := by simp
      have e3 : (gs ++ [rb])[rows.length]'(by simp [h1]) = rb := by simp [← h1]
      rw [e2, e3]
      refine ⟨F.blk hb (fun e => h3 rb e (.inr rfl)), hrl, hrb, hs, fun e => ?_⟩
      rcases hub _ e with e | e
      · exact h3 rb e (.inr rfl)
      · have := hb.lt; omega
theorem info_sInt : (Try.prog.info? 37).map (fun i => (i.zero, i.size, i.bytes)) = some (some (.slice none 0 0), 1, 24) := by kernel_rfl
/-- A map literal's entry: as a store. -/
theorem wpList_insert_own {H : Type} {P : Program} (w : World) {ops : Array Oper} {rest : List Oper} {o : Oper} {a : Act} {Q : Exit → Act → World → Prop}
    (hg : o.guard = none) (m x v : Operand) (t : TypeId) (hop : o.op = Op.insert t m x v)
    (k e : TypeId) (K : Keyed P k) (ht : P.underlying t = some (.map k e)) (R : Value → Option (DataW H × List MemPlace)) (b n : Nat) (D : DataW H)
    (hm : a.eval m = .map (some b)) (hown : w.ownsMap P k R b n D) (hn : n < maxLen) (key val : Value) (kl : Lit) (hx : a.eval x = key) (hv : a.eval v = val) (hkey : keyOf P k key = some kl)
    (d : DataW H) (ps : List MemPlace) (hval : R val = some (d, ps))
    (hK : ∀ w', w'.ownsMap P k R b (n + 1) (D.put kl d) → w.grownBy w' (some b) → wpList P ops Q rest (a.put o.dst undef) w') :
    wpList P ops Q (o :: rest) a w := by
  refine wpList_plain hg fun K' hK' => ?_
  obtain ⟨w', hrun, r1, r2⟩ := hown.update K ht hn hkey hval
  unfold Oper.wp
  simp [execOp, hop, hm, hx, hv, hrun, Result.andThen]
  exact hK' _ _ (hK w' r1 r2)
set_option maxRecDepth 100000 in
set_option maxHeartbeats 16000000 in
theorem searchI_any {w : World} {nx : Int → Int → Option Int} {p1 p2 : Value} {f L : Nat} {first none_ most : Int} {ts : List Int} {rows : List (List Int)} (hnx : ∀ (x k y : Int) (W : World), nx x k = some y → Frm (fun _ => False) w W → okI y ∧ Calls Try.prog 55 #[.int .i64 x, .int .i64 k, p1, p2] W fun e w' => e = .returned (.int .i64 y) ∧ Frm (fun _ => False) W w') (hf : okI first) (hn : okI none_) (hL : L ≤ 300) (hfl : f ≤ 100000000) (hmost : most ≤ 1000000) (hs : A.searchO nx f first none_ L most = some (ts, rows)) :
    Calls Try.prog 54 #[.int .i64 first, .int .i64 none_, .int .i64 L, .int .i64 most, .func (.func 55) #[] #[p1, p2]] w fun e w' => ∃ uT uR, e = .returned (.tuple #[uT, uR, .bool true]) ∧ OwnInts w' w.heap.size uT ts ∧ Rows2 w' (fun b => w.heap.size ≤ b) uR rows ∧ Frm (fun _ => False) w w' := by
  have HNX := Lib.hid hnx
  have HS := Lib.hid hs
  have HF := Lib.hid hf
  have HN := Lib.hid hn
  have hmm := @run_makeMap Try.prog
  clear hnx hs hf hn
  go_enter Try.func54, Try.ntmps54
  have hkey0 := keyOf_int_mk Try.underlying3 HN.out
  have hm0 : (w.alloc (.map #[] 0)).ownsMap (H := Unit) Try.prog 3 (plainElem Try.prog 3) w.heap.size 0 (.map []) := World.ownsMap_made _ _ _ _
  go_wp2_with fail
  try go_step3
  go_wp2_with (refine wpList_insert_own _ rfl _ _ _ 115 rfl 3 3 law_int Try.underlying115 _ w.heap.size _ _ rfl hm0 (by decide) _ _ _ rfl rfl hkey0 _ [] (plainElem_int Try.underlying3 (by decide)) ?_; intro w1 hown1 hgrow1)
  have F0 : Frm (fun _ => False) w (w.alloc (.map #[] 0)) := (Frm.refl _ w).alloc _
  have F1 : Frm (fun _ => False) w w1 := F0.grown hgrow1 fun g e hlt => by injection e with e; omega
  have hsz1 := hgrow1.size
  have hs0 : (w.alloc (.map #[] 0)).heap.size = w.heap.size + 1 := by simp
  rw [hs0] at hsz1
  have HFD0 : Hid (FdI (w1.alloc (.cells #[.map (some w.heap.size), .slice none 0 0] 117)) (fun b => w.heap.size ≤ b ∧ b < w1.heap.size + 1) w1.heap.size none_ []) := by
    refine ⟨w.heap.size, _, _, Blk.new w1 _ _, ownsMap_heap hown1 (Below.heap_alloc w1 _ _ (by omega)), Reads.new klI_key klI_inj HN.out, World.ownsRow_nil _ _ _ _, ⟨by omega, by omega⟩, ⟨by omega, by omega⟩, fun g hg => (by cases hg), by omega⟩
  have HF0 : Hid (Frm (fun _ => False) w (w1.alloc (.cells #[.map (some w.heap.size), .slice none 0 0] 117))) := F1.alloc _
  obtain ⟨fb, hfb⟩ : ∃ fb, fb = w1.heap.size := ⟨_, rfl⟩
  have HSZ1 : Hid (w.heap.size ≤ fb) := show _ ≤ _ by omega
  rw [← hfb] at HFD0 ⊢
  clear F0 F1 hsz1 hs0 hown1 hgrow1 hm0 hmm hkey0
  refine (numberI_any HFD0.out HF.out (by simp)).mono ?_
  rintro _ w2 ⟨rfl, q2, f2⟩
  have hF2 : Frm (fun _ => False) w w2 := Frm.mono (E := fun b => w.heap.size ≤ b) ((HF0.out.mono fun _ _ h => h.elim).trans (f2.mono fun b _ h => h.1)) fun b hb h => by omega
  have HF2 := Lib.hid hF2
  have HFD2 : Hid (FdI w2 (fun b => w.heap.size ≤ b ∧ b < w2.heap.size) fb none_ (A.numO none_ first []).2) := by
    obtain ⟨mb, v, D, h⟩ := q2
    exact ⟨mb, v, D, h.mono fun b hb hs => ⟨by rcases hs with hs | hs; exact hs.1; exact Nat.le_trans HF0.out.1 hs, hb⟩⟩
  have HSR : Hid (A.srchO nx none_ L most f 0 (A.numO none_ first []).2 [] = some (ts, rows)) := HS
  have HTL2 : Hid ((A.numO none_ first []).2.length ≤ 1000001) := show _ ≤ _ by unfold A.numO; split <;> simp
  generalize (A.numO none_ first []).1 = n1 at *
  generalize (A.numO none_ first []).2 = ts1 at *
  clear q2 f2 hF2 HS HF0 HFD0 hfb
  go_wp2_with fail
  try go_step3
  go_wp2_with fail
  obtain ⟨S0, hS0⟩ : ∃ S0 : Nat → Prop, S0 = fun b => w.heap.size ≤ b ∧ b < w2.heap.size := ⟨_, rfl⟩
  rw [← hS0] at HFD2
  have HSS0 : Hid (∀ b, S0 b → w.heap.size ≤ b ∧ b < w2.heap.size) := by rw [hS0]; exact fun b h => h
  have HRW0 : Hid (RowsOwn w2 w.heap.size L S0 (.slice none 0 0) []) := ⟨[], rfl, World.ownsRow_nil _ _ _ _, fun g hg => (by cases hg), fun i hi => by simp at hi⟩
  clear hS0
  go_loopg [14, 15] f (fun n u i wr => ∃ (at_ : Nat) (tk : List Int) (rk : List (List Int)) (Sk : Nat → Prop), i = .int .i64 (at_ : Int) ∧ at_ + n ≤ f ∧ rk.length = at_ ∧ Hid (at_ ≤ tk.length) ∧ Hid (tk.length ≤ 1000001) ∧ Hid (A.srchO nx none_ L most n at_ tk rk = some (ts, rows)) ∧ Hid (FdI wr Sk fb none_ tk) ∧ Hid (RowsOwn wr w.heap.size L Sk u rk) ∧ Hid (∀ b, Sk b → w.heap.size ≤ b ∧ b < wr.heap.size) ∧ Hid (Frm (fun _ => False) w wr))
  case atStart => exact ⟨0, ts1, [], S0, rfl, by omega, rfl, Nat.zero_le _, HTL2, HSR, HFD2, HRW0, HSS0, HF2⟩
  case round =>
    clear HTL2 HSR HFD2 HRW0 HSS0 HF2
    obtain ⟨at_, tk, rk, Sk, rfl, hat, hrk, HLE, HTL, HSR, HFD, HRW, HSS, HF⟩ := hrel
    obtain ⟨mb, vT, D, hFd⟩ := HFD.out
    obtain ⟨AT, cT, rfl⟩ := own_form hFd.row
    have x1 := hFd.out.cell 1
    have hrow := hFd.row
    have hsr := HSR.out
    unfold A.srchO at hsr
    by_cases hlt : at_ < tk.length
    · rw [dif_pos hlt] at hsr
      have hlt' : (at_ : Int) < (tk.length : Int) := by omega
      cases gk with
      | zero => cases hsr
      | succ n =>
      dsimp only at hsr
      cases hrs : A.rowS nx none_ most (tk[at_]'hlt) (List.range L) tk [] with
      | none => rw [hrs] at hsr; cases hsr
      | some rr =>
      obtain ⟨ts2, row⟩ := rr
      rw [hrs] at hsr
      dsimp only at hsr
      have HS2 := Lib.hid hsr
      obtain ⟨x, hx⟩ : ∃ x, x = tk[at_]'hlt := ⟨_, rfl⟩
      rw [← hx] at hrs
      have HRS : Hid (A.rowS nx none_ most x ((List.range L).drop 0) tk [] = some (ts2, row)) := hrs
      have HXA : Hid (tk[at_]? = some x) := by rw [hx]; exact List.getElem?_eq_getElem hlt
      have hmk := run_make_row' (P := Try.prog) 37 3 (.int .i64 0) 8 Try.underlying37 info_int rfl .i64 .i64 L (by omega) (by omega)
      clear hsr hrs hx hFd hrow HSR
      go_wp2_with fail
      have HXT := Lib.hid hlt
      obtain ⟨rb, hrb⟩ : ∃ rb, rb = wr.heap.size := ⟨_, rfl⟩
      have HB0 : Hid (Blk (wr.alloc (.cells (madeCells #[.int .i64 0] L) 3)) rb 3 (intCs ([] ++ List.replicate (L - 0) 0))) := by
        rw [List.nil_append, Nat.sub_zero, ← intCs_made, hrb]; exact Blk.new wr _ _
      have HFD0 : Hid (FdI (wr.alloc (.cells (madeCells #[.int .i64 0] L) 3)) Sk fb none_ tk) := by
        obtain ⟨a1, a2, a3, a4⟩ := HFD.out
        exact ⟨a1, a2, a3, a4.frm ((Frm.refl (fun _ => False) wr).alloc _) fun _ _ _ h => h⟩
      have HRW0 : Hid (RowsOwn (wr.alloc (.cells (madeCells #[.int .i64 0] L) 3)) w.heap.size L (fun b => Sk b ∨ b = rb) u14 rk) := HRW.out.frm ((Frm.refl (fun _ => False) wr).alloc _) (fun _ _ h => h.elim) fun b hb h => by
        rcases h with h | h
        · exact h
        · omega
      have HSS0 : Hid (∀ b, Sk b → w.heap.size ≤ b ∧ b < (wr.alloc (.cells (madeCells #[.int .i64 0] L) 3)).heap.size) := fun b h => by
        have := HSS.out b h
        simp; omega
      have HNS : Hid (¬ Sk rb) := fun h => by have := HSS.out rb h; omega
      have HRB : Hid (w.heap.size ≤ rb) := show _ ≤ _ by rw [hrb]; exact HF.out.1
      have HF0 : Hid (Frm (fun _ => False) w (wr.alloc (.cells (madeCells #[.int .i64 0] L) 3))) := HF.out.alloc _
      have HUB : Hid (u14.ownBlock ≠ some rb) := fun e => by
        obtain ⟨gs, h1, h2, _⟩ := HRW.out
        have := (World.ownsRow.lt h2 rb e).2
        omega
      rw [← hrb]
      clear hrb HFD HRW HSS HF hmk x1
      generalize (wr.alloc (.cells (madeCells #[.int .i64 0] L) 3)) = wo at *
      clear wr
      go_loopg [38] L (fun n u wr => ∃ (j : Nat) (tj : List Int) (rj : List Int) (Sj : Nat → Prop), u = .int .i64 (j : Int) ∧ j + n = L ∧ Hid (rj.length = j) ∧ Hid (tj.length ≤ 1000001) ∧ Hid (A.rowS nx none_ most x ((List.range L).drop j) tj rj = some (ts2, row)) ∧ Hid (tj[at_]? = some x) ∧ Hid (Blk wr rb 3 (intCs (rj ++ List.replicate (L - j) 0))) ∧ Hid (FdI wr Sj fb none_ tj) ∧ Hid (RowsOwn wr w.heap.size L (fun b => Sj b ∨ b = rb) u14 rk) ∧ Hid (∀ b, Sj b → w.heap.size ≤ b ∧ b < wr.heap.size) ∧ Hid (¬ Sj rb) ∧ Hid (Frm (fun _ => False) w wr))
      case atStart => exact ⟨0, tk, [], Sk, rfl, by omega, rfl, HTL, HRS, HXA, HB0, HFD0, HRW0, HSS0, HNS, HF0⟩
      case round =>
        clear HTL HRS HXA HB0 HFD0 HRW0 HSS0 HNS HF0
        obtain ⟨j, tj, rj, Sj, rfl, hjn, HJL, HTL, HRS, HXA, HB, HFD, HRW, HSS, HNS, HF⟩ := hrel
        obtain ⟨mb2, vT2, D2, hFd⟩ := HFD.out
        obtain ⟨A2, c2, rfl⟩ := own_form hFd.row
        by_cases hj : j < L
        · have hj' : (j : Int) < (L : Int) := by omega
          have hlt2 : at_ < tj.length := by
            obtain ⟨h, _⟩ := List.getElem?_eq_some_iff.1 HXA.out
            exact h
          have hlt3 : (at_ : Int) < (tj.length : Int) := by omega
          have x1 := hFd.out.cell 1
          obtain ⟨g, hA2, hc⟩ : ∃ g, A2 = some ⟨g, 0, none⟩ ∧ wr.cell? ⟨g, at_, none⟩ = some (.int .i64 x) := by
            rcases hFd.row.2 with ⟨_, hn⟩ | ⟨g, cap, cur, e, hb, _⟩
            · exact absurd hn (by omega)
            · injection e with e1 e2 e3
              subst e1
              refine ⟨g, rfl, ?_⟩
              have hc := @World.ownsRow.cells _ _ _ _ _ _ _ hFd.row g rfl at_ (.int .i64 x) (by simp [fdT, ← List.map_eq_flatMap, HXA.out])
              rw [add_zero_off] at hc
              exact hc
          subst hA2
          have hd : (List.range L).drop j = j :: (List.range L).drop (j + 1) := by
            rw [List.drop_eq_getElem_cons (by simp; omega)]; simp
          have hrs := HRS.out
          rw [hd] at hrs
          unfold A.rowS at hrs
          cases hy : nx x (j : Int) with
          | none => rw [hy] at hrs; cases hrs
          | some y =>
          rw [hy] at hrs
          dsimp only at hrs
          by_cases hmo : most < ((A.numO none_ y tj).2.length : Int)
          · rw [if_pos hmo] at hrs; cases hrs
          rw [if_neg hmo] at hrs
          have HR2 := Lib.hid hrs
          obtain ⟨hoky, hcall⟩ := HNX.out x j y wr hy HF.out
          have HY := Lib.hid hoky
          have HC := Lib.hid hcall
          have HD := Lib.hid hd
          have HM := Lib.hid hmo
          clear hd hrs hoky hcall hmo HRS
          have cb := HB.out.cell j
          go_wp2_with fail
          refine HC.out.mono ?_
          rintro _ w3 ⟨rfl, f3⟩
          have HF3 : Hid (Frm (fun _ => False) w w3) := HF.out.trans f3
          have HFD3 : Hid (FdI w3 Sj fb none_ tj) := ⟨mb2, _, D2, hFd.frm f3 fun _ _ _ h => h⟩
          have HB3 : Hid (Blk w3 rb 3 (intCs (rj ++ List.replicate (L - j) 0))) := f3.blk HB.out id
          have HRW3 : Hid (RowsOwn w3 w.heap.size L (fun b => Sj b ∨ b = rb) u14 rk) := HRW.out.frm f3 (fun _ _ h => h.elim) fun _ _ h => h
          have HSS3 : Hid (∀ b, Sj b → w.heap.size ≤ b ∧ b < w3.heap.size) := fun b h => ⟨(HSS.out b h).1, Nat.lt_of_lt_of_le (HSS.out b h).2 f3.1⟩
          have HRB3 : Hid (rb < w3.heap.size) := HB3.out.lt
          clear f3 HF HFD HB HRW HSS HC hFd x1 cb hc
          go_wp2_with fail
          refine (numberI_any HFD3.out HY.out (by have := HTL.out; omega)).mono ?_
          rintro _ w4 ⟨rfl, q4, f4⟩
          have HF4 : Hid (Frm (fun _ => False) w w4) := Frm.mono (E := fun b => w.heap.size ≤ b) ((HF3.out.mono fun _ _ h => h.elim).trans (f4.mono fun b _ h => (HSS3.out b h).1)) fun b hb h => by omega
          have HB4 : Hid (Blk w4 rb 3 (intCs (rj ++ List.replicate (L - j) 0))) := f4.blk HB3.out HNS.out
          have HFD4 : Hid (FdI w4 (fun b => Sj b ∨ w3.heap.size ≤ b) fb none_ (A.numO none_ y tj).2) := q4
          have HRW4 : Hid (RowsOwn w4 w.heap.size L (fun b => (Sj b ∨ w3.heap.size ≤ b) ∨ b = rb) u14 rk) := HRW3.out.frm f4 (fun _ _ h => .inl h) fun b hb h => by
            rcases h with (h | h) | h
            · exact .inl h
            · omega
            · exact .inr h
          have HTL4 : Hid ((A.numO none_ y tj).2.length ≤ 1000001) := show _ ≤ _ by have := HM.out; omega
          have HXA4 : Hid ((A.numO none_ y tj).2[at_]? = some x) := show _ = _ by
            have h1 := HXA.out
            unfold A.numO
            split
            · exact h1
            · split
              · exact h1
              · rw [List.getElem?_append_left hlt2]; exact h1
          generalize (A.numO none_ y tj).1 = n2 at *
          generalize (A.numO none_ y tj).2 = t2 at *
          clear f4 q4 HF3 HFD3 HB3 HRW3 HTL HXA hlt3
          have cb := HB4.out.cell j
          have fb4 := HB4.out.frozen j
          have HIJ : (intCs (rj ++ List.replicate (L - j) 0))[j]? = some (.int .i64 0) := by
            have hl := HJL.out
            rw [intCs_getD (by simp; omega)]
            simp [List.getD, hl, List.getElem?_append, List.getElem?_replicate]
            rw [if_pos (by omega)]; rfl
          rw [HIJ] at cb
          clear HIJ
          have HNS4 : Hid (¬ (Sj rb ∨ w3.heap.size ≤ rb)) := fun h => by
            have := HRB3.out
            rcases h with h | h
            · exact HNS.out h
            · omega
          obtain ⟨mb4, v4, D4, hF4⟩ := HFD4.out
          obtain ⟨A4, c4, rfl⟩ := own_form hF4.row
          have hne : fb ≠ rb := fun e => HNS4.out (e ▸ hF4.sf)
          have x4 := (hF4.out.far (p := ⟨rb, j, none⟩) hne (.int .i64 n2)).cell 1
          have HF5 : Hid (Frm (fun _ => False) w (w4.setCell ⟨rb, j, none⟩ (.int .i64 n2))) := HF4.out.set_ (p := ⟨rb, j, none⟩) (fun h => by have := HRB.out; simp at h; omega) _
          have f5 : Frm (fun b => b = rb) w4 (w4.setCell ⟨rb, j, none⟩ (.int .i64 n2)) := (Frm.refl (fun b => b = rb) w4).set_ (p := ⟨rb, j, none⟩) (fun _ => rfl) _
          have HFD5 : Hid (FdI (w4.setCell ⟨rb, j, none⟩ (.int .i64 n2)) (fun b => (Sj b ∨ w3.heap.size ≤ b) ∧ b < w4.heap.size) fb none_ t2) := ⟨mb4, _, D4, (hF4.mono (S' := fun b => (Sj b ∨ w3.heap.size ≤ b) ∧ b < w4.heap.size) fun b hb h => ⟨h, hb⟩).frm f5 fun b _ h e => HNS4.out (e ▸ h.1)⟩
          have HRW5 : Hid (RowsOwn (w4.setCell ⟨rb, j, none⟩ (.int .i64 n2)) w.heap.size L (fun b => ((Sj b ∨ w3.heap.size ≤ b) ∧ b < w4.heap.size) ∨ b = rb) u14 rk) := HRW4.out.frm f5 (fun _ _ h => .inr h) fun b _ h => h.imp (·.1) id
          have HB5 : Hid (Blk (w4.setCell ⟨rb, j, none⟩ (.int .i64 n2)) rb 3 (intCs ((rj ++ [n2]) ++ List.replicate (L - (j + 1)) 0))) := show Blk _ _ _ _ by
            have := HB4.out.set_ j (.int .i64 n2)
            rw [intCs_set] at this
            have e : (rj ++ List.replicate (L - j) 0).set j n2 = (rj ++ [n2]) ++ List.replicate (L - (j + 1)) 0 := by
              have hl := HJL.out
              rw [List.set_append, if_neg (by omega), hl, Nat.sub_self, show L - j = (L - (j + 1)) + 1 by omega, List.replicate_succ]
              simp
            rw [e] at this
            exact this
          have HS5 : Hid ((w4.setCell ⟨rb, j, none⟩ (.int .i64 n2)).heap.size = w4.heap.size) := show _ = _ by simp [World.setCell]
          have hmo : ¬ most < (t2.length : Int) := by have := HM.out; omega
          have HW3 : Hid (w.heap.size ≤ w3.heap.size) := show _ ≤ _ by have := HRB3.out; have := HRB.out; omega
          clear HF4 HFD4 HRW4 HB4 hF4 f5
          cases gk with
          | zero => omega
          | succ m =>
          go_wp2_with fail
          go_roundg m
          refine ⟨j + 1, t2, rj ++ [n2], _, rfl, by omega, (show _ = _ by simp [HJL.out]), HTL4, HR2, HXA4, HB5, HFD5, HRW5, ?_, ?_, HF5⟩
          · refine fun b h => ?_
            have := HS5.out
            have := HW3.out
            rcases h with ⟨h | h, h2⟩
            · have := HSS3.out b h; omega
            · omega
          · exact fun h => HNS4.out h.1
          all_goals omega
        · have e : L = j := by omega
          subst e
          have hrs := HRS.out
          rw [show (List.range L).drop L = [] by simp] at hrs
          obtain ⟨e1, e2⟩ : ts2 = tj ∧ row = rj := by
            unfold A.rowS at hrs
            injection hrs with hrs
            exact ⟨(congrArg Prod.fst hrs).symm, (congrArg Prod.snd hrs).symm⟩
          subst e1 e2
          have HRN : Hid (row.length = L) := HJL
          have HBB : Hid (Blk wr rb 3 (intCs row)) := show Blk _ _ _ _ by have := HB.out; rw [Nat.sub_self] at this; simpa using this
          clear HB hrs HRS
          obtain ⟨A14, c14, rfl⟩ := own_form HRW.out.choose_spec.2.1
          obtain ⟨gs, hgs⟩ : ∃ gs, gs = HRW.out.choose := ⟨_, rfl⟩
          have HO := Lib.hid HRW.out.choose_spec.2.1
          rw [← hgs] at HO
          have HGS := Lib.hid hgs
          clear hgs
          have HRK : Hid (rk.length + 1 ≤ 100000000) := show _ ≤ _ by omega
          have HKL := Lib.hid hrk
          clear hrk
          obtain ⟨i0, hi0, hz0, hz1, hz2⟩ := info_parts info_sInt
          go_wp2_with (at_builtin; refine wpList_append_own_at _ rfl _ _ 22 rfl w.heap.size 37 i0 (.slice none 0 0) 1 24 Try.underlying22 hi0 hz0 hz1 hz2 rfl (by decide) _ _ _ rfl (HO.out.alloc _) ⟨wr.heap.size, 0, none⟩ 1 1 [.slice (some ⟨rb, 0, none⟩) L L] rfl rfl (cell_one_at rfl) (by simp [Value.oneCell']) (by have := HRK.out; unfold maxLen; omega) (by have := HRK.out; omega) (by have := HF.out.1; simp; omega) ?_)
          intro v' w4 hown1 hgrow _ hat4
          have f4 : Frm (fun b => (Value.slice A14 rk.length c14).ownBlock = some b) wr w4 := ((Frm.refl _ wr).alloc _).grown hgrow fun g hg _ => hg
          have HR4 : Hid (RowsOwn w4 w.heap.size L Sj v' (rk ++ [row])) := HRW.out.push HBB.out HRN.out HRB.out HNS.out f4 (HGS.out ▸ hown1) hat4 (by simp) fun b hb => (HSS.out b hb).2
          have HFD4 : Hid (FdI w4 Sj fb none_ ts2) := ⟨mb2, _, D2, hFd.frm f4 fun b _ hs e => by
            obtain ⟨gs, _, _, h3, _⟩ := HRW.out
            exact h3 b e (.inl hs)⟩
          have HSS4 : Hid (∀ b, Sj b → w.heap.size ≤ b ∧ b < w4.heap.size) := fun b hb => ⟨(HSS.out b hb).1, Nat.lt_of_lt_of_le (HSS.out b hb).2 f4.1⟩
          have HF4 : Hid (Frm (fun _ => False) w w4) := Frm.mono (E := fun b => w.heap.size ≤ b) ((HF.out.mono fun _ _ h => h.elim).trans (f4.mono fun b _ h => (World.ownsRow.lt HO.out b h).1)) fun b hb h => by omega
          obtain ⟨A5, c5, rfl⟩ := own_form hown1
          clear f4 hown1 hgrow hat4 hi0 hz0 hz1 hz2 HO hFd HGS HRW HFD
          have HLE4 : Hid (at_ + 1 ≤ ts2.length) := (List.getElem?_eq_some_iff.1 HXA.out).1
          go_wp2_with fail
          go_roundg n
          refine ⟨at_ + 1, ts2, rk ++ [row], Sj, by go_num, by omega, by simp [HKL.out], HLE4, HTL, HS2, HFD4, ?_, HSS4, HF4⟩
          all_goals (first | omega | exact HR4 | skip)
    · rw [dif_neg hlt] at hsr
      injection hsr with hsr
      obtain ⟨e1, e2⟩ : ts = tk ∧ rows = rk := ⟨(congrArg Prod.fst hsr).symm, (congrArg Prod.snd hsr).symm⟩
      subst e1 e2
      have hlt' : ¬ (at_ : Int) < (ts.length : Int) := by omega
      have hrl : rows.length = ts.length := by have := HLE.out; omega
      have hal : at_ = ts.length := by have := HLE.out; omega
      have HR := HRW.out
      obtain ⟨A14, c14, rfl⟩ := own_form HR.choose_spec.2.1
      have HRR : Hid (RowsOwn wr w.heap.size L Sk (.slice A14 ts.length c14) rows) := by rw [← hrl]; exact HRW.out
      rw [hrl]
      have HFF := Lib.hid hFd
      clear HR HRW hsr hrow hFd hrk hrl HSR
      subst hal
      go_wp2_with fail
      clear hlt hlt' hat HLE HFD HNX
      go_quiet (fail)
      go_wp2
      try rw [Exit.noGoto_ret]
      refine bodyPost_ret (v := .tuple #[.slice AT ts.length cT, .slice A14 ts.length c14, .bool true]) (by simp [results, Try.results54, go_sem]) rfl ?_
      refine ⟨_, _, rfl, ?_, HRR.out.rows2, HF.out⟩
      have h := HFF.out.row
      refine ⟨by simp, ?_⟩
      rcases h.2 with h2 | ⟨g, cap, cur, e, _, h3, h4, h5, h6, h7⟩
      · exact .inl h2
      · refine .inr ⟨g, cap, cur, e, ?_, h3, h4, h5, h6, ?_⟩
        · have := (HFF.out.sv g (by rw [e]; rfl)).1
          exact (HSS.out g this).1
        · refine Eq.trans h7 ?_; simp [fdT, ← List.map_eq_flatMap]
end Go.Proofs.Ytldmjpnldgekaaa
end
section
namespace Go.Proofs.Ytldmjpnldgekaaa.A
variable {α : Type} [DecidableEq α]
def ent (R : List (List Int)) (i j : Nat) : Int := (R.getD i []).getD j 0
/-- What has been read: the rows ahead of at_, and k numbers of its own. -/
def Sc (L at_ k i j : Nat) : Prop := (i < at_ ∧ j < L) ∨ (i = at_ ∧ j < k)
def Bf (i j i' j' : Nat) : Prop := i < i' ∨ (i = i' ∧ j < j')
structure Srch (nx : α → Int → Option α) (none_ : α) (L : Nat) (D : α → Prop) (ts : List α) (at_ : Nat) (R : List (List Int)) (k : Nat) : Prop where
  nd : ts.Nodup
  dom : ∀ x ∈ ts, D x
  val : ∀ i j : Nat, Sc L at_ k i j → ∃ x y, ts[i]? = some x ∧ nx x (j : Int) = some y ∧ ((y = none_ ∧ ent R i j = -1) ∨ ∃ q : Nat, ts[q]? = some y ∧ ent R i j = q)
  occ : ∀ q : Nat, 0 < q → q < ts.length → ∃ i j : Nat, i < q ∧ j < L ∧ Sc L at_ k i j ∧ ent R i j = q ∧ ∀ i' j' : Nat, Bf i' j' i j → j' < L → ent R i' j' < q
theorem numO_form (none_ y : α) (ts : List α) : (y = none_ ∧ numO none_ y ts = (-1, ts)) ∨ (∃ q : Nat, ts[q]? = some y ∧ numO none_ y ts = ((q : Int), ts)) ∨ (y ≠ none_ ∧ y ∉ ts ∧ numO none_ y ts = ((ts.length : Int), ts ++ [y])) := by
  unfold numO
  by_cases e : y = none_
  · exact .inl ⟨e, if_pos e⟩
  · rw [if_neg e]
    by_cases hm : y ∈ ts
    · refine .inr (.inl ⟨idx y ts, ?_, if_pos hm⟩)
      rw [List.getElem?_eq_getElem (idx_lt hm), idx_get hm]
    · exact .inr (.inr ⟨e, hm, if_neg hm⟩)
theorem ent_old {R : List (List Int)} {row : List Int} {v : Int} {i j : Nat} (h : i < R.length ∨ (i = R.length ∧ j < row.length)) : ent (R ++ [row ++ [v]]) i j = ent (R ++ [row]) i j := by
  unfold ent
  rcases h with h | ⟨h, h'⟩
  · simp [List.getElem?_append, h]
  · subst h
    simp [List.getElem?_append, h']
theorem ent_new {R : List (List Int)} {row : List Int} {v : Int} : ent (R ++ [row ++ [v]]) R.length row.length = v := by
  unfold ent
  simp
theorem Srch.step {nx : α → Int → Option α} {none_ : α} {L : Nat} {D : α → Prop} {ts : List α} {at_ : Nat} {R : List (List Int)} {row : List Int} (h : Srch nx none_ L D ts at_ (R ++ [row]) row.length) (hR : R.length = at_) (hk : row.length < L) (ha : at_ < ts.length) {y : α} (hn : nx ts[at_] (row.length : Int) = some y) (hy : y = none_ ∨ D y) :
    Srch nx none_ L D (numO none_ y ts).2 at_ (R ++ [row ++ [(numO none_ y ts).1]]) (row ++ [(numO none_ y ts).1]).length ∧ ts <+: (numO none_ y ts).2 := by
  subst hR
  have hlen : ∀ v : Int, (row ++ [v]).length = row.length + 1 := fun v => by simp
  rw [hlen]
  have hsc : ∀ i j, Sc L R.length (row.length + 1) i j → Sc L R.length row.length i j ∨ (i = R.length ∧ j = row.length) := fun i j h => by
    rcases h with h | h
    · exact .inl (.inl h)
    · by_cases e : j = row.length
      · exact .inr ⟨h.1, e⟩
      · exact .inl (.inr ⟨h.1, by omega⟩)
  have hold : ∀ (v : Int) i j, Sc L R.length row.length i j → ent (R ++ [row ++ [v]]) i j = ent (R ++ [row]) i j := fun v i j h => by
    refine ent_old ?_
    rcases h with h | h
    · exact .inl h.1
    · exact .inr h
  have hbf : ∀ i j i' j', Sc L R.length row.length i j → Bf i' j' i j → j' < L → Sc L R.length row.length i' j' := fun i j i' j' h1 h2 h3 => by
    rcases h2 with h2 | h2
    · rcases h1 with h1 | h1
      · exact .inl ⟨by omega, h3⟩
      · exact .inl ⟨by omega, h3⟩
    · rcases h1 with h1 | h1
      · exact .inl ⟨by omega, h3⟩
      · exact .inr ⟨by omega, by omega⟩
  have hgrow : ∀ i j, Sc L R.length row.length i j → Sc L R.length (row.length + 1) i j := fun i j h => by
    rcases h with h | h
    · exact .inl h
    · exact .inr ⟨h.1, by omega⟩
  rcases numO_form none_ y ts with ⟨e1, e2⟩ | ⟨q, e1, e2⟩ | ⟨e0, e1, e2⟩
  · rw [e2]
    refine ⟨⟨h.nd, h.dom, fun i j hs => ?_, fun q hq hq2 => ?_⟩, List.prefix_refl _⟩
    · rcases hsc i j hs with hs | ⟨rfl, rfl⟩
      · rw [hold _ _ _ hs]; exact h.val i j hs
      · exact ⟨ts[R.length], y, List.getElem?_eq_getElem ha, hn, .inl ⟨e1, ent_new⟩⟩
    · obtain ⟨i, j, h1, h2, h3, h4, h5⟩ := h.occ q hq hq2
      refine ⟨i, j, h1, h2, hgrow _ _ h3, by rw [hold _ _ _ h3]; exact h4, fun i' j' hb hj => ?_⟩
      rw [hold _ _ _ (hbf _ _ _ _ h3 hb hj)]
      exact h5 i' j' hb hj
  · rw [e2]
    refine ⟨⟨h.nd, h.dom, fun i j hs => ?_, fun q hq hq2 => ?_⟩, List.prefix_refl _⟩
    · rcases hsc i j hs with hs | ⟨rfl, rfl⟩
      · rw [hold _ _ _ hs]; exact h.val i j hs
      · exact ⟨ts[R.length], y, List.getElem?_eq_getElem ha, hn, .inr ⟨q, e1, ent_new⟩⟩
    · obtain ⟨i, j, h1, h2, h3, h4, h5⟩ := h.occ q hq hq2
      refine ⟨i, j, h1, h2, hgrow _ _ h3, by rw [hold _ _ _ h3]; exact h4, fun i' j' hb hj => ?_⟩
      rw [hold _ _ _ (hbf _ _ _ _ h3 hb hj)]
      exact h5 i' j' hb hj
  · rw [e2]
    have hget : ∀ (i : Nat) (x : α), ts[i]? = some x → (ts ++ [y])[i]? = some x := fun i x hx => by
      rw [List.getElem?_append_left (List.getElem?_eq_some_iff.1 hx).1]; exact hx
    have hlt : ∀ i j, Sc L R.length row.length i j → ent (R ++ [row]) i j < (ts.length : Int) := fun i j hs => by
      obtain ⟨x, z, _, _, h3⟩ := h.val i j hs
      rcases h3 with ⟨_, h3⟩ | ⟨p, h3, h4⟩
      · rw [h3]; omega
      · have := (List.getElem?_eq_some_iff.1 h3).1
        rw [h4]; omega
    refine ⟨⟨?_, fun x hx => ?_, fun i j hs => ?_, fun q hq hq2 => ?_⟩, List.prefix_append _ _⟩
    · rw [List.nodup_append]
      exact ⟨h.nd, by simp, fun x hx z hz e' => e1 (by rw [List.mem_singleton.1 hz] at e'; rw [← e']; exact hx)⟩
    · rcases List.mem_append.1 hx with hx | hx
      · exact h.dom x hx
      · rw [List.mem_singleton.1 hx]
        rcases hy with hy | hy
        · exact absurd hy e0
        · exact hy
    · rcases hsc i j hs with hs | ⟨rfl, rfl⟩
      · rw [hold _ _ _ hs]
        obtain ⟨x, z, h1, h2, h3⟩ := h.val i j hs
        refine ⟨x, z, hget _ _ h1, h2, ?_⟩
        rcases h3 with h3 | ⟨p, h3, h4⟩
        · exact .inl h3
        · exact .inr ⟨p, hget _ _ h3, h4⟩
      · exact ⟨ts[R.length], y, hget _ _ (List.getElem?_eq_getElem ha), hn, .inr ⟨ts.length, by simp, ent_new⟩⟩
    · rw [List.length_append, List.length_singleton] at hq2
      by_cases e : q = ts.length
      · subst e
        refine ⟨R.length, row.length, ha, hk, .inr ⟨rfl, Nat.lt_succ_self _⟩, ent_new, fun i' j' hb hj => ?_⟩
        have hs : Sc L R.length row.length i' j' := by
          rcases hb with hb | hb
          · exact .inl ⟨hb, hj⟩
          · exact .inr hb
        rw [hold _ _ _ hs]
        exact hlt i' j' hs
      · obtain ⟨i, j, h1, h2, h3, h4, h5⟩ := h.occ q hq (by omega)
        refine ⟨i, j, h1, h2, hgrow _ _ h3, by rw [hold _ _ _ h3]; exact h4, fun i' j' hb hj => ?_⟩
        rw [hold _ _ _ (hbf _ _ _ _ h3 hb hj)]
        exact h5 i' j' hb hj
/-- What the search may walk on, and how much of it there is. -/
structure Dom (nx : α → Int → Option α) (none_ : α) (L : Nat) (D : α → Prop) (B : Nat) : Prop where
  nx : ∀ x, D x → ∀ k : Nat, k < L → ∃ y, nx x (k : Int) = some y ∧ (y = none_ ∨ D y)
  few : ∀ ts : List α, ts.Nodup → (∀ x ∈ ts, D x) → ts.length ≤ B
theorem rowS_srch {nx : α → Int → Option α} {none_ : α} {L B : Nat} {D : α → Prop} {most : Int} (hD : Dom nx none_ L D B) (hB : (B : Int) ≤ most) {at_ : Nat} {R : List (List Int)} (hR : R.length = at_) {x : α} : ∀ (n k : Nat) (ts : List α) (row : List Int), row.length = k → k + n = L → Srch nx none_ L D ts at_ (R ++ [row]) k → ts[at_]? = some x →
    ∃ ts' row', rowS nx none_ most x (List.range' k n) ts row = some (ts', row') ∧ row'.length = L ∧ Srch nx none_ L D ts' at_ (R ++ [row']) L ∧ ts <+: ts'
  | 0, k, ts, row, hr, hk, h, hx => ⟨ts, row, rfl, by omega, (show k = L by omega) ▸ h, List.prefix_refl _⟩
  | n + 1, k, ts, row, hr, hk, h, hx => by
    subst hr
    obtain ⟨ha, hx'⟩ := List.getElem?_eq_some_iff.1 hx
    obtain ⟨y, hy1, hy2⟩ := hD.nx x (h.dom x (by rw [← hx']; exact List.getElem_mem ha)) row.length (by omega)
    obtain ⟨g1, g2⟩ := h.step hR (by omega) ha (by rw [hx']; exact hy1) hy2
    have hfew := hD.few _ g1.nd g1.dom
    rw [List.range'_succ]
    unfold rowS
    rw [hy1]
    dsimp only
    rw [if_neg (by omega)]
    have hl : (row ++ [(numO none_ y ts).1]).length = row.length + 1 := by simp
    obtain ⟨ts', row', d1, d2, d3, d4⟩ := rowS_srch hD hB hR n (row.length + 1) _ _ hl (by omega) (by rw [hl] at g1; exact g1) (by
      rw [List.prefix_iff_getElem?.1 g2 at_ ha, hx'])
    exact ⟨ts', row', d1, d2, d3, g2.trans d4⟩
omit [DecidableEq α] in
theorem Srch.row {nx : α → Int → Option α} {none_ : α} {L : Nat} {D : α → Prop} {ts : List α} {at_ : Nat} {R : List (List Int)} (h : Srch nx none_ L D ts at_ R L) (hR : R.length = at_ + 1) : Srch nx none_ L D ts (at_ + 1) (R ++ [[]]) 0 := by
  have hs : ∀ i j, Sc L (at_ + 1) 0 i j → Sc L at_ L i j := fun i j h => by
    rcases h with h | h
    · by_cases e : i = at_
      · exact .inr ⟨e, h.2⟩
      · exact .inl ⟨by omega, h.2⟩
    · omega
  have hs' : ∀ i j, Sc L at_ L i j → Sc L (at_ + 1) 0 i j := fun i j h => by
    rcases h with h | h
    · exact .inl ⟨by omega, h.2⟩
    · exact .inl ⟨by omega, h.2⟩
  have he : ∀ i j, i ≤ at_ → ent (R ++ [[]]) i j = ent R i j := fun i j hi => by
    unfold ent
    have : i < R.length := by omega
    simp [List.getElem?_append, this]
  have hi : ∀ i j, Sc L at_ L i j → i ≤ at_ := fun i j h => by
    rcases h with h | h <;> omega
  refine ⟨h.nd, h.dom, fun i j hsc => ?_, fun q hq hq2 => ?_⟩
  · have := hs i j hsc
    rw [he _ _ (hi _ _ this)]
    exact h.val i j this
  · obtain ⟨i, j, h1, h2, h3, h4, h5⟩ := h.occ q hq hq2
    have := hi _ _ h3
    refine ⟨i, j, h1, h2, hs' _ _ h3, by rw [he _ _ this]; exact h4, fun i' j' hb hj => ?_⟩
    rw [he _ _ (by rcases hb with hb | hb <;> omega)]
    exact h5 i' j' hb hj
theorem srchO_srch {nx : α → Int → Option α} {none_ : α} {L B : Nat} {D : α → Prop} {most : Int} (hD : Dom nx none_ L D B) (hB : (B : Int) ≤ most) : ∀ (f at_ : Nat) (ts : List α) (rows : List (List Int)), rows.length = at_ → at_ ≤ ts.length → (∀ row ∈ rows, row.length = L) → Srch nx none_ L D ts at_ (rows ++ [[]]) 0 → B ≤ f + at_ →
    ∃ ts' rows', srchO nx none_ L most f at_ ts rows = some (ts', rows') ∧ rows'.length = ts'.length ∧ (∀ row ∈ rows', row.length = L) ∧ Srch nx none_ L D ts' ts'.length (rows' ++ [[]]) 0 ∧ ts <+: ts'
  | f, at_, ts, rows, hr, hat, hrl, h, hf => by
    unfold srchO
    by_cases hlt : at_ < ts.length
    · rw [dif_pos hlt]
      have hfew := hD.few _ h.nd h.dom
      match f, hf with
      | 0, hf => omega
      | f + 1, hf =>
        dsimp only
        obtain ⟨ts1, row1, e1, e2, e3, e4⟩ := rowS_srch hD hB hr L 0 ts [] rfl (by omega) h (List.getElem?_eq_getElem hlt)
        rw [List.range_eq_range', e1]
        dsimp only
        have hl1 : (rows ++ [row1]).length = at_ + 1 := by simp [hr]
        obtain ⟨ts', rows', d1, d2, d3, d4, d5⟩ := srchO_srch hD hB f (at_ + 1) ts1 (rows ++ [row1]) hl1 (by have := e4.length_le; omega) (fun row hrow => by
          rcases List.mem_append.1 hrow with h | h
          · exact hrl _ h
          · rw [List.mem_singleton.1 h]; exact e2) (e3.row hl1) (by omega)
        exact ⟨ts', rows', d1, d2, d3, d4, e4.trans d5⟩
    · rw [dif_neg hlt]
      have e : at_ = ts.length := by omega
      subst e
      exact ⟨ts, rows, rfl, hr, hrl, h, List.prefix_refl _⟩
/-- What a search comes to: the things, each once, and their rows; a thing's number first stands behind all lower ones. -/
structure Found (nx : α → Int → Option α) (none_ : α) (L : Nat) (D : α → Prop) (first : α) (ts : List α) (rows : List (List Int)) : Prop where
  nd : ts.Nodup
  dom : ∀ x ∈ ts, D x
  first : ts[0]? = some first
  ln : rows.length = ts.length
  row : ∀ row ∈ rows, row.length = L
  val : ∀ i j : Nat, i < ts.length → j < L → ∃ x y, ts[i]? = some x ∧ nx x (j : Int) = some y ∧ ((y = none_ ∧ ent rows i j = -1) ∨ ∃ q : Nat, ts[q]? = some y ∧ ent rows i j = q)
  occ : ∀ q : Nat, 0 < q → q < ts.length → ∃ i j : Nat, i < q ∧ j < L ∧ ent rows i j = q ∧ ∀ i' j' : Nat, Bf i' j' i j → j' < L → ent rows i' j' < q
theorem search_found {nx : α → Int → Option α} {none_ : α} {L B : Nat} {D : α → Prop} {most : Int} (hD : Dom nx none_ L D B) (hB : (B : Int) ≤ most) {f : Nat} (hf : B ≤ f) {first : α} (h1 : first ≠ none_) (h2 : D first) :
    ∃ ts rows, searchO nx f first none_ L most = some (ts, rows) ∧ Found nx none_ L D first ts rows := by
  unfold searchO
  have e : (numO none_ first []).2 = [first] := by
    unfold numO
    rw [if_neg h1]
    simp
  rw [e]
  have h0 : Srch nx none_ L D [first] 0 ([] ++ [[]]) 0 := ⟨by simp, fun x hx => by rw [List.mem_singleton.1 hx]; exact h2, fun i j h => by rcases h with h | h <;> omega, fun q hq hq2 => by simp at hq2; omega⟩
  obtain ⟨ts, rows, d1, d2, d3, d4, d5⟩ := srchO_srch hD hB f 0 [first] [] rfl (Nat.zero_le _) (fun row h => by cases h) h0 (by omega)
  have he : ∀ i j, i < ts.length → ent (rows ++ [[]]) i j = ent rows i j := fun i j hi => by
    unfold ent
    have : i < rows.length := by omega
    simp [List.getElem?_append, this]
  refine ⟨ts, rows, d1, d4.nd, d4.dom, ?_, d2, d3, fun i j hi hj => ?_, fun q hq hq2 => ?_⟩
  · obtain ⟨t, rfl⟩ := d5
    rfl
  · obtain ⟨x, y, g1, g2, g3⟩ := d4.val i j (.inl ⟨hi, hj⟩)
    rw [he _ _ hi] at g3
    exact ⟨x, y, g1, g2, g3⟩
  · obtain ⟨i, j, g1, g2, g3, g4, g5⟩ := d4.occ q hq hq2
    refine ⟨i, j, g1, g2, by rw [← he _ _ (by omega)]; exact g4, fun i' j' hb hj => ?_⟩
    rw [← he _ _ (by rcases hb with hb | hb <;> omega)]
    exact g5 i' j' hb hj
end Go.Proofs.Ytldmjpnldgekaaa.A
end
section
namespace Go.Proofs.Ytldmjpnldgekaaa.A
variable {α : Type}
def macOf (L : Int) (ts : List α) (rows : List (List Int)) (e : α → Bool) : Mac := ⟨L, 0, rows, ts.map e⟩
section
variable {nx : α → Int → Option α} {none_ : α} {L : Nat} {D : α → Prop} {first : α} {ts : List α} {rows : List (List Int)}
theorem Found.pos (h : Found nx none_ L D first ts rows) : 0 < ts.length := (List.getElem?_eq_some_iff.1 h.first).1
theorem Found.lead (h : Found nx none_ L D first ts rows) {e : α → Bool} {l : Int} {i j : Nat} {x : α} (hx : ts[i]? = some x) (hj : j < L) : ∃ y, nx x (j : Int) = some y ∧ ((y = none_ ∧ A.lead (macOf l ts rows e) i j = -1) ∨ ∃ q : Nat, ts[q]? = some y ∧ A.lead (macOf l ts rows e) i j = q) := by
  obtain ⟨x', y, h1, h2, h3⟩ := h.val i j (List.getElem?_eq_some_iff.1 hx).1 hj
  rw [hx] at h1
  injection h1 with h1
  subst h1
  refine ⟨y, h2, ?_⟩
  have : A.lead (macOf l ts rows e) i j = ent rows i j := lead_nat _ i j
  rw [this]
  exact h3
theorem Found.ends (_ : Found nx none_ L D first ts rows) {e : α → Bool} {l : Int} {i : Nat} {x : α} (hx : ts[i]? = some x) : ends (macOf l ts rows e) i = e x := by
  rw [ends_nat]
  obtain ⟨hi, rfl⟩ := List.getElem?_eq_some_iff.1 hx
  simp [macOf, hi]
theorem Found.fits (h : Found nx none_ L D first ts rows) {e : α → Bool} {l : Int} (hl : (L : Int) = l) : Fits (macOf l ts rows e) := by
  have hp := h.pos
  have hn := h.ln
  refine ⟨by show 0 ≤ l; omega, by simp [macOf, hn], ⟨by show (-1 : Int) ≤ 0; decide, by show (0 : Int) < (rows.length : Int); omega⟩, fun e => absurd (show (0 : Int) = -1 from e) (by decide), fun row hr => ?_⟩
  have hr' : row ∈ rows := hr
  refine ⟨by have := h.row row hr'; show (row.length : Int) = l; omega, fun x hx => ?_⟩
  obtain ⟨i, hi, ei⟩ := List.getElem_of_mem hr'
  obtain ⟨j, hj, ej⟩ := List.getElem_of_mem hx
  have hjL : j < L := by rw [← h.row row hr']; exact hj
  obtain ⟨_, y, _, _, h3⟩ := h.val i j (by omega) hjL
  have he : ent rows i j = x := by
    unfold ent
    subst ei
    simp [hi, hj, ej]
  rw [he] at h3
  unfold In
  show -1 ≤ x ∧ x < (rows.length : Int)
  rcases h3 with ⟨_, h3⟩ | ⟨q, h3, h4⟩
  · omega
  · have := (List.getElem?_eq_some_iff.1 h3).1
    omega
theorem Found.ord (h : Found nx none_ L D first ts rows) {e : α → Bool} {l : Int} (hl : (L : Int) = l) : ∀ j : Nat, 0 < j → j < (macOf l ts rows e).next.length → ∃ i k : Nat, i < j ∧ (k : Int) < (macOf l ts rows e).letters ∧ A.lead (macOf l ts rows e) i k = j ∧ ∀ i' k' : Nat, (i' < i ∨ (i' = i ∧ k' < k)) → (k' : Int) < (macOf l ts rows e).letters → A.lead (macOf l ts rows e) i' k' < j := by
  intro j h0 hj
  have hj' : j < ts.length := by rw [← h.ln]; exact hj
  obtain ⟨i, k, h1, h2, h3, h4⟩ := h.occ j h0 hj'
  have hle : ∀ i k : Nat, A.lead (macOf l ts rows e) i k = ent rows i k := fun i k => lead_nat _ i k
  refine ⟨i, k, h1, by show (k : Int) < l; omega, by rw [hle]; exact h3, fun i' k' hb hk => ?_⟩
  rw [hle]
  have hk' : (k' : Int) < l := hk
  exact h4 i' k' hb (by omega)
end
theorem Eqv.tell {a b : Mac} {x x' y y' : Int} (hl : a.letters = b.letters) (h : Eqv a b x y) (h' : Eqv a b x' y') (ht : Tell a x x') : Tell b y y' := by
  obtain ⟨l, u, v, h1, h2, h3⟩ := ht
  obtain ⟨u', h4⟩ := from_two hl l x y u h1
  obtain ⟨v', h5⟩ := from_two hl l x' y' v h2
  exact ⟨l, u', v', h4, h5, by rw [← h l u u' h1 h4, ← h' l v v' h2 h5]; exact h3⟩
theorem Eqv.dead {a b : Mac} {x y : Int} (hx : ¬ Alive a x) (hy : ¬ Alive b y) : Eqv a b x y := fun l u v h1 h2 => by
  cases e1 : A.ends a u with
  | true => exact absurd ⟨l, u, h1, e1⟩ hx
  | false => cases e2 : A.ends b v with
    | true => exact absurd ⟨l, v, h2, e2⟩ hy
    | false => rfl
theorem valid_of {m : Mac} (hf : Fits m) (hl : m.letters ≤ 300) (hn : m.next.length ≤ 4000) : valid m = 0 := by
  unfold valid
  rw [if_pos (fits_iff.2 hf), if_neg (by omega)]
/-- The machine of no words. -/
def noM (m : Mac) : Mac := ⟨m.letters, -1, [], []⟩
theorem noM_mn {m : Mac} (h : 0 ≤ m.letters) : Mn (noM m) :=
  ⟨⟨h, rfl, ⟨show (-1 : Int) ≤ -1 by decide, show (-1 : Int) < ((0 : Nat) : Int) by decide⟩, fun _ => rfl, fun r hr => by cases hr⟩, .inl rfl, fun s hs => absurd hs (Nat.not_lt_zero s), fun s _ hs => absurd hs (Nat.not_lt_zero s), fun j _ hj => absurd hj (Nat.not_lt_zero j)⟩
/-- What a machine's least one is. -/
structure LeastOf (m o : Mac) : Prop where
  mn : Mn o
  ll : o.letters = m.letters
  eqv : Eqv m o m.start o.start
  le : o.next.length ≤ m.next.length
theorem noM_least {m : Mac} (h : 0 ≤ m.letters) (hd : ¬ Alive m m.start) : LeastOf m (noM m) := ⟨noM_mn h, rfl, Eqv.dead hd alive_not, Nat.zero_le _⟩
theorem LeastOf.one {a b o p : Mac} (h : LeastOf a o) (h' : LeastOf b p) (hl : a.letters = b.letters) (e : Eqv a b a.start b.start) : o = p :=
  h.mn.uniq h'.mn (by rw [h.ll, h'.ll, hl]) ((h.eqv.symm.trans h.ll e).trans (by rw [h.ll, hl]) h'.eqv)
end Go.Proofs.Ytldmjpnldgekaaa.A
end
