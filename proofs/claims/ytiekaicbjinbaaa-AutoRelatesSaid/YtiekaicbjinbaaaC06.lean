/- The partition: add. The partition: split. The partition: divide. What is found and numbered: words; numberOf at ints. numberOf at pairs. Search at ints. Search at pairs. Contracts of the program's functions, with no condition beyond what each theorem states. -/
import Derived.Test.YtiekaicbjinbaaaC05
import Derived.Maps.OwnSet
import Derived.Maps.Views
import Derived.DeepKeys5
import Derived.Deep.RegionLaw
section
namespace Go.Proofs.Ytiekaicbjinbaaa
open Go.RowKit
section
variable {w : World} {S : Nat → Prop} {pb : Nat} {vf : Nat → Value} {d : A.Pd}
theorem PtV.push (h : PtV w S pb vf d) {i : Nat} (hi : i < 6) {w1 : World} {v' : Value} {x : Int} (hg : w.grownBy w1 (vf i).ownBlock) (ho : w1.ownsRow 0 3 1 v' ((d.f i).length + 1) ((d.f i).map (Value.int .i64) ++ [.int .i64 x])) (hl : v'.ownBlock = (vf i).ownBlock ∨ ∀ g, v'.ownBlock = some g → w.heap.size ≤ g) : PtV (w1.setCell ⟨pb, i, none⟩ v') (fun b => S b ∨ w.heap.size ≤ b) pb (updF vf i v') (d.upd i (d.f i ++ [x])) := by
  have := Grp.put h hi hg ho hl
  unfold PtV
  rw [A.Pd.f_upd d hi]
  refine this.congr (fun k _ => ?_) (fun k _ => ?_)
  · unfold updF; split
    · rw [List.length_append]; rfl
    · rfl
  · unfold updF; split
    · rw [List.map_append]; rfl
    · rfl
theorem PtV.app (h : PtV w S pb vf d) {i : Nat} (hi : i < 6) {o : Obj} {w1 : World} {v' : Value} {x : Int} {A0 : Option Addr} {n c : Nat} (e : vf i = .slice A0 n c) (ho : w1.ownsRow 0 3 1 v' (n + 1) ((d.f i).map (Value.int .i64) ++ [.int .i64 x])) (hg : (w.alloc o).grownBy w1 (Value.slice A0 n c).ownBlock) {m : Nat} (hl : v'.ownBlock = (Value.slice A0 n c).ownBlock ∨ v'.ownBlock = some m) (hm : w.heap.size ≤ m) :
    PtV (w1.setCell ⟨pb, i, none⟩ v') (fun b => S b ∨ w.heap.size ≤ b) pb (updF vf i v') (d.upd i (d.f i ++ [x])) ∧ Frm S w (w1.setCell ⟨pb, i, none⟩ v') ∧ w1.cell? ⟨pb, i, none⟩ = some (.slice A0 n c) ∧ w1.frozen? ⟨pb, i, none⟩ = false := by
  obtain ⟨A1, c', e', _⟩ := h.slot hi
  have hn : n = (d.f i).length := by rw [e'] at e; injection e with _ e2 _; exact e2.symm
  subst hn
  have hall : w.grownBy w1 (vf i).ownBlock := by rw [e]; exact (World.grownBy_alloc w _ _).trans hg
  have hb : Blk w1 pb ptT.oty (cellsOf 6 vf) := (Grp.out h).grown hall fun e2 => (Grp.lie h i hi pb e2.symm).2 rfl
  refine ⟨h.push hi hall ho ?_, Grp.put_frm h hi hall, ?_, hb.frozen i⟩
  · rw [e]
    exact hl.imp id fun h g hg => by rw [h] at hg; simp only [Option.some.injEq] at hg; omega
  · rw [hb.cell i, cellsOf_get vf hi, e]
end
namespace A
/-- The classes when the first k states of the part are in the class n. -/
def clsTo (row : List Int) (b n k : Nat) (cls : List Int) : List Int := (List.range k).foldl (fun c i => c.set (row.getD (b + i) 0).toNat (n : Int)) cls
theorem clsTo_succ (row : List Int) (b n k : Nat) (cls : List Int) : clsTo row b n (k + 1) cls = (clsTo row b n k cls).set (row.getD (b + k) 0).toNat (n : Int) := by
  unfold clsTo; rw [List.range_succ, List.foldl_append]; rfl
theorem clsTo_len (row : List Int) (b n k : Nat) (cls : List Int) : (clsTo row b n k cls).length = cls.length := by
  induction k with
  | zero => rfl
  | succ k ih => rw [clsTo_succ, List.length_set, ih]
def Pd.added (d : Pd) (b e : Nat) : Pd := { d with cls := clsTo d.row b d.beg.length (e - b) d.cls, beg := d.beg ++ [(b : Int)], fin := d.fin ++ [(e : Int)], mkd := d.mkd ++ [0] }
structure Ad (d : Pd) (b e : Nat) : Prop where
  h1 : b < e
  h2 : e ≤ d.row.length
  h3 : ∀ i, b ≤ i → i < e → 0 ≤ d.row.getD i 0 ∧ d.row.getD i 0 < d.cls.length
  h4 : d.row.length ≤ 1000000000
  h5 : d.beg.length ≤ 1000000000
  h6 : d.fin.length ≤ 1000000000
  h7 : d.mkd.length ≤ 1000000000
end A
set_option maxRecDepth 100000 in
set_option maxHeartbeats 4000000 in
theorem add_any {w : World} {S : Nat → Prop} {pb : Nat} {d : A.Pd} {b e : Nat} (h : Pt w S pb d) (hm : A.Ad d b e) :
    Calls Try.prog 87 #[.pointer (some ⟨pb, 0, none⟩), .int .i64 b, .int .i64 e] w fun r w' => r = .returned (.tuple #[]) ∧ Pt w' (fun x => S x ∨ w.heap.size ≤ x) pb (d.added b e) ∧ Frm S w w' := by
  obtain ⟨vf, h⟩ := h
  obtain ⟨h1, h2, h3, h4, h5, h6, h7⟩ := hm
  obtain ⟨g0, c0, e0, o0, f0, k0, l0, _⟩ := h.at_ (i := 0) (j := b) (by decide) (show b < d.row.length by omega)
  obtain ⟨_, _, e0', -, -, hc0⟩ := h.slot (i := 0) (by decide)
  rw [e0] at e0'
  injection e0' with q1 _ q3
  subst q1 q3
  obtain ⟨N0, hN0⟩ : ∃ N0, N0 = (d.f 0).length := ⟨_, rfl⟩
  obtain ⟨N3, hN3⟩ : ∃ N3, N3 = (d.f 3).length := ⟨_, rfl⟩
  have b1 : (b : Int) ≤ (e : Int) := by omega
  have b2 : (e : Int) ≤ (c0 : Int) := by have : e ≤ (d.f 0).length := h2; omega
  have b3 : (b : Int) < (c0 : Int) := by omega
  have b4 : (0 : Int) < (e : Int) - (b : Int) := by omega
  have b5 : e - b ≤ 1000000000 := by omega
  rw [← hN0] at o0 e0
  have HP := Lib.hid h
  have HE0 := Lib.hid e0
  have H2 := Lib.hid h2
  have H3 := Lib.hid h3
  have H5 := Lib.hid h5
  have H6 := Lib.hid h6
  have H7 := Lib.hid h7
  have HN0 := Lib.hid hN0
  have HN3 := Lib.hid hN3
  have H1 := Lib.hid h1
  clear h2 h3 h4 h5 h6 h7 k0 l0 e0 h hc0 hN0 hN3
  go_enter Try.func87, Try.ntmps87
  go_wp2_with fail
  clear o0 f0
  go_loopg [16] (e - b + 1) (fun n i wr => ∃ k : Nat, k ≤ e - b ∧ n = e - b + 1 - k ∧ i = .int .i64 (k : Int) ∧ Hid (PtV wr S pb vf (d.upd 2 (A.clsTo d.row b d.beg.length k d.cls))) ∧ Hid (Frm S w wr))
  case atStart => exact ⟨0, Nat.zero_le _, rfl, rfl, HP, Frm.refl _ _⟩
  case round =>
    obtain ⟨k, hk, rfl, rfl, HQ, HF⟩ := hrel
    by_cases hlt : k < e - b
    · have hlt' : (k : Int) < ((e - b : Nat) : Int) := by omega
      have hb0 : b + k < d.row.length := by have := H2.out; omega
      obtain ⟨q1, q2⟩ := H3.out (b + k) (by omega) (by omega)
      obtain ⟨k0, l0⟩ := HQ.out.get (i := 0) (j := b + k) (by decide) HE0.out hb0
      have hrw : ((d.upd 2 (A.clsTo d.row b d.beg.length k d.cls)).f 0).getD (b + k) 0 = d.row.getD (b + k) 0 := rfl
      rw [hrw] at k0
      have HS : Hid (A.clsTo d.row b d.beg.length (k + 1) d.cls = (A.clsTo d.row b d.beg.length k d.cls).set (d.row.getD (b + k) 0).toNat (d.beg.length : Int)) := A.clsTo_succ _ _ _ _ _
      generalize d.row.getD (b + k) 0 = x at *
      obtain ⟨t, rfl⟩ : ∃ t : Nat, x = (t : Int) := ⟨x.toNat, by omega⟩
      have ht : t < (A.clsTo d.row b d.beg.length k d.cls).length := by rw [A.clsTo_len]; omega
      obtain ⟨g2, c2, e2, o2, f2, k2, l2, _⟩ := HQ.out.at_ (i := 2) (j := t) (by decide) ht
      obtain ⟨A3, c3, e3, o3, f3, _⟩ := HQ.out.slot (i := 3) (by decide)
      have h3l : ((d.upd 2 (A.clsTo d.row b d.beg.length k d.cls)).f 3).length = d.beg.length := rfl
      rw [h3l] at o3
      have HQ2 := Lib.hid (HQ.out.drew.set_ (i := 2) (j := t) (by decide) e2 ht (d.beg.length : Int))
      have HF2 := Lib.hid (HF.out.drew.trans (HQ.out.drew.set_frm (i := 2) (by decide) e2 t (d.beg.length : Int)))
      have ht' : (t : Int) < (((d.upd 2 (A.clsTo d.row b d.beg.length k d.cls)).f 2).length : Int) := by
        have h : ((d.upd 2 (A.clsTo d.row b d.beg.length k d.cls)).f 2).length = (A.clsTo d.row b d.beg.length k d.cls).length := rfl
        rw [h]; omega
      generalize ((d.upd 2 (A.clsTo d.row b d.beg.length k d.cls)).f 2).getD t 0 = z at k2
      clear hrw e2 e3 h3l ht
      generalize ((d.upd 2 (A.clsTo d.row b d.beg.length k d.cls)).f 2).length = N2 at *
      go_wp2_with fail
      go_region
      go_wp2_with fail
      go_roundg (e - b + 1 - (k + 1))
      case measure => omega
      case rel => exact ⟨k + 1, by omega, rfl, by go_num, by rw [HS.out]; first | exact HQ2 | exact HQ2.out.drew, by first | exact HF2 | exact HF2.out.drew⟩
    · have hlt' : ¬ (k : Int) < ((e - b : Nat) : Int) := by omega
      obtain rfl : k = e - b := by omega
      obtain ⟨A3, c3, e3, o3, f3, _⟩ := HQ.out.slot (i := 3) (by decide)
      have HL3 : Hid (((d.upd 2 (A.clsTo d.row b d.beg.length (e - b) d.cls)).f 3).length = d.beg.length) := rfl
      have hO3 := Grp.own HQ.out 3 (by decide)
      rw [e3] at hO3
      rw [HL3.out] at o3 hO3 e3
      have HO3 := Lib.hid hO3
      have HE3 := Lib.hid e3
      obtain ⟨i0, hi0, hz0, hz1, hz2⟩ := info_parts info_int
      clear hO3 e3
      go_wp2_with (at_builtin; refine wpList_append_own_at _ rfl _ _ 28 rfl 0 3 i0 (.int .i64 0) 1 8 Try.underlying28 hi0 hz0 hz1 hz2 rfl (by decide) _ _ _ rfl (HO3.out.alloc _) ⟨wr.heap.size, 0, none⟩ 1 1 [.int .i64 (b : Int)] rfl rfl ?y1 ?y2 ?y3 ?y4 ?y5 ?_)
      case y2 => simp [Value.oneCell']
      case y3 => have := H5.out; unfold maxLen; omega
      case y4 => have := H5.out; omega
      intro v' w1 hown1 hgrow _ hat
      obtain ⟨A9, c9, rfl⟩ := own_form hown1
      obtain ⟨Q1, F1, p1, r1⟩ := HQ.out.app (i := 3) (by decide) HE3.out hown1 hgrow hat (by simp)
      have HQ1 : Hid (PtV _ (fun x => S x ∨ w.heap.size ≤ x) pb _ _) := Grp.mono Q1 fun b _ hb => by have := HF.out.1; rcases hb with hb | hb; exact .inl hb; exact .inr (by omega)
      have HF1 := Lib.hid (HF.out.trans F1)
      obtain ⟨A4, c4, e4, o4, f4, _⟩ := HQ1.out.slot (i := 4) (by decide)
      have HL4 : Hid ((((d.upd 2 (A.clsTo d.row b d.beg.length (e - b) d.cls)).upd 3 ((d.upd 2 (A.clsTo d.row b d.beg.length (e - b) d.cls)).f 3 ++ [(b : Int)])).f 4).length = d.fin.length) := rfl
      have hO4 := Grp.own HQ1.out 4 (by decide)
      rw [e4] at hO4
      rw [HL4.out] at o4 hO4 e4
      have HO4 := Lib.hid hO4
      have HE4 := Lib.hid e4
      clear Q1 F1 hown1 hgrow hat hO4 e4
      go_wp2_with (at_builtin; refine wpList_append_own_at _ rfl _ _ 28 rfl 0 3 i0 (.int .i64 0) 1 8 Try.underlying28 hi0 hz0 hz1 hz2 rfl (by decide) _ _ _ rfl (HO4.out.alloc _) ⟨w1.heap.size, 0, none⟩ 1 1 [.int .i64 (e : Int)] rfl rfl ?z1 ?z2 ?z3 ?z4 ?z5 ?_)
      case z1 => exact cell_one_at (by simp)
      case z2 => simp [Value.oneCell']
      case z3 => have := H6.out; unfold maxLen; omega
      case z4 => have := H6.out; omega
      case z5 => exact Nat.zero_le _
      intro v' w2 hown1 hgrow _ hat
      obtain ⟨A10, c10, rfl⟩ := own_form hown1
      obtain ⟨Q2, F2, p2, r2⟩ := HQ1.out.app (i := 4) (by decide) HE4.out hown1 hgrow hat (by simp)
      have HQ2 : Hid (PtV _ (fun x => S x ∨ w.heap.size ≤ x) pb _ _) := Grp.mono Q2 fun b _ hb => by have := HF1.out.1; rcases hb with hb | hb; exact hb; exact .inr (by omega)
      have HF2 : Hid (Frm S w _) := Frm.mono (E := fun x => S x ∨ w.heap.size ≤ x) ((HF1.out.mono fun _ _ h => .inl h).trans F2) fun b hb h => h.resolve_right (by omega)
      obtain ⟨A5, c5, e5, o5, f5, _⟩ := HQ2.out.slot (i := 5) (by decide)
      have HL5 : Hid (((((d.upd 2 (A.clsTo d.row b d.beg.length (e - b) d.cls)).upd 3 ((d.upd 2 (A.clsTo d.row b d.beg.length (e - b) d.cls)).f 3 ++ [(b : Int)])).upd 4 (((d.upd 2 (A.clsTo d.row b d.beg.length (e - b) d.cls)).upd 3 ((d.upd 2 (A.clsTo d.row b d.beg.length (e - b) d.cls)).f 3 ++ [(b : Int)])).f 4 ++ [(e : Int)])).f 5).length = d.mkd.length) := rfl
      have hO5 := Grp.own HQ2.out 5 (by decide)
      rw [e5] at hO5
      rw [HL5.out] at o5 hO5 e5
      have HO5 := Lib.hid hO5
      have HE5 := Lib.hid e5
      clear Q2 F2 hown1 hgrow hat hO5 e5 o4 f4 p1 r1
      go_wp2_with (at_builtin; refine wpList_append_own_at _ rfl _ _ 28 rfl 0 3 i0 (.int .i64 0) 1 8 Try.underlying28 hi0 hz0 hz1 hz2 rfl (by decide) _ _ _ rfl (HO5.out.alloc _) ⟨w2.heap.size, 0, none⟩ 1 1 [.int .i64 0] rfl rfl ?x1 ?x2 ?x3 ?x4 ?x5 ?_)
      case x1 => exact cell_one_at (by simp)
      case x2 => simp [Value.oneCell']
      case x3 => have := H7.out; unfold maxLen; omega
      case x4 => have := H7.out; omega
      case x5 => exact Nat.zero_le _
      intro v' w3 hown1 hgrow _ hat
      obtain ⟨A11, c11, rfl⟩ := own_form hown1
      obtain ⟨Q3, F3, p3, r3⟩ := HQ2.out.app (i := 5) (by decide) HE5.out hown1 hgrow hat (by simp)
      have HQ3 : Hid (PtV _ (fun x => S x ∨ w.heap.size ≤ x) pb _ _) := Grp.mono Q3 fun b _ hb => by have := HF2.out.1; rcases hb with hb | hb; exact hb; exact .inr (by omega)
      have HF3 : Hid (Frm S w _) := Frm.mono (E := fun x => S x ∨ w.heap.size ≤ x) ((HF2.out.mono fun _ _ h => .inl h).trans F3) fun b hb h => h.resolve_right (by omega)
      clear Q3 F3 hown1 hgrow hat o5 f5 p2 r2
      go_wp2_with fail
      go_end0
      exact ⟨rfl, ⟨_, HQ3.out⟩, HF3.out⟩
end Go.Proofs.Ytiekaicbjinbaaa
end
section
namespace Go.Proofs.Ytiekaicbjinbaaa
open Go.RowKit
namespace A
def Pd.splitted (d : Pd) (k b e m : Nat) : Pd × Bool :=
  if b + m = e then ({ d with mkd := d.mkd.set k 0 }, false)
  else if m ≤ e - (b + m) then (({ d with mkd := d.mkd.set k 0, beg := d.beg.set k ((b : Int) + (m : Int)) } : Pd).added b (b + m), true)
  else (({ d with mkd := d.mkd.set k 0, fin := d.fin.set k ((b : Int) + (m : Int)) } : Pd).added (b + m) e, true)
structure Sp (d : Pd) (k b e m : Nat) : Prop where
  h1 : k < d.beg.length
  h2 : d.beg.getD k 0 = (b : Int)
  h3 : k < d.fin.length
  h4 : d.fin.getD k 0 = (e : Int)
  h5 : k < d.mkd.length
  h6 : d.mkd.getD k 0 = (m : Int)
  h7 : 0 < m
  h8 : b + m ≤ e
  h9 : e ≤ d.row.length
  h10 : ∀ i, b ≤ i → i < e → 0 ≤ d.row.getD i 0 ∧ d.row.getD i 0 < d.cls.length
  h11 : d.row.length ≤ 1000000000
  h12 : d.beg.length ≤ 1000000000
  h13 : d.fin.length ≤ 1000000000
  h14 : d.mkd.length ≤ 1000000000
end A
set_option maxRecDepth 100000 in
set_option maxHeartbeats 4000000 in
theorem split_any {w : World} {S : Nat → Prop} {pb : Nat} {d : A.Pd} {k b e m : Nat} (h : Pt w S pb d) (hm : A.Sp d k b e m) :
    Calls Try.prog 89 #[.pointer (some ⟨pb, 0, none⟩), .int .i64 k] w fun r w' => r = .returned (.bool (d.splitted k b e m).2) ∧ Pt w' (fun x => S x ∨ w.heap.size ≤ x) pb (d.splitted k b e m).1 ∧ Frm S w w' := by
  obtain ⟨vf, h⟩ := h
  obtain ⟨h1, h2, h3, h4, h5, h6, h7, h8, h9, h10, h11, h12, h13, h14⟩ := hm
  obtain ⟨g3, c3, e3, o3, f3, k3, l3, _⟩ := h.at_ (i := 3) (j := k) (by decide) h1
  obtain ⟨g4, c4, e4, o4, f4, k4, l4, _⟩ := h.at_ (i := 4) (j := k) (by decide) h3
  obtain ⟨g5, c5, e5, o5, f5, k5, l5, _⟩ := h.at_ (i := 5) (j := k) (by decide) h5
  rw [show (d.f 3).getD k 0 = (b : Int) from h2] at k3
  rw [show (d.f 4).getD k 0 = (e : Int) from h4] at k4
  rw [show (d.f 5).getD k 0 = (m : Int) from h6] at k5
  have b1 : (k : Int) < ((d.f 3).length : Int) := by have : k < (d.f 3).length := h1; omega
  have b2 : (k : Int) < ((d.f 4).length : Int) := by have : k < (d.f 4).length := h3; omega
  have b3 : (k : Int) < ((d.f 5).length : Int) := by have : k < (d.f 5).length := h5; omega
  have b4 : (e : Int) ≤ 1000000000 := by omega
  have b5 : (b : Int) + (m : Int) ≤ (e : Int) := by omega
  have HP := Lib.hid h
  have HE3 := Lib.hid e3
  have HE4 := Lib.hid e4
  have HE5 := Lib.hid e5
  have HP1 : Hid (∀ n, PtV ((w.drewN n).setCell ⟨g5, k, none⟩ (.int .i64 0)) S pb vf { d with mkd := d.mkd.set k 0 }) := fun n => (h.drewN n).set_ (i := 5) (j := k) (by decide) e5 h5 0
  have HF1 : Hid (∀ n, Frm S w ((w.drewN n).setCell ⟨g5, k, none⟩ (.int .i64 0))) := fun n => Frm.trans ((Frm.refl S w).drewN n) ((h.drewN n).set_frm (i := 5) (by decide) e5 k 0)
  have n35 := h.ne (i := 3) (j := 5) (by decide) (by decide) (by decide) e3 e5
  have n45 := h.ne (i := 4) (j := 5) (by decide) (by decide) (by decide) e4 e5
  have np5 : pb ≠ g5 := fun e => (Grp.lie h 5 (by decide) g5 (by rw [e5]; rfl)).2 e.symm
  have HH : Hid (A.Sp d k b e m) := ⟨h1, h2, h3, h4, h5, h6, h7, h8, h9, h10, h11, h12, h13, h14⟩
  generalize (d.f 3).length = n3 at *
  generalize (d.f 4).length = n4 at *
  generalize (d.f 5).length = n5 at *
  clear h h1 h2 h3 h4 h5 h6 h9 h10 h11 h12 h13 h14 e3 e4 e5
  by_cases hc : b + m = e
  · have hX : d.splitted k b e m = ({ d with mkd := d.mkd.set k 0 }, false) := by unfold A.Pd.splitted; rw [if_pos hc]
    rw [hX]
    have b6 : (b : Int) + (m : Int) = (e : Int) := by omega
    have HB6 := Lib.hid b6
    have hb : (((b : Int) + (m : Int)) == (e : Int)) = true := by rw [b6]; simp
    clear b6 hc hX
    go_enter Try.func89, Try.ntmps89
    go_wp2_with fail
    go_quiet (fail)
    go_wp2_with fail
    go_ret
    exact ⟨rfl, ⟨vf, Grp.mono (HP1.out nq) fun _ _ h => .inl h⟩, HF1.out nq⟩
  have b6 : ¬ (b : Int) + (m : Int) = (e : Int) := by omega
  have hb : (((b : Int) + (m : Int)) == (e : Int)) = false := by rw [beq_eq_false_iff_ne]; exact b6
  have HC := Lib.hid hc
  clear b6 hc
  by_cases hq : m ≤ e - (b + m)
  · have hX : d.splitted k b e m = (({ d with mkd := d.mkd.set k 0, beg := d.beg.set k ((b : Int) + (m : Int)) } : A.Pd).added b (b + m), true) := by unfold A.Pd.splitted; rw [if_neg HC.out, if_pos hq]
    rw [hX]
    have b7 : (b : Int) + (m : Int) - (b : Int) ≤ (e : Int) - ((b : Int) + (m : Int)) := by omega
    have HQ := Lib.hid hq
    have HP2 : Hid (∀ n, PtV (((w.drewN n).setCell ⟨g5, k, none⟩ (.int .i64 0)).setCell ⟨g3, k, none⟩ (.int .i64 ((b : Int) + (m : Int)))) S pb vf { d with mkd := d.mkd.set k 0, beg := d.beg.set k ((b : Int) + (m : Int)) }) := fun n => (HP1.out n).set_ (i := 3) (j := k) (by decide) HE3.out HH.out.h1 _
    have HF2 : Hid (∀ n, Frm S w (((w.drewN n).setCell ⟨g5, k, none⟩ (.int .i64 0)).setCell ⟨g3, k, none⟩ (.int .i64 ((b : Int) + (m : Int))))) := fun n => (HF1.out n).trans ((HP1.out n).set_frm (i := 3) (by decide) HE3.out k _)
    clear hq hX
    go_enter Try.func89, Try.ntmps89
    go_wp2_with fail
    go_quiet (fail)
    go_wp2_with fail
    have had := add_any (b := b) (e := b + m) ⟨vf, HP2.out nq⟩ ⟨by omega, by have := HH.out.h9; dsimp only; omega, fun i h1 h2 => HH.out.h10 i h1 (by omega), HH.out.h11, by dsimp only; rw [List.length_set]; exact HH.out.h12, HH.out.h13, by dsimp only; rw [List.length_set]; exact HH.out.h14⟩
    rw [Int.natCast_add] at had
    refine had.mono ?_
    rintro _ w2 ⟨rfl, ⟨vf2, q2⟩, f2⟩
    have HQ2 := Lib.hid q2
    have HF3 := Lib.hid ((HF2.out nq).trans f2)
    have HSZ := (HF2.out nq).1
    clear q2 f2 had o3 o4 o5 f3 f4 f5 k3 k4 k5 l3 l4 l5
    go_wp2_with fail
    go_ret
    exact ⟨rfl, ⟨vf2, Grp.mono HQ2.out fun b _ h => by rcases h with h | h; exact .inl h; exact .inr (by omega)⟩, HF3.out⟩
  · have hX : d.splitted k b e m = (({ d with mkd := d.mkd.set k 0, fin := d.fin.set k ((b : Int) + (m : Int)) } : A.Pd).added (b + m) e, true) := by unfold A.Pd.splitted; rw [if_neg HC.out, if_neg hq]
    rw [hX]
    have b7 : ¬ ((b : Int) + (m : Int) - (b : Int) ≤ (e : Int) - ((b : Int) + (m : Int))) := by have := HC.out; omega
    have HQ := Lib.hid hq
    have HP2 : Hid (∀ n, PtV (((w.drewN n).setCell ⟨g5, k, none⟩ (.int .i64 0)).setCell ⟨g4, k, none⟩ (.int .i64 ((b : Int) + (m : Int)))) S pb vf { d with mkd := d.mkd.set k 0, fin := d.fin.set k ((b : Int) + (m : Int)) }) := fun n => (HP1.out n).set_ (i := 4) (j := k) (by decide) HE4.out HH.out.h3 _
    have HF2 : Hid (∀ n, Frm S w (((w.drewN n).setCell ⟨g5, k, none⟩ (.int .i64 0)).setCell ⟨g4, k, none⟩ (.int .i64 ((b : Int) + (m : Int))))) := fun n => (HF1.out n).trans ((HP1.out n).set_frm (i := 4) (by decide) HE4.out k _)
    clear hq hX
    go_enter Try.func89, Try.ntmps89
    go_wp2_with fail
    go_quiet (fail)
    go_wp2_with fail
    have had := add_any (b := b + m) (e := e) ⟨vf, HP2.out nq⟩ ⟨by have := HC.out; omega, HH.out.h9, fun i h1 h2 => HH.out.h10 i (by omega) h2, HH.out.h11, HH.out.h12, by dsimp only; rw [List.length_set]; exact HH.out.h13, by dsimp only; rw [List.length_set]; exact HH.out.h14⟩
    rw [Int.natCast_add] at had
    refine had.mono ?_
    rintro _ w2 ⟨rfl, ⟨vf2, q2⟩, f2⟩
    have HQ2 := Lib.hid q2
    have HF3 := Lib.hid ((HF2.out nq).trans f2)
    have HSZ := (HF2.out nq).1
    clear q2 f2 had o3 o4 o5 f3 f4 f5 k3 k4 k5 l3 l4 l5
    go_wp2_with fail
    go_ret
    exact ⟨rfl, ⟨vf2, Grp.mono HQ2.out fun b _ h => by rcases h with h | h; exact .inl h; exact .inr (by omega)⟩, HF3.out⟩
end Go.Proofs.Ytiekaicbjinbaaa
end
section
namespace Go.Proofs.Ytiekaicbjinbaaa
open Go.RowKit
namespace A
def natO (l : List Int) (i : Nat) : Option Nat := if i < l.length ∧ 0 ≤ l.getD i 0 then some (l.getD i 0).toNat else none
theorem natO_some {l : List Int} {i n : Nat} (h : natO l i = some n) : i < l.length ∧ l.getD i 0 = (n : Int) := by
  unfold natO at h
  split at h
  · rename_i hc
    simp only [Option.some.injEq] at h
    exact ⟨hc.1, by omega⟩
  · cases h
def big : Nat := 1000000000
def markO (d : Pd) (st : Nat) : Option (Pd × Bool) :=
  (natO d.cls st).bind fun c => (natO d.place st).bind fun fr => (natO d.beg c).bind fun b => (natO d.mkd c).bind fun m => (natO d.row (b + m)).bind fun ot =>
    if fr < d.row.length ∧ ot < d.place.length ∧ d.row.length ≤ big then some (d.marked st c fr b m ot, decide (m = 0)) else none
theorem markO_inv {d d' : Pd} {st : Nat} {r : Bool} (h : markO d st = some (d', r)) : ∃ c fr b m ot, Mk d st c fr b m ot ∧ d' = d.marked st c fr b m ot ∧ r = decide (m = 0) := by
  unfold markO at h
  simp only [Option.bind_eq_some_iff] at h
  obtain ⟨c, h1, fr, h2, b, h3, m, h4, ot, h5, h6⟩ := h
  split at h6
  · rename_i hc
    simp only [Option.some.injEq, Prod.mk.injEq] at h6
    obtain ⟨rfl, rfl⟩ := h6
    exact ⟨c, fr, b, m, ot, ⟨(natO_some h1).1, (natO_some h1).2, (natO_some h2).1, (natO_some h2).2, (natO_some h3).1, (natO_some h3).2, (natO_some h4).1, (natO_some h4).2, (natO_some h5).1, (natO_some h5).2, hc.1, hc.2.1, hc.2.2⟩, rfl, rfl⟩
  · cases h6
def partOk (d : Pd) (b e : Nat) : Bool := (List.range e).all fun i => decide (i < b) || (decide (0 ≤ d.row.getD i 0) && decide (d.row.getD i 0 < d.cls.length))
theorem partOk_at {d : Pd} {b e : Nat} (h : partOk d b e = true) (i : Nat) (h1 : b ≤ i) (h2 : i < e) : 0 ≤ d.row.getD i 0 ∧ d.row.getD i 0 < d.cls.length := by
  have := List.all_eq_true.1 h i (List.mem_range.2 h2)
  simp only [Bool.or_eq_true, Bool.and_eq_true, decide_eq_true_eq] at this
  rcases this with h | h
  · omega
  · exact h
def splitO (d : Pd) (k : Nat) : Option (Pd × Bool) :=
  (natO d.beg k).bind fun b => (natO d.fin k).bind fun e => (natO d.mkd k).bind fun m =>
    if 0 < m ∧ b + m ≤ e ∧ e ≤ d.row.length ∧ partOk d b e = true ∧ d.row.length ≤ big ∧ d.beg.length ≤ big ∧ d.fin.length ≤ big ∧ d.mkd.length ≤ big then some (d.splitted k b e m) else none
theorem splitO_inv {d d' : Pd} {k : Nat} {r : Bool} (h : splitO d k = some (d', r)) : ∃ b e m, Sp d k b e m ∧ d' = (d.splitted k b e m).1 ∧ r = (d.splitted k b e m).2 := by
  unfold splitO at h
  simp only [Option.bind_eq_some_iff] at h
  obtain ⟨b, h1, e, h2, m, h3, h4⟩ := h
  split at h4
  · rename_i hc
    simp only [Option.some.injEq] at h4
    obtain ⟨k1, k2, k3, k4, k5, k6, k7, k8⟩ := hc
    exact ⟨b, e, m, ⟨(natO_some h1).1, (natO_some h1).2, (natO_some h2).1, (natO_some h2).2, (natO_some h3).1, (natO_some h3).2, k1, k2, k3, partOk_at k4, k5, k6, k7, k8⟩, by rw [h4], by rw [h4]⟩
  · cases h4
/-- Marks states, and tells the classes that are touched. -/
def touch : List Int → Pd → List Int → Option (Pd × List Int)
  | [], d, ts => some (d, ts)
  | s :: l, d, ts => if 0 ≤ s then (match markO d s.toNat with
    | none => none
    | some (d', true) => touch l d' (ts ++ [d'.cls.getD s.toNat 0])
    | some (d', false) => touch l d' ts) else none
/-- Splits classes, and tells the new ones. -/
def splits : List Int → Pd → List Int → Option (Pd × List Int)
  | [], d, fs => some (d, fs)
  | k :: l, d, fs => if 0 ≤ k then (match splitO d k.toNat with
    | none => none
    | some (d', true) => splits l d' (fs ++ [(d'.beg.length : Int) - 1])
    | some (d', false) => splits l d' fs) else none
def divideO (d : Pd) (ws : List Int) : Option (Pd × List Int) := match touch ws d [] with
  | none => none
  | some (d', ts) => splits ts d' []
theorem touch_len : ∀ {l : List Int} {d d' : Pd} {ts ts' : List Int}, touch l d ts = some (d', ts') → ts'.length ≤ ts.length + l.length
  | [], d, d', ts, ts', h => by simp only [touch, Option.some.injEq, Prod.mk.injEq] at h; rw [h.2]; simp
  | s :: l, d, d', ts, ts', h => by
    unfold touch at h
    split at h
    · split at h
      · cases h
      · have := touch_len h; simp at this ⊢; omega
      · have := touch_len h; simp at this ⊢; omega
    · cases h
theorem splitted_beg (d : Pd) (k b e m : Nat) : (d.splitted k b e m).1.beg.length ≤ d.beg.length + 1 := by
  unfold Pd.splitted
  split
  · dsimp only; omega
  · split
    · dsimp only [Pd.added]; rw [List.length_append, List.length_set]; simp
    · dsimp only [Pd.added]; rw [List.length_append]; simp
end A
theorem own_lt {w : World} {base : Nat} {v : Value} {l : List Int} (h : OwnInts w base v l) : ∀ g, v.ownBlock = some g → base ≤ g ∧ g < w.heap.size := fun g hg => World.ownsRow.lt h g hg
theorem marked_cls (d : A.Pd) (st c fr b m ot : Nat) : (d.marked st c fr b m ot).cls = d.cls := rfl
set_option maxRecDepth 100000 in
set_option maxHeartbeats 4000000 in
theorem divide_any {w : World} {S Q : Nat → Prop} {pb : Nat} {d d' : A.Pd} {v : Value} {ws fs : List Int} (h : Pt w S pb d) (hw : Ints w Q v ws) (hQ : ∀ b, Q b → ¬ S b) (hd : A.divideO d ws = some (d', fs)) (hl : ws.length ≤ 100000000) :
    Calls Try.prog 80 #[.pointer (some ⟨pb, 0, none⟩), v] w fun r w' => ∃ u, r = .returned u ∧ OwnInts w' w.heap.size u fs ∧ Pt w' (fun x => S x ∨ w.heap.size ≤ x) pb d' ∧ Frm S w w' := by
  obtain ⟨A0, c0, rfl, hw⟩ := hw
  have HW := Lib.hid hw
  have HQ := Lib.hid hQ
  obtain ⟨S0, hS0⟩ : ∃ S0 : Nat → Prop, ∀ b, S0 b ↔ S b ∧ b < w.heap.size := ⟨_, fun b => Iff.rfl⟩
  have HP : Hid (Pt w S0 pb d) := h.mono fun b hb hs => (hS0 b).2 ⟨hs, hb⟩
  have HS0 := Lib.hid hS0
  unfold A.divideO at hd
  split at hd
  · cases hd
  rename_i d1 ts ht
  have HTL : Hid (ts.length ≤ ws.length) := show _ ≤ _ by have := A.touch_len ht; simpa using this
  have HT : Hid (A.touch (ws.drop 0) d [] = some (d1, ts)) := ht
  have HD := Lib.hid hd
  obtain ⟨i0, hi0, hz0, hz1, hz2⟩ := info_parts info_int
  have HWL := Lib.hid hl
  clear h hw hQ hS0 hd ht
  go_enter Try.func80, Try.ntmps80
  go_wp2_with fail
  go_loopg [5, 13] (ws.length + 1) (fun n u i wr => ∃ (k : Nat) (dk : A.Pd) (tk : List Int), k ≤ ws.length ∧ n = ws.length + 1 - k ∧ i = .int .i64 (k : Int) ∧ tk.length ≤ k ∧ Hid (A.touch (ws.drop k) dk tk = some (d1, ts)) ∧ Hid (OwnInts wr w.heap.size u tk) ∧ Hid (Pt wr S0 pb dk) ∧ Hid (Frm S0 w wr))
  case atStart => exact ⟨0, d, [], Nat.zero_le _, rfl, rfl, Nat.le_refl _, HT, World.ownsRow_nil _ _ _ _, HP, Frm.refl _ _⟩
  case round =>
    clear HT HP
    obtain ⟨k, dk, tk, hk, rfl, rfl, htk, HT, HO, HP, HF⟩ := hrel
    obtain ⟨A5, c5, rfl⟩ := own_form HO.out
    by_cases hlt : k < ws.length
    · have hlt' : (k : Int) < (ws.length : Int) := by omega
      obtain ⟨g, o, rfl, hq, hc⟩ := HW.out k hlt
      have c1 := HF.out.cell (fun e => HQ.out g hq ((HS0.out g).1 e).1) hc
      have ht := HT.out
      rw [List.drop_eq_getElem_cons hlt] at ht
      unfold A.touch at ht
      generalize ws[k]'hlt = s at *
      split at ht
      case isFalse => cases ht
      rename_i hs0
      obtain ⟨st, rfl⟩ : ∃ st : Nat, s = (st : Int) := ⟨s.toNat, by omega⟩
      rw [Int.toNat_natCast] at ht
      cases hm : A.markO dk st with
      | none => rw [hm] at ht; cases ht
      | some res =>
      obtain ⟨d2, r⟩ := res
      rw [hm] at ht
      obtain ⟨c, fr, b, m, ot, hmk, rfl, rfl⟩ := A.markO_inv hm
      have HMK := Lib.hid hmk
      have HT2 := Lib.hid ht
      have HCL := Lib.hid hc
      clear hmk hm ht hc hs0
      go_wp2_with fail
      refine (mark_any HP.out HMK.out).mono ?_
      rintro _ w2 ⟨rfl, ⟨vf, q2⟩, f2⟩
      have HP2 : Hid (PtV w2 S0 pb vf (dk.marked st c fr b m ot)) := q2
      have HF2 := Lib.hid (HF.out.trans f2)
      have HO2 : Hid (OwnInts w2 w.heap.size (.slice A5 tk.length c5) tk) := HO.out.frm f2 fun g hg hs => by have := ((HS0.out g).1 hs).2; omega
      clear q2 f2
      by_cases hm0 : m = 0
      · have hb : decide (m = 0) = true := by simp [hm0]
        rw [hb] at HT2 ⊢
        obtain ⟨g2, c2, e2, o2, f2, k2, l2, _⟩ := HP2.out.at_ (i := 2) (j := st) (by decide) (show st < (dk.marked st c fr b m ot).cls.length from HMK.out.h1)
        have hst : (st : Int) < (((dk.marked st c fr b m ot).f 2).length : Int) := by have : st < ((dk.marked st c fr b m ot).f 2).length := HMK.out.h1; omega
        rw [show ((dk.marked st c fr b m ot).f 2).getD st 0 = (dk.marked st c fr b m ot).cls.getD st 0 from rfl] at k2
        generalize ((dk.marked st c fr b m ot).f 2).length = n2 at *
        have HT3 : Hid (A.touch (ws.drop (k + 1)) (dk.marked st c fr b m ot) (tk ++ [(dk.marked st c fr b m ot).cls.getD st 0]) = some (d1, ts)) := HT2.out
        generalize (dk.marked st c fr b m ot).cls.getD st 0 = cl at *
        have HTK := Lib.hid htk
        clear e2 hb hm0 HT2
        go_wp2_with (at_builtin; refine wpList_append_own_at _ rfl _ _ 28 rfl w.heap.size 3 i0 (.int .i64 0) 1 8 Try.underlying28 hi0 hz0 hz1 hz2 rfl (by decide) _ _ _ rfl (HO2.out.alloc _) ⟨w2.heap.size, 0, none⟩ 1 1 [.int .i64 cl] rfl rfl ?y1 ?y2 ?y3 ?y4 ?y5 ?_)
        case y1 => exact cell_one_at (by simp)
        case y2 => simp [Value.oneCell']
        case y3 => have := HTK.out; have := HWL.out; unfold maxLen; omega
        case y4 => have := HTK.out; have := HWL.out; omega
        case y5 => have := HF2.out.1; simp; omega
        intro v' w3 hown1 hgrow _ hat
        obtain ⟨A9, c9, rfl⟩ := own_form hown1
        have f3 : Frm (fun b => w.heap.size ≤ b) w2 w3 := ((Frm.refl _ w2).alloc _).grown hgrow fun g hg _ => (own_lt HO2.out g hg.symm.symm).1
        have HF3 : Hid (Frm S0 w w3) := Frm.mono (E := fun b => S0 b ∨ w.heap.size ≤ b) ((HF2.out.mono fun _ _ h => .inl h).trans (f3.mono fun _ _ h => .inr h)) fun b hb h => h.resolve_right (by omega)
        have HO3 : Hid (OwnInts w3 w.heap.size (.slice A9 (tk.length + 1) c9) (tk ++ [cl])) := OwnInts.grown rfl hown1
        have HP3 : Hid (Pt w3 S0 pb (dk.marked st c fr b m ot)) := Pt.frm ⟨vf, HP2.out⟩ f3 fun b _ hs => by have := ((HS0.out b).1 hs).2; omega
        clear hown1 hgrow hat f3 o2 f2 k2 l2
        go_wp2_with fail
        go_roundg (ws.length + 1 - (k + 1))
        case measure => omega
        case rel => exact ⟨k + 1, _, _, by omega, rfl, by go_num, by have := HTK.out; simp only [List.length_append, List.length_cons, List.length_nil]; omega, HT3, HO3, HP3, HF3⟩
      · have hb : decide (m = 0) = false := by simp [hm0]
        rw [hb] at HT2 ⊢
        have HT3 : Hid (A.touch (ws.drop (k + 1)) (dk.marked st c fr b m ot) tk = some (d1, ts)) := HT2.out
        clear HT2 hm0 hb
        go_wp2_with fail
        go_roundg (ws.length + 1 - (k + 1))
        case measure => omega
        case rel => exact ⟨k + 1, _, tk, by omega, rfl, by go_num, by omega, HT3, HO2, ⟨vf, HP2.out⟩, HF2⟩
    · have hlt' : ¬ (k : Int) < (ws.length : Int) := by omega
      have ht := HT.out
      rw [List.drop_of_length_le (by omega)] at ht
      simp only [A.touch, Option.some.injEq, Prod.mk.injEq] at ht
      obtain ⟨rfl, rfl⟩ := ht
      have HD0 : Hid (A.splits (tk.drop 0) dk [] = some (d', fs)) := HD.out
      have HNO : Hid (∀ g, (Value.slice A5 tk.length c5).ownBlock = some g → ¬ S0 g) := fun g hg hs => by have := ((HS0.out g).1 hs).2; have := own_lt HO.out g hg; omega
      have HSS : Hid (∀ b, S0 b → (S b ∨ w.heap.size ≤ b) ∧ b < wr.heap.size) := fun b hs => ⟨.inl ((HS0.out b).1 hs).1, Nat.lt_of_lt_of_le ((HS0.out b).1 hs).2 HF.out.1⟩
      have HFS : Hid (Frm S w wr) := HF.out.mono fun b _ hs => ((HS0.out b).1 hs).1
      have HTL2 := HTL.out
      have HWL2 := HWL.out
      clear HT HD HF hk hlt
      go_wp2_with fail
      go_loopg [8, 33] (tk.length + 1) (fun n u i wr => ∃ (k : Nat) (dk : A.Pd) (fk : List Int) (Sk : Nat → Prop), k ≤ tk.length ∧ n = tk.length + 1 - k ∧ i = .int .i64 (k : Int) ∧ fk.length ≤ k ∧ Hid (A.splits (tk.drop k) dk fk = some (d', fs)) ∧ Hid (OwnInts wr w.heap.size u fk) ∧ Hid (∀ g, u.ownBlock = some g → ¬ Sk g) ∧ Hid (OwnInts wr w.heap.size (.slice A5 tk.length c5) tk) ∧ Hid (∀ g, (Value.slice A5 tk.length c5).ownBlock = some g → ¬ Sk g ∧ u.ownBlock ≠ some g) ∧ Hid (Pt wr Sk pb dk) ∧ Hid (∀ b, Sk b → (S b ∨ w.heap.size ≤ b) ∧ b < wr.heap.size) ∧ Hid (Frm S w wr))
      case atStart => exact ⟨0, dk, [], S0, Nat.zero_le _, rfl, rfl, Nat.le_refl _, HD0, World.ownsRow_nil _ _ _ _, fun g h => (by cases h), HO, fun g hg => ⟨HNO.out g hg, fun h => (by cases h)⟩, HP, HSS, HFS⟩
      case round =>
        clear HD0 HNO HSS HFS HO HP
        obtain ⟨k, dk, fk, Sk, hk, rfl, rfl, hfk, HD, HO, HNO, HT, HNT, HP, HSS, HF⟩ := hrel
        obtain ⟨A8, c8, rfl⟩ := own_form HO.out
        by_cases hlt : k < tk.length
        · have hlt2 : (k : Int) < (tk.length : Int) := by omega
          obtain ⟨g5, rfl, _, d0⟩ := OwnInts.at_ (l := tk) HT.out hlt
          have hd := HD.out
          rw [List.drop_eq_getElem_cons hlt] at hd
          have hge : tk.getD k 0 = tk[k]'hlt := by simp [hlt]
          rw [← hge] at hd
          unfold A.splits at hd
          generalize tk.getD k 0 = s at *
          split at hd
          case isFalse => cases hd
          rename_i hs0
          obtain ⟨kk, rfl⟩ : ∃ kk : Nat, s = (kk : Int) := ⟨s.toNat, by omega⟩
          rw [Int.toNat_natCast] at hd
          cases hm : A.splitO dk kk with
          | none => rw [hm] at hd; cases hd
          | some res =>
          obtain ⟨d2, r⟩ := res
          rw [hm] at hd
          obtain ⟨b, e, m, hsp, hd2, hr⟩ := A.splitO_inv hm
          have HSP := Lib.hid hsp
          have HD2 := Lib.hid hd
          have HDD := Lib.hid hd2
          have HRR := Lib.hid hr
          clear hsp hm hd hs0 hge hd2 hr
          go_wp2_with fail
          have hsa := split_any HP.out HSP.out
          rw [← HDD.out, ← HRR.out] at hsa
          refine hsa.mono ?_
          rintro _ w2 ⟨rfl, q2, f2⟩
          have hlt' := f2.1
          have HP2 : Hid (Pt w2 (fun b => (Sk b ∨ wr.heap.size ≤ b) ∧ b < w2.heap.size) pb d2) := q2.mono fun b hb hs => ⟨hs, hb⟩
          have HF2 : Hid (Frm S w w2) := Frm.mono (E := fun b => S b ∨ w.heap.size ≤ b) ((HF.out.mono fun _ _ h => .inl h).trans (f2.mono fun b _ h => (HSS.out b h).1)) fun b hb h => h.resolve_right (by omega)
          have HO2 : Hid (OwnInts w2 w.heap.size (.slice A8 fk.length c8) fk) := f2.row HO.out (fun g hg => HNO.out g hg) (Nat.le_refl _)
          have HT2 : Hid (OwnInts w2 w.heap.size (.slice (some ⟨g5, 0, none⟩) tk.length c5) tk) := f2.row HT.out (fun g hg => (HNT.out g hg).1) (Nat.le_refl _)
          have HNO2 : Hid (∀ g, (Value.slice A8 fk.length c8).ownBlock = some g → ¬ ((Sk g ∨ wr.heap.size ≤ g) ∧ g < w2.heap.size)) := fun g hg h => by
            have h1 := HNO.out g hg
            have h2 := (own_lt HO.out g hg).2
            rcases h.1 with h3 | h3
            · exact h1 h3
            · omega
          have HNT2 : Hid (∀ g, (Value.slice (some ⟨g5, 0, none⟩) tk.length c5).ownBlock = some g → ¬ ((Sk g ∨ wr.heap.size ≤ g) ∧ g < w2.heap.size) ∧ (Value.slice A8 fk.length c8).ownBlock ≠ some g) := fun g hg => by
            have h1 := HNT.out g hg
            have h2 := (own_lt HT.out g hg).2
            refine ⟨fun h => ?_, h1.2⟩
            rcases h.1 with h3 | h3
            · exact h1.1 h3
            · omega
          have HSS2 : Hid (∀ b, ((Sk b ∨ wr.heap.size ≤ b) ∧ b < w2.heap.size) → (S b ∨ w.heap.size ≤ b) ∧ b < w2.heap.size) := fun b h => by
            refine ⟨?_, h.2⟩
            rcases h.1 with h3 | h3
            · exact (HSS.out b h3).1
            · exact .inr (Nat.le_trans HF.out.1 h3)
          obtain ⟨Sk2, hSk2⟩ : ∃ Sk2 : Nat → Prop, Sk2 = fun b => (Sk b ∨ wr.heap.size ≤ b) ∧ b < w2.heap.size := ⟨_, rfl⟩
          have HP3 : Hid (Pt w2 Sk2 pb d2) := by rw [hSk2]; exact HP2
          have HNO3 : Hid (∀ g, (Value.slice A8 fk.length c8).ownBlock = some g → ¬ Sk2 g) := by rw [hSk2]; exact HNO2
          have HNT3 : Hid (∀ g, (Value.slice (some ⟨g5, 0, none⟩) tk.length c5).ownBlock = some g → ¬ Sk2 g ∧ (Value.slice A8 fk.length c8).ownBlock ≠ some g) := by rw [hSk2]; exact HNT2
          have HSS3 : Hid (∀ b, Sk2 b → (S b ∨ w.heap.size ≤ b) ∧ b < w2.heap.size) := by rw [hSk2]; exact HSS2
          have hbeg : d2.beg.length ≤ 1000000001 := by have := HSP.out.h12; have := A.splitted_beg dk kk b e m; rw [← HDD.out] at this; omega
          clear q2 f2 hsa HP2 HNO2 HNT2 HSS2 hSk2 HP HNO HNT HSS HF HO HT d0
          cases r with
          | false =>
            have HD3 : Hid (A.splits (tk.drop (k + 1)) d2 fk = some (d', fs)) := HD2.out
            clear HD2
            go_wp2_with fail
            go_roundg (tk.length + 1 - (k + 1))
            case measure => omega
            case rel => exact ⟨k + 1, d2, fk, Sk2, by omega, rfl, by go_num, by omega, HD3, HO2, HNO3, HT2, HNT3, HP3, HSS3, HF2⟩
          | true =>
            have HD3 : Hid (A.splits (tk.drop (k + 1)) d2 (fk ++ [(d2.beg.length : Int) - 1]) = some (d', fs)) := HD2.out
            obtain ⟨vf2, hv2⟩ := HP3.out
            obtain ⟨A3, c3, e3, o3, f3, _⟩ := hv2.slot (i := 3) (by decide)
            have hl3 : (d2.f 3).length = d2.beg.length := rfl
            rw [hl3] at o3
            have HFK := Lib.hid hfk
            clear HD2 e3 hl3 hv2 hfk
            go_wp2_with (at_builtin; refine wpList_append_own_at _ rfl _ _ 28 rfl w.heap.size 3 i0 (.int .i64 0) 1 8 Try.underlying28 hi0 hz0 hz1 hz2 rfl (by decide) _ _ _ rfl (HO2.out.alloc _) ⟨w2.heap.size, 0, none⟩ 1 1 [.int .i64 ((d2.beg.length : Int) - 1)] rfl rfl ?z1 ?z2 ?z3 ?z4 ?z5 ?_)
            case z1 => exact cell_one_at (by simp)
            case z2 => simp [Value.oneCell']
            case z3 => have := HFK.out; unfold maxLen; omega
            case z4 => have := HFK.out; omega
            case z5 => have := HF2.out.1; simp; omega
            intro v' w3 hown1 hgrow _ hat
            obtain ⟨A9, c9, rfl⟩ := own_form hown1
            have f3 : Frm (fun b => (Value.slice A8 fk.length c8).ownBlock = some b) w2 w3 := ((Frm.refl _ w2).alloc _).grown hgrow fun g hg _ => hg
            have HF3 : Hid (Frm S w w3) := Frm.mono (E := fun b => S b ∨ w.heap.size ≤ b) ((HF2.out.mono fun _ _ h => .inl h).trans (f3.mono fun b _ h => .inr (own_lt HO2.out b h).1)) fun b hb h => h.resolve_right (by omega)
            have HO3 : Hid (OwnInts w3 w.heap.size (.slice A9 (fk.length + 1) c9) (fk ++ [(d2.beg.length : Int) - 1])) := OwnInts.grown rfl hown1
            have HP4 : Hid (Pt w3 Sk2 pb d2) := Pt.frm HP3.out f3 fun b _ hs h => HNO3.out b h hs
            have HT3 : Hid (OwnInts w3 w.heap.size (.slice (some ⟨g5, 0, none⟩) tk.length c5) tk) := f3.row HT2.out (fun g hg h => (HNT3.out g hg).2 h) (Nat.le_refl _)
            have HNO4 : Hid (∀ g, (Value.slice A9 (fk.length + 1) c9).ownBlock = some g → ¬ Sk2 g) := fun g hg hs => by
              rcases hat with h | h
              · rw [h] at hg; exact HNO3.out g hg hs
              · rw [h] at hg; have := (HSS3.out g hs).2; simp at hg; omega
            have HNT4 : Hid (∀ g, (Value.slice (some ⟨g5, 0, none⟩) tk.length c5).ownBlock = some g → ¬ Sk2 g ∧ (Value.slice A9 (fk.length + 1) c9).ownBlock ≠ some g) := fun g hg => by
              refine ⟨(HNT3.out g hg).1, fun hn => ?_⟩
              rcases hat with h | h
              · rw [h] at hn; exact (HNT3.out g hg).2 hn
              · rw [h] at hn; have := (own_lt HT2.out g hg).2; simp at hn; omega
            have HSS4 : Hid (∀ b, Sk2 b → (S b ∨ w.heap.size ≤ b) ∧ b < w3.heap.size) := fun b hs => ⟨(HSS3.out b hs).1, Nat.lt_of_lt_of_le (HSS3.out b hs).2 f3.1⟩
            clear hown1 hgrow hat f3 o3 
            go_wp2_with fail
            go_roundg (tk.length + 1 - (k + 1))
            case measure => omega
            case rel => exact ⟨k + 1, d2, _, Sk2, by omega, rfl, by go_num, by have := HFK.out; simp only [List.length_append, List.length_cons, List.length_nil]; omega, HD3, HO3, HNO4, HT3, HNT4, HP4, HSS4, HF3⟩
        · have hlt2 : ¬ (k : Int) < (tk.length : Int) := by omega
          have hd := HD.out
          rw [List.drop_of_length_le (by omega)] at hd
          simp only [A.splits, Option.some.injEq, Prod.mk.injEq] at hd
          obtain ⟨rfl, rfl⟩ := hd
          clear HD
          go_wp2_with fail
          go_ret
          exact ⟨_, rfl, HO.out, HP.out.mono fun b _ hs => (HSS.out b hs).1, HF.out⟩
end Go.Proofs.Ytiekaicbjinbaaa
end
section
namespace Go.Proofs.Ytiekaicbjinbaaa
open Go.RowKit Go.Maps
namespace A
variable {α : Type} [DecidableEq α]
def idx (x : α) : List α → Nat
  | [] => 0
  | y :: l => if y = x then 0 else idx x l + 1
theorem idx_lt {x : α} : ∀ {l : List α}, x ∈ l → idx x l < l.length
  | y :: l, h => by
    unfold idx
    by_cases e : y = x
    · simp [e]
    · rw [if_neg e]
      have := idx_lt (l := l) (by rcases List.mem_cons.1 h with h | h; exact absurd h.symm e; exact h)
      simp; omega
theorem idx_get {x : α} : ∀ {l : List α} (h : x ∈ l), l[idx x l]'(idx_lt h) = x
  | y :: l, h => by
    by_cases e : y = x
    · simp [idx, e]
    · have h2 : x ∈ l := by rcases List.mem_cons.1 h with h | h; exact absurd h.symm e; exact h
      have := idx_get h2
      simp only [idx, if_neg e, List.getElem_cons_succ]
      exact this
/-- The number of a thing, and what is found then. -/
def numO (none_ x : α) (ts : List α) : Int × List α := if x = none_ then (-1, ts) else if x ∈ ts then (idx x ts, ts) else (ts.length, ts ++ [x])
end A
section
variable {α : Type} [DecidableEq α]
/-- What the datum D tells of numbers: none has -1, each thing its place. -/
structure Reads (kl : α → Lit) (ok : α → Prop) (none_ : α) (ts : List α) (D : DataW Unit) : Prop where
  map : IsMap D
  has : ∀ x, ok x → Maps.has D (kl x) = decide (x = none_ ∨ x ∈ ts)
  non : D.atKey (kl none_) (.lit (.int .i64 0)) = .lit (.int .i64 (-1))
  at_ : ∀ i (h : i < ts.length), D.atKey (kl ts[i]) (.lit (.int .i64 0)) = .lit (.int .i64 (i : Int))
  oks : ∀ x ∈ ts, ok x
  nin : none_ ∉ ts
  okn : ok none_
theorem Reads.new {kl : α → Lit} {ok : α → Prop} {none_ : α} (hk : ∀ x, ok x → WideAt.IsKeyLit (kl x)) (hinj : ∀ x y, ok x → ok y → kl x = kl y → x = y) (hn : ok none_) : Reads kl ok none_ [] ((.map [] : DataW Unit).put (kl none_) (.lit (.int .i64 (-1)))) := by
  refine ⟨isMap_empty.put _ _, fun x hx => ?_, atKey_put_same isMap_empty (hk _ hn) _ _, fun i h => by simp at h, fun x hx => by simp at hx, by simp, hn⟩
  by_cases e : x = none_
  · subst e; rw [has_put_same isMap_empty (hk _ hn)]; simp
  · rw [has_put_other (fun h => e (hinj _ _ hx hn h))]; simp [e]; rfl
theorem Reads.put {kl : α → Lit} {ok : α → Prop} {none_ : α} {ts : List α} {D : DataW Unit} (h : Reads kl ok none_ ts D) (hk : ∀ x, ok x → WideAt.IsKeyLit (kl x)) (hinj : ∀ x y, ok x → ok y → kl x = kl y → x = y) {x : α} (hx : ok x) (hn : x ≠ none_) (hm : x ∉ ts) : Reads kl ok none_ (ts ++ [x]) (D.put (kl x) (.lit (.int .i64 (ts.length : Int)))) := by
  refine ⟨h.map.put _ _, fun y hy => ?_, ?_, fun i hi => ?_, fun y hy => ?_, ?_, h.okn⟩
  · by_cases e : y = x
    · subst e; rw [has_put_same h.map (hk _ hx)]; simp
    · rw [has_put_other (fun h => e (hinj _ _ hy hx h)), h.has y hy]; simp [e]
  · rw [atKey_put_other (fun e => hn (hinj _ _ hx h.okn e.symm))]; exact h.non
  · by_cases hlt : i < ts.length
    · have e : (ts ++ [x])[i] = ts[i] := List.getElem_append_left hlt
      rw [e, atKey_put_other (fun e2 => hm ((hinj _ _ (h.oks _ (List.getElem_mem hlt)) hx e2) ▸ List.getElem_mem hlt))]
      exact h.at_ i hlt
    · have hi' : i = ts.length := by simp at hi; omega
      subst hi'
      have e : (ts ++ [x])[ts.length] = x := by simp
      rw [e, atKey_put_same h.map (hk _ hx)]
  · rw [List.mem_append, List.mem_singleton] at hy
    rcases hy with hy | hy
    · exact h.oks y hy
    · subst hy; exact hx
  · rw [List.mem_append, List.mem_singleton]
    rintro (h2 | h2)
    · exact h.nin h2
    · exact hn h2.symm
structure FT (α : Type) where
  fty : TypeId
  e : TypeId
  k : TypeId
  sz : Nat
  f : α → List Value
/-- What is found, in the block fb; all lies in S. -/
structure Fnd (T : FT α) (kl : α → Lit) (ok : α → Prop) (none_ : α) (w : World) (S : Nat → Prop) (fb mb : Nat) (v : Value) (ts : List α) (D : DataW Unit) : Prop where
  out : Blk w fb T.fty #[.map (some mb), v]
  own : w.ownsMap Try.prog T.k (plainElem Try.prog 3) mb (ts.length + 1) D
  rd : Reads kl ok none_ ts D
  row : w.ownsRow 0 T.e T.sz v ts.length (ts.flatMap T.f)
  sf : S fb
  sm : S mb
  sv : ∀ g, v.ownBlock = some g → S g ∧ g ≠ fb ∧ g ≠ mb
  nm : fb ≠ mb
theorem ownsMap_heap {w w' : World} {k : TypeId} {R : Value → Option (DataW Unit × List MemPlace)} {b n : Nat} {D : DataW Unit} (h : w.ownsMap Try.prog k R b n D) (e : w'.heap[b]? = w.heap[b]?) : w'.ownsMap Try.prog k R b n D := by
  obtain ⟨es, clock, h1, h2, h3, h4⟩ := h
  exact ⟨es, clock, e.trans h1, h2, h3, h4⟩
theorem ownsMap_lt {w : World} {k : TypeId} {R : Value → Option (DataW Unit × List MemPlace)} {b n : Nat} {D : DataW Unit} (h : w.ownsMap Try.prog k R b n D) : b < w.heap.size := by
  obtain ⟨es, clock, h1, _⟩ := h
  exact lt_of_heap h1
variable {T : FT α} {kl : α → Lit} {ok : α → Prop} {none_ : α} {w w' : World} {S S' E : Nat → Prop} {fb mb : Nat} {v : Value} {ts : List α} {D : DataW Unit}
theorem Fnd.frm (h : Fnd T kl ok none_ w S fb mb v ts D) (F : Frm E w w') (hE : ∀ b, b < w.heap.size → S b → ¬ E b) : Fnd T kl ok none_ w' S fb mb v ts D :=
  ⟨F.blk h.out (hE _ h.out.lt h.sf), ownsMap_heap h.own (F.2 _ (ownsMap_lt h.own) (hE _ (ownsMap_lt h.own) h.sm)), h.rd, F.row h.row (fun g hg => hE g (World.ownsRow.lt h.row g hg).2 (h.sv g hg).1) (Nat.le_refl _), h.sf, h.sm, h.sv, h.nm⟩
theorem Fnd.mono (h : Fnd T kl ok none_ w S fb mb v ts D) (hS : ∀ b, b < w.heap.size → S b → S' b) : Fnd T kl ok none_ w S' fb mb v ts D :=
  ⟨h.out, h.own, h.rd, h.row, hS _ h.out.lt h.sf, hS _ (ownsMap_lt h.own) h.sm, fun g hg => ⟨hS _ (World.ownsRow.lt h.row g hg).2 (h.sv g hg).1, (h.sv g hg).2⟩, h.nm⟩
/-- A thing put in: the map turned to w1, then its number in the list's new row in w2, then the field. -/
theorem Fnd.add (h : Fnd T kl ok none_ w S fb mb v ts D) (hk : ∀ x, ok x → WideAt.IsKeyLit (kl x)) (hinj : ∀ x y, ok x → ok y → kl x = kl y → x = y) {x : α} (hx : ok x) (hn : x ≠ none_) (hm : x ∉ ts) {w1 W w2 : World} {v' : Value} {p : Nat}
    (ho1 : w1.ownsMap Try.prog T.k (plainElem Try.prog 3) mb (ts.length + 1 + 1) (D.put (kl x) (.lit (.int .i64 (ts.length : Int))))) (hg1 : w.grownBy w1 (some mb)) (hW : w1.grownBy W none) (ho2 : w2.ownsRow 0 T.e T.sz v' (ts.length + 1) (ts.flatMap T.f ++ T.f x)) (hg2 : W.grownBy w2 v.ownBlock) (hl : v'.ownBlock = v.ownBlock ∨ v'.ownBlock = some p) (hp : w.heap.size ≤ p) :
    Fnd T kl ok none_ (w2.setCell ⟨fb, 1, none⟩ v') (fun b => S b ∨ w.heap.size ≤ b) fb mb v' (ts ++ [x]) (D.put (kl x) (.lit (.int .i64 (ts.length : Int)))) ∧ Frm S w (w2.setCell ⟨fb, 1, none⟩ v') ∧ w2.cell? ⟨fb, 1, none⟩ = some v ∧ w2.frozen? ⟨fb, 1, none⟩ = false := by
  have F1 : Frm S w w1 := (Frm.refl S w).grown hg1 fun g e _ => by injection e with e; subst e; exact h.sm
  have F2 : Frm S w W := F1.grown hW fun g e _ => by cases e
  have F3 : Frm S w w2 := F2.grown hg2 fun g e _ => (h.sv g e.symm.symm).1
  have hb1 : Blk w1 fb T.fty #[.map (some mb), v] := h.out.grown hg1 fun e => by injection e with e; exact h.nm e
  have hb2 : Blk w2 fb T.fty #[.map (some mb), v] := (hb1.grown hW (fun e => by cases e)).grown hg2 fun e => (h.sv fb e.symm).2.1 rfl
  have hmb1 : mb < w1.heap.size := ownsMap_lt ho1
  have hmW : W.heap[mb]? = w1.heap[mb]? := hW.block mb hmb1 (fun e => by cases e)
  have hm2 : w2.heap[mb]? = W.heap[mb]? := hg2.block mb (Nat.lt_of_lt_of_le hmb1 hW.size) fun e => (h.sv mb e.symm).2.2 rfl
  have hnew : ∀ g, v'.ownBlock = some g → (S g ∨ w.heap.size ≤ g) ∧ g ≠ fb ∧ g ≠ mb := fun g hg => by
    rcases hl with e | e
    · rw [e] at hg
      exact ⟨.inl (h.sv g hg).1, (h.sv g hg).2⟩
    · rw [e] at hg
      injection hg with hg
      have := h.out.lt
      have := ownsMap_lt h.own
      exact ⟨.inr (by omega), by omega, by omega⟩
  refine ⟨⟨?_, ?_, h.rd.put hk hinj hx hn hm, ?_, .inl h.sf, .inl h.sm, hnew, h.nm⟩, F3.set_ (fun _ => h.sf) _, hb2.cell 1, hb2.frozen 1⟩
  · exact hb2.set_ 1 v'
  · rw [List.length_append]
    exact ownsMap_heap ho1 (by rw [Below.heap_setCell w2 ⟨fb, 1, none⟩ v' mb (fun e => h.nm e.symm), hm2, hmW])
  · rw [List.length_append, List.flatMap_append, show [x].flatMap T.f = T.f x by simp]
    refine ⟨ho2.1, ho2.2.imp id fun ⟨g', cap, cur, e', hbase, hx, h3⟩ => ⟨g', cap, cur, e', hbase, ?_, h3⟩⟩
    exact Blk.far (cs := cur) hx (hnew g' (by rw [e']; rfl)).2.1 v'
end
theorem law_int : Keyed Try.prog 3 := int_keyed Try.underlying3
theorem zero_int (w : World) : (zeroValue 3).run Try.prog w = .ok (.int .i64 0) w := by kernel_rfl
def fdT : FT Int := ⟨129, 3, 3, 1, fun x => [.int .i64 x]⟩
def okI (x : Int) : Prop := (Lit.int .i64 x).wf = true
def klI (x : Int) : Lit := .int .i64 x
theorem klI_key : ∀ x, okI x → WideAt.IsKeyLit (klI x) := fun _ hx => law_int.key (keyOf_int_mk Try.underlying3 hx)
theorem klI_inj : ∀ x y, okI x → okI y → klI x = klI y → x = y := fun x y _ _ h => by unfold klI at h; injection h
/-- What is found of ints. -/
def FdI (w : World) (S : Nat → Prop) (fb : Nat) (none_ : Int) (ts : List Int) : Prop := ∃ mb v D, Fnd fdT klI okI none_ w S fb mb v ts D
set_option maxRecDepth 100000 in
set_option maxHeartbeats 8000000 in
theorem numberI_any {w : World} {S : Nat → Prop} {fb : Nat} {none_ x : Int} {ts : List Int} (h : FdI w S fb none_ ts) (hx : okI x) (hl : ts.length ≤ 1000000000) :
    Calls Try.prog 81 #[.pointer (some ⟨fb, 0, none⟩), .int .i64 x] w fun e w' => e = .returned (.int .i64 (A.numO none_ x ts).1) ∧ FdI w' (fun b => S b ∨ w.heap.size ≤ b) fb none_ (A.numO none_ x ts).2 ∧ Frm S w w' := by
  obtain ⟨mb, v, D, h⟩ := h
  obtain ⟨A1, c1, rfl⟩ := own_form h.row
  have x0 := h.out.cell 0
  have x1 := h.out.cell 1
  have f1 := h.out.frozen 1
  have HF := Lib.hid h
  have hown := h.own
  have hkey := keyOf_int_mk Try.underlying3 hx
  have HH := Lib.hid (h.rd.has x hx)
  have HX := Lib.hid hx
  clear h hx
  go_enter Try.func81, Try.ntmps81
  by_cases hin : x = none_ ∨ x ∈ ts
  · have hh : Maps.has D (.int .i64 x) = true := by have h := HH.out; rw [decide_eq_true hin] at h; exact h
    have HN : Hid (∀ c : Int, D.atKey (.int .i64 x) (.lit (.int .i64 0)) = .lit (.int .i64 c) → A.numO none_ x ts = (c, ts)) := fun c hc => by
      unfold A.numO
      by_cases hxn : x = none_
      · rw [if_pos hxn]
        have := HF.out.rd.non
        rw [← hxn] at this
        have e : (DataW.lit (Lit.int .i64 (-1)) : DataW Unit) = .lit (.int .i64 c) := this.symm.trans hc
        injection e with e
        injection e with _ e
        rw [← e]
      · have hm : x ∈ ts := hin.resolve_left hxn
        rw [if_neg hxn, if_pos hm]
        have := HF.out.rd.at_ _ (A.idx_lt hm)
        rw [A.idx_get hm] at this
        have e : (DataW.lit (Lit.int .i64 (A.idx x ts : Int)) : DataW Unit) = .lit (.int .i64 c) := this.symm.trans hc
        injection e with e
        injection e with _ e
        rw [← e]
    clear hin
    go_wp2_with (at_lookup; refine wpList_lookup_own_ok_int _ rfl _ _ 127 rfl 3 3 .i64 law_int Try.underlying127 Try.underlying3 (zero_int _) mb _ D rfl hown _ _ rfl hkey ?_; intro c hat hwc)
    have HN2 := Lib.hid (HN.out c hat)
    clear hat hwc HN
    go_ret
    rw [HN2.out]
    exact ⟨rfl, ⟨mb, _, D, HF.out.mono fun _ _ h => .inl h⟩, Frm.refl _ _⟩
  · have hh : Maps.has D (.int .i64 x) = false := by have h := HH.out; rw [decide_eq_false hin] at h; exact h
    obtain ⟨hxn, hxm⟩ : x ≠ none_ ∧ x ∉ ts := ⟨fun e => hin (.inl e), fun e => hin (.inr e)⟩
    have HN : Hid (A.numO none_ x ts = ((ts.length : Int), ts ++ [x])) := show _ = _ by unfold A.numO; rw [if_neg hxn, if_neg hxm]
    have HXN := Lib.hid hxn
    have HXM := Lib.hid hxm
    have HNM := Lib.hid HF.out.nm
    obtain ⟨i0, hi0, hz0, hz1, hz2⟩ := info_parts info_int
    clear hin hxn hxm
    go_wp2_with (first | (at_lookup; refine wpList_lookup_own_ok_int _ rfl _ _ 127 rfl 3 3 .i64 law_int Try.underlying127 Try.underlying3 (zero_int _) mb _ D rfl hown _ _ rfl hkey ?_; intro c hat hwc; clear hat hwc) | (at_mapUpdate; refine wpList_mapUpdate_own _ rfl _ _ _ 127 rfl 3 3 law_int Try.underlying127 _ mb _ D rfl hown ?u1 _ _ _ rfl rfl hkey _ [] (plainElem_int Try.underlying3 ?u2) ?_))
    case u1 => unfold maxLen; omega
    case u2 => exact WalkArith.wf_i64 (by omega)
    intro w1 hown1 hgrow1
    have hb1 : Blk w1 fb 129 #[.map (some mb), .slice A1 ts.length c1] := HF.out.out.grown hgrow1 fun e => by injection e with e; exact HNM.out e
    have hr1 : w1.ownsRow 0 3 1 (.slice A1 ts.length c1) ts.length (ts.flatMap fdT.f) := World.ownsRow.kept HF.out.row hgrow1 (by
      cases hv : (Value.slice A1 ts.length c1).ownBlock with
      | none => exact .inl rfl
      | some g => exact .inr fun e => (HF.out.sv g hv).2.2 (by injection e))
    have HO1 := Lib.hid hown1
    have HG1 := Lib.hid hgrow1
    have HR1 := Lib.hid hr1
    have y1 := hb1.cell 1
    have hsz := hgrow1.size
    clear hown1 hgrow1 hb1 hr1 hown x0 x1 f1 hh
    go_wp2_with (at_builtin; refine wpList_append_own_at _ rfl _ _ 28 rfl 0 3 i0 (.int .i64 0) 1 8 Try.underlying28 hi0 hz0 hz1 hz2 rfl (by decide) _ _ _ rfl (HR1.out.alloc _) ⟨w1.heap.size, 0, none⟩ 1 1 [.int .i64 x] rfl rfl ?y1 ?y2 ?y3 ?y4 ?y5 ?_)
    case y1 => exact cell_one_at rfl
    case y2 => simp [Value.oneCell']
    case y3 => unfold maxLen; omega
    case y4 => omega
    case y5 => exact Nat.zero_le _
    intro v' w2 hown2 hgrow2 _ hat
    obtain ⟨A9, c9, rfl⟩ := own_form hown2
    obtain ⟨q1, q2, q3, q4⟩ := HF.out.add klI_key klI_inj HX.out HXN.out HXM.out HO1.out HG1.out (World.grownBy_alloc w1 _ none) hown2 hgrow2 hat (by first | omega | (simp; omega))
    have Q1 := Lib.hid q1
    have Q2 := Lib.hid q2
    clear q1 q2 hown2 hgrow2 hat y1 hsz
    go_wp2_with fail
    go_ret
    rw [HN.out]
    exact ⟨rfl, ⟨mb, _, _, Q1.out⟩, Q2.out⟩
end Go.Proofs.Ytiekaicbjinbaaa
end
section
namespace Go.Proofs.Ytiekaicbjinbaaa
open Go.RowKit Go.Maps
theorem laid_out : laidOutB Try.prog = true := by kernel_rfl
theorem keytype_pair : Try.prog.keyType 40 = true := by kernel_rfl
theorem types_pos : 0 < Try.prog.types.size := of_decide_eq_true (by kernel_rfl)
theorem law_pair : Keyed Try.prog 40 := Keyed.of_law (deep_law_gate laid_out (of_decide_eq_true (by kernel_rfl)) (of_decide_eq_true (by kernel_rfl)) keytype_pair (by kernel_rfl))
def okP (p : A.Pr) : Prop := (Lit.int .i64 p.1).wf = true ∧ (Lit.int .i64 p.2).wf = true
def klP (p : A.Pr) : Lit := .string (keyBytes [.int .i64 p.1, .int .i64 p.2])
theorem cells_pair : Try.prog.cellsOf 40 = 2 := by kernel_rfl
theorem cells_int : Try.prog.cellsOf 3 = 1 := by kernel_rfl
theorem keyOf_pair {p : A.Pr} (h : okP p) : keyOf Try.prog 40 (pairV p) = some (klP p) := by
  have hl : ∀ d, Try.prog.keyLits (d + 2) 40 [.int .i64 p.1, .int .i64 p.2] = some [.int .i64 p.1, .int .i64 p.2] := fun d => by
    simp [Program.keyLits, Try.underlying40, Try.underlying3, cells_pair, cells_int, h.1, h.2]
  unfold keyOf
  rw [Try.underlying40]
  simp [keytype_pair, Value.formed, pairV, Try.underlying40, cells_pair, Value.cells, hl, klP]
theorem klP_key : ∀ x, okP x → WideAt.IsKeyLit (klP x) := fun _ hx => law_pair.key (keyOf_pair hx)
theorem klP_inj : ∀ x y, okP x → okP y → klP x = klP y → x = y := fun x y hx hy h => by
  have := law_pair.inj (keyOf_pair hx) (h ▸ keyOf_pair hy)
  obtain ⟨a, b⟩ := x
  obtain ⟨c, d⟩ := y
  simpa [pairV] using this
def pairC (p : A.Pr) : List Value := [.int .i64 p.1, .int .i64 p.2]
def fdPT : FT A.Pr := ⟨88, 40, 40, 2, pairC⟩
/-- What is found of pairs. -/
def FdP (w : World) (S : Nat → Prop) (fb : Nat) (none_ : A.Pr) (ts : List A.Pr) : Prop := ∃ mb v D, Fnd fdPT klP okP none_ w S fb mb v ts D
theorem info_pair_ : (Try.prog.info? 40).map (fun i => (i.zero, i.size, i.bytes)) = some (some (.agg #[.int .i64 0, .int .i64 0]), 2, 16) := by kernel_rfl
set_option maxRecDepth 100000 in
/-- The lookup at a pair, in whatever world with the same memory. -/
theorem look_pair {w : World} {mb n : Nat} {D : DataW Unit} {p : A.Pr} (h : w.ownsMap Try.prog 40 (plainElem Try.prog 3) mb n D) (hp : okP p) : ∃ c : Int, D.atKey (klP p) (.lit (.int .i64 0)) = .lit (.int .i64 c) ∧ ∀ W : World, W.heap = w.heap → (Instr.lookup 86 (.map (some mb)) (pairV p) true).run Try.prog W = .ok (.tuple #[.int .i64 c, .bool (Maps.has D (klP p))]) W := by
  have key : ∀ W : World, W.heap = w.heap → ∃ c : Int, D.atKey (klP p) (.lit (.int .i64 0)) = .lit (.int .i64 c) ∧ (Instr.lookup 86 (.map (some mb)) (pairV p) true).run Try.prog W = .ok (.tuple #[.int .i64 c, .bool (Maps.has D (klP p))]) W := fun W hW => by
    have hW2 : W.ownsMap Try.prog 40 (plainElem Try.prog 3) mb n D := ownsMap_heap h (by rw [hW])
    obtain ⟨v, ps, hrun, hv⟩ := hW2.look_ok law_pair Try.underlying86 (zero_int W) (plainElem_int (H := Unit) Try.underlying3 (by decide : (Lit.int .i64 0).wf = true)) (keyOf_pair hp)
    obtain ⟨c, rfl, hc, hwc⟩ := plainElem_int_inv Try.underlying3 hv
    exact ⟨c, congrArg Prod.fst hc, hrun⟩
  obtain ⟨c, hc, _⟩ := key w rfl
  refine ⟨c, hc, fun W hW => ?_⟩
  obtain ⟨c', hc', hr⟩ := key W hW
  have : c' = c := by
    have e : (DataW.lit (Lit.int .i64 c') : DataW Unit) = .lit (.int .i64 c) := hc'.symm.trans hc
    injection e with e
    injection e
  rw [this] at hr
  exact hr
set_option maxRecDepth 100000 in
set_option maxHeartbeats 16000000 in
theorem numberP_any {w : World} {S : Nat → Prop} {fb : Nat} {none_ x : A.Pr} {ts : List A.Pr} (h : FdP w S fb none_ ts) (hx : okP x) (hl : ts.length ≤ 1000000000) :
    Calls Try.prog 52 #[.pointer (some ⟨fb, 0, none⟩), pairV x] w fun e w' => e = .returned (.int .i64 (A.numO none_ x ts).1) ∧ FdP w' (fun b => S b ∨ w.heap.size ≤ b) fb none_ (A.numO none_ x ts).2 ∧ Frm S w w' := by
  obtain ⟨mb, v, D, h⟩ := h
  obtain ⟨A1, c1, rfl⟩ := own_form h.row
  have HF0 := Lib.hid h
  have HF : Hid (Fnd fdPT klP okP none_ (w.alloc (.cells #[.int .i64 x.1, .int .i64 x.2] 40)) S fb mb (.slice A1 ts.length c1) ts D) := h.frm (E := fun _ => False) ((Frm.refl _ w).alloc _) fun _ _ _ => id
  have x0 := HF.out.out.cell 0
  have x1 := HF.out.out.cell 1
  have f1 := HF.out.out.frozen 1
  obtain ⟨c, hat, hrun⟩ := look_pair HF.out.own hx
  have HH := Lib.hid (h.rd.has x hx)
  have HX := Lib.hid hx
  have HAT := Lib.hid hat
  clear h hx hat
  by_cases hin : x = none_ ∨ x ∈ ts
  · have hh : Maps.has D (klP x) = true := by rw [HH.out]; simp [hin]
    have HN : Hid (A.numO none_ x ts = (c, ts)) := show _ = _ by
      unfold A.numO
      by_cases hxn : x = none_
      · rw [if_pos hxn]
        have := HF.out.rd.non
        rw [← hxn] at this
        have e : (DataW.lit (Lit.int .i64 (-1)) : DataW Unit) = .lit (.int .i64 c) := this.symm.trans HAT.out
        injection e with e
        injection e with _ e
        rw [← e]
      · have hm : x ∈ ts := hin.resolve_left hxn
        rw [if_neg hxn, if_pos hm]
        have := HF.out.rd.at_ _ (A.idx_lt hm)
        rw [A.idx_get hm] at this
        have e : (DataW.lit (Lit.int .i64 (A.idx x ts : Int)) : DataW Unit) = .lit (.int .i64 c) := this.symm.trans HAT.out
        injection e with e
        injection e with _ e
        rw [← e]
    rw [hh] at hrun
    have hrq : ∀ n, (Instr.lookup 86 (.map (some mb)) (.agg #[.int .i64 x.1, .int .i64 x.2]) true).run Try.prog ((w.alloc (.cells #[.int .i64 x.1, .int .i64 x.2] 40)).drewN n) = .ok (.tuple #[.int .i64 c, .bool true]) ((w.alloc (.cells #[.int .i64 x.1, .int .i64 x.2] 40)).drewN n) := fun n => hrun _ rfl
    clear hin hrun hh
    simp only [pairV]
    go_enter Try.func52, Try.ntmps52
    go_wp2_with fail
    go_quiet (fail)
    go_wp2_with fail
    go_ret
    rw [HN.out]
    exact ⟨rfl, ⟨mb, _, D, Fnd.mono (Fnd.frm (E := fun _ => False) HF.out ((Frm.refl _ _).drewN nq) fun _ _ _ => id) fun _ _ h => .inl h⟩, ((Frm.refl _ w).alloc _).drewN nq⟩
  · have hh : Maps.has D (klP x) = false := by rw [HH.out]; simp [hin]
    obtain ⟨hxn, hxm⟩ : x ≠ none_ ∧ x ∉ ts := ⟨fun e => hin (.inl e), fun e => hin (.inr e)⟩
    have HN : Hid (A.numO none_ x ts = ((ts.length : Int), ts ++ [x])) := show _ = _ by unfold A.numO; rw [if_neg hxn, if_neg hxm]
    have HXN := Lib.hid hxn
    have HXM := Lib.hid hxm
    have HNM := Lib.hid HF.out.nm
    rw [hh] at hrun
    have hrq : ∀ n, (Instr.lookup 86 (.map (some mb)) (.agg #[.int .i64 x.1, .int .i64 x.2]) true).run Try.prog ((w.alloc (.cells #[.int .i64 x.1, .int .i64 x.2] 40)).drewN n) = .ok (.tuple #[.int .i64 c, .bool false]) ((w.alloc (.cells #[.int .i64 x.1, .int .i64 x.2] 40)).drewN n) := fun n => hrun _ rfl
    have hkey : keyOf Try.prog 40 (.agg #[.int .i64 x.1, .int .i64 x.2]) = some (klP x) := keyOf_pair HX.out
    obtain ⟨i0, hi0, hz0, hz1, hz2⟩ := info_parts info_pair_
    clear hin hrun hh hxn hxm
    simp only [pairV]
    go_enter Try.func52, Try.ntmps52
    go_wp2_with fail
    go_quiet (fail)
    go_wp2_with fail
    have HFQ : Hid (Fnd fdPT klP okP none_ ((w.alloc (.cells #[.int .i64 x.1, .int .i64 x.2] 40)).drewN nq) S fb mb (.slice A1 ts.length c1) ts D) := Fnd.frm (E := fun _ => False) HF.out ((Frm.refl _ _).drewN nq) fun _ _ _ => id
    have HBQ : Hid (Blk ((w.alloc (.cells #[.int .i64 x.1, .int .i64 x.2] 40)).drewN nq) w.heap.size 40 #[.int .i64 x.1, .int .i64 x.2]) := (Blk.new w _ _).drewN nq
    have HFR : Hid (Frm (fun _ => False) w ((w.alloc (.cells #[.int .i64 x.1, .int .i64 x.2] 40)).drewN nq)) := ((Frm.refl _ w).alloc _).drewN nq
    have HSB : Hid (∀ b, b ≠ w.heap.size → S b → S b) := fun _ _ h => h
    have HSL : Hid (w.heap.size ≠ mb ∧ w.heap.size ≠ fb ∧ (Value.slice A1 ts.length c1).ownBlock ≠ some w.heap.size) := ⟨by have := ownsMap_lt HF0.out.own; omega, by have := HF0.out.out.lt; omega, fun e => by have := (World.ownsRow.lt HF0.out.row _ e).2; omega⟩
    clear x0 x1 f1 hrq HF HSB
    generalize ((w.alloc (.cells #[.int .i64 x.1, .int .i64 x.2] 40)).drewN nq) = WQ at HFQ HBQ HFR ⊢
    have x0 := HFQ.out.out.cell 0
    have q0 := HBQ.out.cell 0
    have q1 := HBQ.out.cell 1
    go_still_tail 6, (by kernel_rfl)
    go_wp2_with (at_mapUpdate; refine wpList_mapUpdate_own _ rfl _ _ _ 86 rfl 40 3 law_pair Try.underlying86 _ mb _ D rfl HFQ.out.own ?u1 _ _ _ rfl rfl hkey _ [] (plainElem_int Try.underlying3 ?u2) ?_)
    case u1 => unfold maxLen; omega
    case u2 => exact WalkArith.wf_i64 (by omega)
    intro w1 hown1 hgrow1
    have hgq : WQ.grownBy w1 (some mb) := ⟨hgrow1.os, hgrow1.tape, hgrow1.output, hgrow1.size, hgrow1.block⟩
    have hb1 : Blk w1 fb 88 #[.map (some mb), .slice A1 ts.length c1] := HFQ.out.out.grown hgq fun e => by injection e with e; exact HNM.out e
    have hq1 : Blk w1 w.heap.size 40 #[.int .i64 x.1, .int .i64 x.2] := HBQ.out.grown hgq fun e => by injection e with e; exact HSL.out.1 e
    have hr1 : w1.ownsRow 0 40 2 (.slice A1 ts.length c1) ts.length (ts.flatMap pairC) := World.ownsRow.kept HFQ.out.row hgq (by
      cases hv : (Value.slice A1 ts.length c1).ownBlock with
      | none => exact .inl rfl
      | some g => exact .inr fun e => (HFQ.out.sv g hv).2.2 (by injection e))
    have HO1 := Lib.hid hown1
    have HG1 := Lib.hid hgq
    have HR1 := Lib.hid hr1
    have y1 := hb1.cell 1
    have p0 := hq1.cell 0
    have p1 := hq1.cell 1
    have y1' := fun o => (hb1.alloc o).cell 1
    have HFA : Hid (∀ W : World, W = (w1.alloc (.cells #[.int .i64 x.1, .int .i64 x.2] 40)).drew → W.ownsRow 0 40 2 (.slice A1 ts.length c1) ts.length (ts.flatMap pairC) ∧ (∀ (j : Nat) (u : Value), [Value.int .i64 x.1, Value.int .i64 x.2][j]? = some u → W.cell? ((⟨w1.heap.size, 0, none⟩ : Addr).add j) = some u) ∧ W.heap.size = w1.heap.size + 1 ∧ ∀ g' cap' w2, w2.ownsRow 0 40 2 (.slice (some ⟨g', 0, none⟩) (ts.length + 1) cap') (ts.length + 1) (ts.flatMap pairC ++ [.int .i64 x.1, .int .i64 x.2]) → W.grownBy w2 (Value.slice A1 ts.length c1).ownBlock → ((Value.slice A1 ts.length c1).ownBlock = some g' ∨ g' = w1.heap.size + 1) → FdP (w2.setCell ⟨fb, 1, none⟩ (.slice (some ⟨g', 0, none⟩) (ts.length + 1) cap')) (fun b => S b ∨ WQ.heap.size ≤ b) fb none_ (ts ++ [x]) ∧ Frm S WQ (w2.setCell ⟨fb, 1, none⟩ (.slice (some ⟨g', 0, none⟩) (ts.length + 1) cap')) ∧ w2.cell? ⟨fb, 1, none⟩ = some (.slice A1 ts.length c1) ∧ w2.frozen? ⟨fb, 1, none⟩ = false) := fun W hW => by
      subst hW
      refine ⟨HR1.out.alloc _, cell_two_at rfl, by simp [World.drew], fun g' cap' w2 h1 h2 h3 => ?_⟩
      have hw := World.grownBy_alloc w1 (.cells #[.int .i64 x.1, .int .i64 x.2] 40) none
      have hsz := HG1.out.size
      have hloc : ∃ p, (Value.slice (some ⟨g', 0, none⟩) (ts.length + 1) cap').ownBlock = (Value.slice A1 ts.length c1).ownBlock ∧ p = w1.heap.size + 1 ∨ (Value.slice (some ⟨g', 0, none⟩) (ts.length + 1) cap').ownBlock = some p ∧ p = w1.heap.size + 1 := by
        rcases h3 with h3 | h3
        · exact ⟨_, .inl ⟨h3.symm, rfl⟩⟩
        · exact ⟨_, .inr ⟨by rw [h3]; rfl, rfl⟩⟩
      obtain ⟨p, hloc⟩ := hloc
      obtain ⟨q1, q2, q3, q4⟩ := HFQ.out.add klP_key klP_inj HX.out HXN.out HXM.out HO1.out HG1.out (W := (w1.alloc (.cells #[.int .i64 x.1, .int .i64 x.2] 40)).drew) (w2 := w2) (v' := (.slice (some ⟨g', 0, none⟩) (ts.length + 1) cap')) (p := p) ⟨hw.os, hw.tape, hw.output, hw.size, hw.block⟩ h1 h2 (hloc.imp And.left And.left) (by rcases hloc with h | h <;> omega)
      exact ⟨⟨mb, _, _, q1⟩, q2, q3, q4⟩
    clear hown1 hgrow1 hgq hb1 hr1 hq1 x0 q0 q1
    have HSZ : Hid (w.heap.size ≤ WQ.heap.size) := HFR.out.1
    go_wp2_with fail
    go_region_law (refine step_append_lies _ rfl (.tmp 33) (.tmp 35) 35 rfl 0 40 i0 (.agg #[.int .i64 0, .int .i64 0]) 2 16 Try.underlying35 hi0 hz0 hz1 hz2 rfl (by decide) (.slice A1 ts.length c1) ts.length (ts.flatMap pairC) (by simp [Act.eval]) (HFA.out _ rfl).1 ⟨w1.heap.size, 0, none⟩ 1 1 [.int .i64 x.1, .int .i64 x.2] (by simp [Act.eval]) rfl (HFA.out _ rfl).2.1 (by simp [Value.oneCell']) (by decide) (by unfold maxLen; omega) (by omega) (Nat.zero_le _) (w1.heap.size + 1) (HFA.out _ rfl).2.2.1 ?_; intro g' cap' w2 hown1 hgrow hat hlt1; obtain ⟨q1, q2, p5, f5⟩ := (HFA.out _ rfl).2.2.2 g' cap' w2 hown1 hgrow hat; have HQ1 := Lib.hid q1; have HQ2 := Lib.hid q2; clear q1 q2 hown1 hgrow hat)
    all_goals (
      go_wp2_with fail
      go_ret
      rw [HN.out]
      refine ⟨rfl, ?_, ?_⟩
      · obtain ⟨mb', v', D', h⟩ := HQ1.out
        exact ⟨mb', v', D', h.mono fun b _ hs => hs.imp id fun h => Nat.le_trans HSZ.out h⟩
      · exact Frm.mono (E := S) ((HFR.out.mono fun _ _ h => h.elim).trans HQ2.out) fun _ _ h => h)
end Go.Proofs.Ytiekaicbjinbaaa
end
section
namespace Go.Proofs.Ytiekaicbjinbaaa
open Go.RowKit Go.Maps
namespace A
variable {α : Type} [DecidableEq α]
/-- The row of a thing: the numbers of what its letters lead to; none if next is not known there, or more than most things are found. -/
def rowS (nx : α → Int → Option α) (none_ : α) (most : Int) (x : α) : List Nat → List α → List Int → Option (List α × List Int)
  | [], ts, row => some (ts, row)
  | k :: ks, ts, row => match nx x (k : Int) with
    | none => none
    | some y => if most < ((numO none_ y ts).2.length : Int) then none else rowS nx none_ most x ks (numO none_ y ts).2 (row ++ [(numO none_ y ts).1])
def srchO (nx : α → Int → Option α) (none_ : α) (L : Nat) (most : Int) : Nat → Nat → List α → List (List Int) → Option (List α × List (List Int))
  | f, at_, ts, rows => if h : at_ < ts.length then (match f with
    | 0 => none
    | n + 1 => match rowS nx none_ most ts[at_] (List.range L) ts [] with
      | none => none
      | some (ts', row) => srchO nx none_ L most n (at_ + 1) ts' (rows ++ [row])) else some (ts, rows)
/-- What Search finds, where it does not give up: the things, and the rows. -/
def searchO (nx : α → Int → Option α) (f : Nat) (first none_ : α) (L : Nat) (most : Int) : Option (List α × List (List Int)) := srchO nx none_ L most f 0 (numO none_ first []).2 []
end A
/-- The rows found so far: an own row of slices, each with a block of its own, none in S. -/
def RowsOwn (w : World) (base L : Nat) (S : Nat → Prop) (u : Value) (rows : List (List Int)) : Prop := ∃ gs : List Nat, gs.length = rows.length ∧ w.ownsRow base 28 1 u rows.length (gs.map fun g => Value.slice (some ⟨g, 0, none⟩) L L) ∧ (∀ g, u.ownBlock = some g → ¬ S g) ∧ ∀ i (h : i < rows.length) (h' : i < gs.length), Blk w gs[i] 3 (intCs rows[i]) ∧ rows[i].length = L ∧ base ≤ gs[i] ∧ ¬ S gs[i] ∧ u.ownBlock ≠ some gs[i]
theorem RowsOwn.frm {w w' : World} {base L : Nat} {S E S' : Nat → Prop} {u : Value} {rows : List (List Int)} (h : RowsOwn w base L S u rows) (F : Frm E w w') (hE : ∀ b, b < w.heap.size → E b → S b) (hS : ∀ b, b < w.heap.size → S' b → S b) : RowsOwn w' base L S' u rows := by
  obtain ⟨gs, h1, h2, h3, h4⟩ := h
  refine ⟨gs, h1, F.row h2 (fun g hg he => h3 g hg (hE g (World.ownsRow.lt h2 g hg).2 he)) (Nat.le_refl _), fun g hg hs => h3 g hg (hS g (World.ownsRow.lt h2 g hg).2 hs), fun i hi hi' => ?_⟩
  obtain ⟨k1, k2, k3, k4, k5⟩ := h4 i hi hi'
  exact ⟨F.blk k1 fun he => k4 (hE _ k1.lt he), k2, k3, fun hs => k4 (hS _ k1.lt hs), k5⟩
theorem RowsOwn.rows2 {w : World} {base L : Nat} {S : Nat → Prop} {u : Value} {rows : List (List Int)} (h : RowsOwn w base L S u rows) : Rows2 w (fun b => base ≤ b) u rows := by
  obtain ⟨gs, h1, h2, h3, h4⟩ := h
  obtain ⟨A0, c, rfl⟩ := own_form h2
  refine ⟨A0, c, rfl, fun k hk => ?_⟩
  have hk' : k < gs.length := by omega
  obtain ⟨k1, k2, k3, k4, k5⟩ := h4 k hk hk'
  rcases h2.2 with ⟨_, hn⟩ | ⟨g, cap, cur, e, hb, _⟩
  · omega
  · injection e with e1 e2 e3
    subst e1
    have hc := @World.ownsRow.cells _ _ _ _ _ _ _ h2 g rfl k (.slice (some ⟨gs[k], 0, none⟩) L L) (by simp [hk'])
    rw [add_zero_off] at hc
    refine ⟨g, 0, _, rfl, hb, by rw [Nat.zero_add]; exact hc, some ⟨gs[k], 0, none⟩, L, by rw [k2], fun j hj => ⟨gs[k], 0, rfl, k3, ?_⟩⟩
    rw [Nat.zero_add, k1.cell j]
    exact intCs_get hj
theorem RowsOwn.push {w w1 : World} {base L rb m : Nat} {S : Nat → Prop} {u v' : Value} {rows : List (List Int)} {row : List Int} (h : RowsOwn w base L (fun b => S b ∨ b = rb) u rows) (hb : Blk w rb 3 (intCs row)) (hrl : row.length = L) (hrb : base ≤ rb) (hs : ¬ S rb) (F : Frm (fun b => u.ownBlock = some b) w w1) (ho : w1.ownsRow base 28 1 v' (rows.length + 1) ((h.choose.map fun g => Value.slice (some ⟨g, 0, none⟩) L L) ++ [.slice (some ⟨rb, 0, none⟩) L L])) (hl : v'.ownBlock = u.ownBlock ∨ v'.ownBlock = some m) (hm : w.heap.size ≤ m) (hS : ∀ b, S b → b < w.heap.size) : RowsOwn w1 base L S v' (rows ++ [row]) := by
  obtain ⟨h1, h2, h3, h4⟩ := h.choose_spec
  generalize h.choose = gs at *
  have hub : ∀ g, v'.ownBlock = some g → u.ownBlock = some g ∨ g = m := fun g hg => by
    rcases hl with e | e
    · rw [e] at hg; exact .inl hg
    · rw [e] at hg; injection hg with hg; exact .inr hg.symm
  refine ⟨gs ++ [rb], by simp [h1], ?_, fun g hg hsg => ?_, fun i hi hi' => ?_⟩
  · rw [List.length_append, List.map_append]; exact ho
  · rcases hub g hg with e | e
    · exact h3 g e (.inl hsg)
    · have := hS g hsg; omega
  · by_cases hlt : i < rows.length
    · have hlt' : i < gs.length := by omega
      obtain ⟨k1, k2, k3, k4, k5⟩ := h4 i hlt hlt'
      rw [List.getElem_append_left hlt, List.getElem_append_left hlt']
      refine ⟨F.blk k1 (fun e => k5 e), k2, k3, fun hs => k4 (.inl hs), fun e => ?_⟩
      rcases hub _ e with e | e
      · exact k5 e
      · have := k1.lt; omega
    · have e : i = rows.length := by simp at hi; omega
      subst e
      have e2 : (rows ++ [row])[rows.length] = row := by simp
      have e3 : (gs ++ [rb])[rows.length]'(by simp [h1]) = rb := by simp [← h1]
      rw [e2, e3]
      refine ⟨F.blk hb (fun e => h3 rb e (.inr rfl)), hrl, hrb, hs, fun e => ?_⟩
      rcases hub _ e with e | e
      · exact h3 rb e (.inr rfl)
      · have := hb.lt; omega
theorem info_sInt : (Try.prog.info? 28).map (fun i => (i.zero, i.size, i.bytes)) = some (some (.slice none 0 0), 1, 24) := by kernel_rfl
/-- A map literal's entry: as a store. -/
theorem wpList_insert_own {H : Type} {P : Program} (w : World) {ops : Array Oper} {rest : List Oper} {o : Oper} {a : Act} {Q : Exit → Act → World → Prop}
    (hg : o.guard = none) (m x v : Operand) (t : TypeId) (hop : o.op = Op.insert t m x v)
    (k e : TypeId) (K : Keyed P k) (ht : P.underlying t = some (.map k e)) (R : Value → Option (DataW H × List MemPlace)) (b n : Nat) (D : DataW H)
    (hm : a.eval m = .map (some b)) (hown : w.ownsMap P k R b n D) (hn : n < maxLen) (key val : Value) (kl : Lit) (hx : a.eval x = key) (hv : a.eval v = val) (hkey : keyOf P k key = some kl)
    (d : DataW H) (ps : List MemPlace) (hval : R val = some (d, ps))
    (hK : ∀ w', w'.ownsMap P k R b (n + 1) (D.put kl d) → w.grownBy w' (some b) → wpList P ops Q rest (a.put o.dst undef) w') :
    wpList P ops Q (o :: rest) a w := by
  refine wpList_plain hg fun K' hK' => ?_
  obtain ⟨w', hrun, r1, r2⟩ := hown.update K ht hn hkey hval
  unfold Oper.wp
  simp [execOp, hop, hm, hx, hv, hrun, Result.andThen]
  exact hK' _ _ (hK w' r1 r2)
set_option maxRecDepth 100000 in
set_option maxHeartbeats 16000000 in
theorem searchI_any {w : World} {nx : Int → Int → Option Int} {p1 p2 : Value} {f L : Nat} {first none_ most : Int} {ts : List Int} {rows : List (List Int)} (hnx : ∀ (x k y : Int) (W : World), nx x k = some y → Frm (fun _ => False) w W → okI y ∧ Calls Try.prog 61 #[.int .i64 x, .int .i64 k, p1, p2] W fun e w' => e = .returned (.int .i64 y) ∧ Frm (fun _ => False) W w') (hf : okI first) (hn : okI none_) (hL : L ≤ 300) (hfl : f ≤ 100000000) (hmost : most ≤ 1000000) (hs : A.searchO nx f first none_ L most = some (ts, rows)) :
    Calls Try.prog 60 #[.int .i64 first, .int .i64 none_, .int .i64 L, .int .i64 most, .func (.func 61) #[] #[p1, p2]] w fun e w' => ∃ uT uR, e = .returned (.tuple #[uT, uR, .bool true]) ∧ OwnInts w' w.heap.size uT ts ∧ Rows2 w' (fun b => w.heap.size ≤ b) uR rows ∧ Frm (fun _ => False) w w' := by
  have HNX := Lib.hid hnx
  have HS := Lib.hid hs
  have HF := Lib.hid hf
  have HN := Lib.hid hn
  have hmm := @run_makeMap Try.prog
  clear hnx hs hf hn
  go_enter Try.func60, Try.ntmps60
  have hkey0 := keyOf_int_mk Try.underlying3 HN.out
  have hm0 : (w.alloc (.map #[] 0)).ownsMap (H := Unit) Try.prog 3 (plainElem Try.prog 3) w.heap.size 0 (.map []) := World.ownsMap_made _ _ _ _
  go_wp2_with fail
  try go_step3
  go_wp2_with (refine wpList_insert_own _ rfl _ _ _ 127 rfl 3 3 law_int Try.underlying127 _ w.heap.size _ _ rfl hm0 (by decide) _ _ _ rfl rfl hkey0 _ [] (plainElem_int Try.underlying3 (by decide)) ?_; intro w1 hown1 hgrow1)
  have F0 : Frm (fun _ => False) w (w.alloc (.map #[] 0)) := (Frm.refl _ w).alloc _
  have F1 : Frm (fun _ => False) w w1 := F0.grown hgrow1 fun g e hlt => by injection e with e; omega
  have hsz1 := hgrow1.size
  have hs0 : (w.alloc (.map #[] 0)).heap.size = w.heap.size + 1 := by simp
  rw [hs0] at hsz1
  have HFD0 : Hid (FdI (w1.alloc (.cells #[.map (some w.heap.size), .slice none 0 0] 129)) (fun b => w.heap.size ≤ b ∧ b < w1.heap.size + 1) w1.heap.size none_ []) := by
    refine ⟨w.heap.size, _, _, Blk.new w1 _ _, ownsMap_heap hown1 (Below.heap_alloc w1 _ _ (by omega)), Reads.new klI_key klI_inj HN.out, World.ownsRow_nil _ _ _ _, ⟨by omega, by omega⟩, ⟨by omega, by omega⟩, fun g hg => (by cases hg), by omega⟩
  have HF0 : Hid (Frm (fun _ => False) w (w1.alloc (.cells #[.map (some w.heap.size), .slice none 0 0] 129))) := F1.alloc _
  obtain ⟨fb, hfb⟩ : ∃ fb, fb = w1.heap.size := ⟨_, rfl⟩
  have HSZ1 : Hid (w.heap.size ≤ fb) := show _ ≤ _ by omega
  rw [← hfb] at HFD0 ⊢
  clear F0 F1 hsz1 hs0 hown1 hgrow1 hm0 hmm hkey0
  refine (numberI_any HFD0.out HF.out (by simp)).mono ?_
  rintro _ w2 ⟨rfl, q2, f2⟩
  have hF2 : Frm (fun _ => False) w w2 := Frm.mono (E := fun b => w.heap.size ≤ b) ((HF0.out.mono fun _ _ h => h.elim).trans (f2.mono fun b _ h => h.1)) fun b hb h => by omega
  have HF2 := Lib.hid hF2
  have HFD2 : Hid (FdI w2 (fun b => w.heap.size ≤ b ∧ b < w2.heap.size) fb none_ (A.numO none_ first []).2) := by
    obtain ⟨mb, v, D, h⟩ := q2
    exact ⟨mb, v, D, h.mono fun b hb hs => ⟨by rcases hs with hs | hs; exact hs.1; exact Nat.le_trans HF0.out.1 hs, hb⟩⟩
  have HSR : Hid (A.srchO nx none_ L most f 0 (A.numO none_ first []).2 [] = some (ts, rows)) := HS
  have HTL2 : Hid ((A.numO none_ first []).2.length ≤ 1000001) := show _ ≤ _ by unfold A.numO; split <;> simp
  generalize (A.numO none_ first []).1 = n1 at *
  generalize (A.numO none_ first []).2 = ts1 at *
  clear q2 f2 hF2 HS HF0 HFD0 hfb
  go_wp2_with fail
  try go_step3
  go_wp2_with fail
  obtain ⟨S0, hS0⟩ : ∃ S0 : Nat → Prop, S0 = fun b => w.heap.size ≤ b ∧ b < w2.heap.size := ⟨_, rfl⟩
  rw [← hS0] at HFD2
  have HSS0 : Hid (∀ b, S0 b → w.heap.size ≤ b ∧ b < w2.heap.size) := by rw [hS0]; exact fun b h => h
  have HRW0 : Hid (RowsOwn w2 w.heap.size L S0 (.slice none 0 0) []) := ⟨[], rfl, World.ownsRow_nil _ _ _ _, fun g hg => (by cases hg), fun i hi => by simp at hi⟩
  clear hS0
  go_loopg [14, 15] f (fun n u i wr => ∃ (at_ : Nat) (tk : List Int) (rk : List (List Int)) (Sk : Nat → Prop), i = .int .i64 (at_ : Int) ∧ at_ + n ≤ f ∧ rk.length = at_ ∧ Hid (at_ ≤ tk.length) ∧ Hid (tk.length ≤ 1000001) ∧ Hid (A.srchO nx none_ L most n at_ tk rk = some (ts, rows)) ∧ Hid (FdI wr Sk fb none_ tk) ∧ Hid (RowsOwn wr w.heap.size L Sk u rk) ∧ Hid (∀ b, Sk b → w.heap.size ≤ b ∧ b < wr.heap.size) ∧ Hid (Frm (fun _ => False) w wr))
  case atStart => exact ⟨0, ts1, [], S0, rfl, by omega, rfl, Nat.zero_le _, HTL2, HSR, HFD2, HRW0, HSS0, HF2⟩
  case round =>
    clear HTL2 HSR HFD2 HRW0 HSS0 HF2
    obtain ⟨at_, tk, rk, Sk, rfl, hat, hrk, HLE, HTL, HSR, HFD, HRW, HSS, HF⟩ := hrel
    obtain ⟨mb, vT, D, hFd⟩ := HFD.out
    obtain ⟨AT, cT, rfl⟩ := own_form hFd.row
    have x1 := hFd.out.cell 1
    have hrow := hFd.row
    have hsr := HSR.out
    unfold A.srchO at hsr
    by_cases hlt : at_ < tk.length
    · rw [dif_pos hlt] at hsr
      have hlt' : (at_ : Int) < (tk.length : Int) := by omega
      cases gk with
      | zero => cases hsr
      | succ n =>
      dsimp only at hsr
      cases hrs : A.rowS nx none_ most (tk[at_]'hlt) (List.range L) tk [] with
      | none => rw [hrs] at hsr; cases hsr
      | some rr =>
      obtain ⟨ts2, row⟩ := rr
      rw [hrs] at hsr
      dsimp only at hsr
      have HS2 := Lib.hid hsr
      obtain ⟨x, hx⟩ : ∃ x, x = tk[at_]'hlt := ⟨_, rfl⟩
      rw [← hx] at hrs
      have HRS : Hid (A.rowS nx none_ most x ((List.range L).drop 0) tk [] = some (ts2, row)) := hrs
      have HXA : Hid (tk[at_]? = some x) := by rw [hx]; exact List.getElem?_eq_getElem hlt
      have hmk := run_make_row' (P := Try.prog) 28 3 (.int .i64 0) 8 Try.underlying28 info_int rfl .i64 .i64 L (by omega) (by omega)
      clear hsr hrs hx hFd hrow HSR
      go_wp2_with fail
      have HXT := Lib.hid hlt
      obtain ⟨rb, hrb⟩ : ∃ rb, rb = wr.heap.size := ⟨_, rfl⟩
      have HB0 : Hid (Blk (wr.alloc (.cells (madeCells #[.int .i64 0] L) 3)) rb 3 (intCs ([] ++ List.replicate (L - 0) 0))) := by
        rw [List.nil_append, Nat.sub_zero, ← intCs_made, hrb]; exact Blk.new wr _ _
      have HFD0 : Hid (FdI (wr.alloc (.cells (madeCells #[.int .i64 0] L) 3)) Sk fb none_ tk) := by
        obtain ⟨a1, a2, a3, a4⟩ := HFD.out
        exact ⟨a1, a2, a3, a4.frm ((Frm.refl (fun _ => False) wr).alloc _) fun _ _ _ h => h⟩
      have HRW0 : Hid (RowsOwn (wr.alloc (.cells (madeCells #[.int .i64 0] L) 3)) w.heap.size L (fun b => Sk b ∨ b = rb) u14 rk) := HRW.out.frm ((Frm.refl (fun _ => False) wr).alloc _) (fun _ _ h => h.elim) fun b hb h => by
        rcases h with h | h
        · exact h
        · omega
      have HSS0 : Hid (∀ b, Sk b → w.heap.size ≤ b ∧ b < (wr.alloc (.cells (madeCells #[.int .i64 0] L) 3)).heap.size) := fun b h => by
        have := HSS.out b h
        simp; omega
      have HNS : Hid (¬ Sk rb) := fun h => by have := HSS.out rb h; omega
      have HRB : Hid (w.heap.size ≤ rb) := show _ ≤ _ by rw [hrb]; exact HF.out.1
      have HF0 : Hid (Frm (fun _ => False) w (wr.alloc (.cells (madeCells #[.int .i64 0] L) 3))) := HF.out.alloc _
      have HUB : Hid (u14.ownBlock ≠ some rb) := fun e => by
        obtain ⟨gs, h1, h2, _⟩ := HRW.out
        have := (World.ownsRow.lt h2 rb e).2
        omega
      rw [← hrb]
      clear hrb HFD HRW HSS HF hmk x1
      generalize (wr.alloc (.cells (madeCells #[.int .i64 0] L) 3)) = wo at *
      clear wr
      go_loopg [38] L (fun n u wr => ∃ (j : Nat) (tj : List Int) (rj : List Int) (Sj : Nat → Prop), u = .int .i64 (j : Int) ∧ j + n = L ∧ Hid (rj.length = j) ∧ Hid (tj.length ≤ 1000001) ∧ Hid (A.rowS nx none_ most x ((List.range L).drop j) tj rj = some (ts2, row)) ∧ Hid (tj[at_]? = some x) ∧ Hid (Blk wr rb 3 (intCs (rj ++ List.replicate (L - j) 0))) ∧ Hid (FdI wr Sj fb none_ tj) ∧ Hid (RowsOwn wr w.heap.size L (fun b => Sj b ∨ b = rb) u14 rk) ∧ Hid (∀ b, Sj b → w.heap.size ≤ b ∧ b < wr.heap.size) ∧ Hid (¬ Sj rb) ∧ Hid (Frm (fun _ => False) w wr))
      case atStart => exact ⟨0, tk, [], Sk, rfl, by omega, rfl, HTL, HRS, HXA, HB0, HFD0, HRW0, HSS0, HNS, HF0⟩
      case round =>
        clear HTL HRS HXA HB0 HFD0 HRW0 HSS0 HNS HF0
        obtain ⟨j, tj, rj, Sj, rfl, hjn, HJL, HTL, HRS, HXA, HB, HFD, HRW, HSS, HNS, HF⟩ := hrel
        obtain ⟨mb2, vT2, D2, hFd⟩ := HFD.out
        obtain ⟨A2, c2, rfl⟩ := own_form hFd.row
        by_cases hj : j < L
        · have hj' : (j : Int) < (L : Int) := by omega
          have hlt2 : at_ < tj.length := by
            obtain ⟨h, _⟩ := List.getElem?_eq_some_iff.1 HXA.out
            exact h
          have hlt3 : (at_ : Int) < (tj.length : Int) := by omega
          have x1 := hFd.out.cell 1
          obtain ⟨g, hA2, hc⟩ : ∃ g, A2 = some ⟨g, 0, none⟩ ∧ wr.cell? ⟨g, at_, none⟩ = some (.int .i64 x) := by
            rcases hFd.row.2 with ⟨_, hn⟩ | ⟨g, cap, cur, e, hb, _⟩
            · exact absurd hn (by omega)
            · injection e with e1 e2 e3
              subst e1
              refine ⟨g, rfl, ?_⟩
              have hc := @World.ownsRow.cells _ _ _ _ _ _ _ hFd.row g rfl at_ (.int .i64 x) (by simp [fdT, ← List.map_eq_flatMap, HXA.out])
              rw [add_zero_off] at hc
              exact hc
          subst hA2
          have hd : (List.range L).drop j = j :: (List.range L).drop (j + 1) := by
            rw [List.drop_eq_getElem_cons (by simp; omega)]; simp
          have hrs := HRS.out
          rw [hd] at hrs
          unfold A.rowS at hrs
          cases hy : nx x (j : Int) with
          | none => rw [hy] at hrs; cases hrs
          | some y =>
          rw [hy] at hrs
          dsimp only at hrs
          by_cases hmo : most < ((A.numO none_ y tj).2.length : Int)
          · rw [if_pos hmo] at hrs; cases hrs
          rw [if_neg hmo] at hrs
          have HR2 := Lib.hid hrs
          obtain ⟨hoky, hcall⟩ := HNX.out x j y wr hy HF.out
          have HY := Lib.hid hoky
          have HC := Lib.hid hcall
          have HD := Lib.hid hd
          have HM := Lib.hid hmo
          clear hd hrs hoky hcall hmo HRS
          have cb := HB.out.cell j
          go_wp2_with fail
          refine HC.out.mono ?_
          rintro _ w3 ⟨rfl, f3⟩
          have HF3 : Hid (Frm (fun _ => False) w w3) := HF.out.trans f3
          have HFD3 : Hid (FdI w3 Sj fb none_ tj) := ⟨mb2, _, D2, hFd.frm f3 fun _ _ _ h => h⟩
          have HB3 : Hid (Blk w3 rb 3 (intCs (rj ++ List.replicate (L - j) 0))) := f3.blk HB.out id
          have HRW3 : Hid (RowsOwn w3 w.heap.size L (fun b => Sj b ∨ b = rb) u14 rk) := HRW.out.frm f3 (fun _ _ h => h.elim) fun _ _ h => h
          have HSS3 : Hid (∀ b, Sj b → w.heap.size ≤ b ∧ b < w3.heap.size) := fun b h => ⟨(HSS.out b h).1, Nat.lt_of_lt_of_le (HSS.out b h).2 f3.1⟩
          have HRB3 : Hid (rb < w3.heap.size) := HB3.out.lt
          clear f3 HF HFD HB HRW HSS HC hFd x1 cb hc
          go_wp2_with fail
          refine (numberI_any HFD3.out HY.out (by have := HTL.out; omega)).mono ?_
          rintro _ w4 ⟨rfl, q4, f4⟩
          have HF4 : Hid (Frm (fun _ => False) w w4) := Frm.mono (E := fun b => w.heap.size ≤ b) ((HF3.out.mono fun _ _ h => h.elim).trans (f4.mono fun b _ h => (HSS3.out b h).1)) fun b hb h => by omega
          have HB4 : Hid (Blk w4 rb 3 (intCs (rj ++ List.replicate (L - j) 0))) := f4.blk HB3.out HNS.out
          have HFD4 : Hid (FdI w4 (fun b => Sj b ∨ w3.heap.size ≤ b) fb none_ (A.numO none_ y tj).2) := q4
          have HRW4 : Hid (RowsOwn w4 w.heap.size L (fun b => (Sj b ∨ w3.heap.size ≤ b) ∨ b = rb) u14 rk) := HRW3.out.frm f4 (fun _ _ h => .inl h) fun b hb h => by
            rcases h with (h | h) | h
            · exact .inl h
            · omega
            · exact .inr h
          have HTL4 : Hid ((A.numO none_ y tj).2.length ≤ 1000001) := show _ ≤ _ by have := HM.out; omega
          have HXA4 : Hid ((A.numO none_ y tj).2[at_]? = some x) := show _ = _ by
            have h1 := HXA.out
            unfold A.numO
            split
            · exact h1
            · split
              · exact h1
              · rw [List.getElem?_append_left hlt2]; exact h1
          generalize (A.numO none_ y tj).1 = n2 at *
          generalize (A.numO none_ y tj).2 = t2 at *
          clear f4 q4 HF3 HFD3 HB3 HRW3 HTL HXA hlt3
          have cb := HB4.out.cell j
          have fb4 := HB4.out.frozen j
          have HIJ : (intCs (rj ++ List.replicate (L - j) 0))[j]? = some (.int .i64 0) := by
            have hl := HJL.out
            rw [intCs_getD (by simp; omega)]
            simp [List.getD, hl, List.getElem?_append, List.getElem?_replicate]
            rw [if_pos (by omega)]; rfl
          rw [HIJ] at cb
          clear HIJ
          have HNS4 : Hid (¬ (Sj rb ∨ w3.heap.size ≤ rb)) := fun h => by
            have := HRB3.out
            rcases h with h | h
            · exact HNS.out h
            · omega
          obtain ⟨mb4, v4, D4, hF4⟩ := HFD4.out
          obtain ⟨A4, c4, rfl⟩ := own_form hF4.row
          have hne : fb ≠ rb := fun e => HNS4.out (e ▸ hF4.sf)
          have x4 := (hF4.out.far (p := ⟨rb, j, none⟩) hne (.int .i64 n2)).cell 1
          have HF5 : Hid (Frm (fun _ => False) w (w4.setCell ⟨rb, j, none⟩ (.int .i64 n2))) := HF4.out.set_ (p := ⟨rb, j, none⟩) (fun h => by have := HRB.out; simp at h; omega) _
          have f5 : Frm (fun b => b = rb) w4 (w4.setCell ⟨rb, j, none⟩ (.int .i64 n2)) := (Frm.refl (fun b => b = rb) w4).set_ (p := ⟨rb, j, none⟩) (fun _ => rfl) _
          have HFD5 : Hid (FdI (w4.setCell ⟨rb, j, none⟩ (.int .i64 n2)) (fun b => (Sj b ∨ w3.heap.size ≤ b) ∧ b < w4.heap.size) fb none_ t2) := ⟨mb4, _, D4, (hF4.mono (S' := fun b => (Sj b ∨ w3.heap.size ≤ b) ∧ b < w4.heap.size) fun b hb h => ⟨h, hb⟩).frm f5 fun b _ h e => HNS4.out (e ▸ h.1)⟩
          have HRW5 : Hid (RowsOwn (w4.setCell ⟨rb, j, none⟩ (.int .i64 n2)) w.heap.size L (fun b => ((Sj b ∨ w3.heap.size ≤ b) ∧ b < w4.heap.size) ∨ b = rb) u14 rk) := HRW4.out.frm f5 (fun _ _ h => .inr h) fun b _ h => h.imp (·.1) id
          have HB5 : Hid (Blk (w4.setCell ⟨rb, j, none⟩ (.int .i64 n2)) rb 3 (intCs ((rj ++ [n2]) ++ List.replicate (L - (j + 1)) 0))) := show Blk _ _ _ _ by
            have := HB4.out.set_ j (.int .i64 n2)
            rw [intCs_set] at this
            have e : (rj ++ List.replicate (L - j) 0).set j n2 = (rj ++ [n2]) ++ List.replicate (L - (j + 1)) 0 := by
              have hl := HJL.out
              rw [List.set_append, if_neg (by omega), hl, Nat.sub_self, show L - j = (L - (j + 1)) + 1 by omega, List.replicate_succ]
              simp
            rw [e] at this
            exact this
          have HS5 : Hid ((w4.setCell ⟨rb, j, none⟩ (.int .i64 n2)).heap.size = w4.heap.size) := show _ = _ by simp [World.setCell]
          have hmo : ¬ most < (t2.length : Int) := by have := HM.out; omega
          have HW3 : Hid (w.heap.size ≤ w3.heap.size) := show _ ≤ _ by have := HRB3.out; have := HRB.out; omega
          clear HF4 HFD4 HRW4 HB4 hF4 f5
          cases gk with
          | zero => omega
          | succ m =>
          go_wp2_with fail
          go_roundg m
          refine ⟨j + 1, t2, rj ++ [n2], _, rfl, by omega, (show _ = _ by simp [HJL.out]), HTL4, HR2, HXA4, HB5, HFD5, HRW5, ?_, ?_, HF5⟩
          · refine fun b h => ?_
            have := HS5.out
            have := HW3.out
            rcases h with ⟨h | h, h2⟩
            · have := HSS3.out b h; omega
            · omega
          · exact fun h => HNS4.out h.1
          all_goals omega
        · have e : L = j := by omega
          subst e
          have hrs := HRS.out
          rw [show (List.range L).drop L = [] by simp] at hrs
          obtain ⟨e1, e2⟩ : ts2 = tj ∧ row = rj := by
            unfold A.rowS at hrs
            injection hrs with hrs
            exact ⟨(congrArg Prod.fst hrs).symm, (congrArg Prod.snd hrs).symm⟩
          subst e1 e2
          have HRN : Hid (row.length = L) := HJL
          have HBB : Hid (Blk wr rb 3 (intCs row)) := show Blk _ _ _ _ by have := HB.out; rw [Nat.sub_self] at this; simpa using this
          clear HB hrs HRS
          obtain ⟨A14, c14, rfl⟩ := own_form HRW.out.choose_spec.2.1
          obtain ⟨gs, hgs⟩ : ∃ gs, gs = HRW.out.choose := ⟨_, rfl⟩
          have HO := Lib.hid HRW.out.choose_spec.2.1
          rw [← hgs] at HO
          have HGS := Lib.hid hgs
          clear hgs
          have HRK : Hid (rk.length + 1 ≤ 100000000) := show _ ≤ _ by omega
          have HKL := Lib.hid hrk
          clear hrk
          obtain ⟨i0, hi0, hz0, hz1, hz2⟩ := info_parts info_sInt
          go_wp2_with (at_builtin; refine wpList_append_own_at _ rfl _ _ 22 rfl w.heap.size 28 i0 (.slice none 0 0) 1 24 Try.underlying22 hi0 hz0 hz1 hz2 rfl (by decide) _ _ _ rfl (HO.out.alloc _) ⟨wr.heap.size, 0, none⟩ 1 1 [.slice (some ⟨rb, 0, none⟩) L L] rfl rfl (cell_one_at rfl) (by simp [Value.oneCell']) (by have := HRK.out; unfold maxLen; omega) (by have := HRK.out; omega) (by have := HF.out.1; simp; omega) ?_)
          intro v' w4 hown1 hgrow _ hat4
          have f4 : Frm (fun b => (Value.slice A14 rk.length c14).ownBlock = some b) wr w4 := ((Frm.refl _ wr).alloc _).grown hgrow fun g hg _ => hg
          have HR4 : Hid (RowsOwn w4 w.heap.size L Sj v' (rk ++ [row])) := HRW.out.push HBB.out HRN.out HRB.out HNS.out f4 (HGS.out ▸ hown1) hat4 (by simp) fun b hb => (HSS.out b hb).2
          have HFD4 : Hid (FdI w4 Sj fb none_ ts2) := ⟨mb2, _, D2, hFd.frm f4 fun b _ hs e => by
            obtain ⟨gs, _, _, h3, _⟩ := HRW.out
            exact h3 b e (.inl hs)⟩
          have HSS4 : Hid (∀ b, Sj b → w.heap.size ≤ b ∧ b < w4.heap.size) := fun b hb => ⟨(HSS.out b hb).1, Nat.lt_of_lt_of_le (HSS.out b hb).2 f4.1⟩
          have HF4 : Hid (Frm (fun _ => False) w w4) := Frm.mono (E := fun b => w.heap.size ≤ b) ((HF.out.mono fun _ _ h => h.elim).trans (f4.mono fun b _ h => (World.ownsRow.lt HO.out b h).1)) fun b hb h => by omega
          obtain ⟨A5, c5, rfl⟩ := own_form hown1
          clear f4 hown1 hgrow hat4 hi0 hz0 hz1 hz2 HO hFd HGS HRW HFD
          have HLE4 : Hid (at_ + 1 ≤ ts2.length) := (List.getElem?_eq_some_iff.1 HXA.out).1
          go_wp2_with fail
          go_roundg n
          refine ⟨at_ + 1, ts2, rk ++ [row], Sj, by go_num, by omega, by simp [HKL.out], HLE4, HTL, HS2, HFD4, ?_, HSS4, HF4⟩
          all_goals (first | omega | exact HR4 | skip)
    · rw [dif_neg hlt] at hsr
      injection hsr with hsr
      obtain ⟨e1, e2⟩ : ts = tk ∧ rows = rk := ⟨(congrArg Prod.fst hsr).symm, (congrArg Prod.snd hsr).symm⟩
      subst e1 e2
      have hlt' : ¬ (at_ : Int) < (ts.length : Int) := by omega
      have hrl : rows.length = ts.length := by have := HLE.out; omega
      have hal : at_ = ts.length := by have := HLE.out; omega
      have HR := HRW.out
      obtain ⟨A14, c14, rfl⟩ := own_form HR.choose_spec.2.1
      have HRR : Hid (RowsOwn wr w.heap.size L Sk (.slice A14 ts.length c14) rows) := by rw [← hrl]; exact HRW.out
      rw [hrl]
      have HFF := Lib.hid hFd
      clear HR HRW hsr hrow hFd hrk hrl HSR
      subst hal
      go_wp2_with fail
      clear hlt hlt' hat HLE HFD HNX
      go_quiet (fail)
      go_wp2
      try rw [Exit.noGoto_ret]
      refine bodyPost_ret (v := .tuple #[.slice AT ts.length cT, .slice A14 ts.length c14, .bool true]) (by simp [results, Try.results60, go_sem]) rfl ?_
      refine ⟨_, _, rfl, ?_, HRR.out.rows2, HF.out⟩
      have h := HFF.out.row
      refine ⟨by simp, ?_⟩
      rcases h.2 with h2 | ⟨g, cap, cur, e, _, h3, h4, h5, h6, h7⟩
      · exact .inl h2
      · refine .inr ⟨g, cap, cur, e, ?_, h3, h4, h5, h6, ?_⟩
        · have := (HFF.out.sv g (by rw [e]; rfl)).1
          exact (HSS.out g this).1
        · refine Eq.trans h7 ?_; simp [fdT, ← List.map_eq_flatMap]
end Go.Proofs.Ytiekaicbjinbaaa
end
section
namespace Go.Proofs.Ytiekaicbjinbaaa
open Go.RowKit Go.Maps
def ts2_flat (ts : List A.Pr) : List Value := ts.flatMap fdPT.f
theorem flat_at : ∀ {ts : List A.Pr} {i : Nat} {x : A.Pr}, ts[i]? = some x → (ts2_flat ts)[i * 2]? = some (.int .i64 x.1) ∧ (ts2_flat ts)[i * 2 + 1]? = some (.int .i64 x.2)
  | y :: ts, 0, x, h => by
    simp at h
    subst h
    exact ⟨rfl, rfl⟩
  | y :: ts, i + 1, x, h => by
    have := flat_at (ts := ts) (i := i) (x := x) (by simpa using h)
    rw [show (i + 1) * 2 = i * 2 + 1 + 1 by omega]
    exact this
set_option maxRecDepth 100000 in
set_option maxHeartbeats 16000000 in
theorem searchP_any {w : World} {nx : A.Pr → Int → Option A.Pr} {p1 p2 : Value} {f L : Nat} {first none_ : A.Pr} {most : Int} {ts : List A.Pr} {rows : List (List Int)} (hnx : ∀ (x : A.Pr) (k : Int) (y : A.Pr) (W : World), nx x k = some y → Frm (fun _ => False) w W → okP y ∧ Calls Try.prog 32 #[pairV x, .int .i64 k, p1, p2] W fun e w' => e = .returned (pairV y) ∧ Frm (fun _ => False) W w') (hf : okP first) (hn : okP none_) (hL : L ≤ 300) (hfl : f ≤ 100000000) (hmost : most ≤ 1000000) (hs : A.searchO nx f first none_ L most = some (ts, rows)) :
    Calls Try.prog 31 #[pairV first, pairV none_, .int .i64 L, .int .i64 most, .func (.func 32) #[] #[p1, p2]] w fun e w' => ∃ uT uR, e = .returned (.tuple #[uT, uR, .bool true]) ∧ w'.ownsRow w.heap.size 40 2 uT ts.length (ts.flatMap pairC) ∧ Rows2 w' (fun b => w.heap.size ≤ b) uR rows ∧ Frm (fun _ => False) w w' := by
  have HNX := Lib.hid hnx
  have HS := Lib.hid hs
  have HF := Lib.hid hf
  have HN := Lib.hid hn
  have hmm := @run_makeMap Try.prog
  clear hnx hs hf hn
  simp only [pairV]
  go_enter Try.func31, Try.ntmps31
  obtain ⟨W0, hW0⟩ : ∃ W0, W0 = (w.alloc (.cells #[.int .i64 first.1, .int .i64 first.2] 40)).alloc (.cells #[.int .i64 none_.1, .int .i64 none_.2] 40) := ⟨_, rfl⟩
  have hkey0 : keyOf Try.prog 40 (.agg #[.int .i64 none_.1, .int .i64 none_.2]) = some (klP none_) := keyOf_pair HN.out
  have hs00 : W0.heap.size = w.heap.size + 2 := by rw [hW0]; simp
  have F00 : Frm (fun _ => False) w W0 := by rw [hW0]; exact ((Frm.refl _ w).alloc _).alloc _
  have b5 : Blk W0 w.heap.size 40 #[.int .i64 first.1, .int .i64 first.2] := by rw [hW0]; exact (Blk.new w _ _).alloc _
  have hm0 : (W0.alloc (.map #[] 0)).ownsMap (H := Unit) Try.prog 40 (plainElem Try.prog 3) (w.heap.size + 2) 0 (.map []) := by rw [← hs00]; exact World.ownsMap_made _ _ _ _
  have b5m := b5.alloc (.map #[] 0)
  rw [hW0] at hm0 b5m
  go_wp2_with fail
  try go_step3
  go_wp2_with (refine wpList_insert_own _ rfl _ _ _ 86 rfl 40 3 law_pair Try.underlying86 _ (w.heap.size + 2) _ _ rfl hm0 (by decide) _ _ _ rfl rfl hkey0 _ [] (plainElem_int Try.underlying3 (by decide)) ?_; intro w1 hown1 hgrow1; have c5 := ((Blk.grown b5m hgrow1 (by simp)).alloc (.cells #[.map (some (w.heap.size + 1 + 1)), .slice none 0 0] 88)).cell 0; have c6 := ((Blk.grown b5m hgrow1 (by simp)).alloc (.cells #[.map (some (w.heap.size + 1 + 1)), .slice none 0 0] 88)).cell 1)
  have HB5 := Lib.hid (Blk.grown b5m hgrow1 (by simp))
  rw [← hW0] at hgrow1
  have F1 : Frm (fun _ => False) w w1 := (F00.alloc (.map #[] 0)).grown hgrow1 fun g e hlt => by injection e with e; omega
  have hsz1 := hgrow1.size
  rw [World.size_alloc, hs00] at hsz1
  have HFD0 : Hid (FdP (w1.alloc (.cells #[.map (some (w.heap.size + 1 + 1)), .slice none 0 0] 88)) (fun b => w.heap.size ≤ b ∧ b < w1.heap.size + 1) w1.heap.size none_ []) := by
    refine ⟨w.heap.size + 1 + 1, _, _, Blk.new w1 _ _, ownsMap_heap hown1 (Below.heap_alloc w1 _ _ (by omega)), Reads.new klP_key klP_inj HN.out, World.ownsRow_nil _ _ _ _, ⟨by omega, by omega⟩, ⟨by omega, by omega⟩, fun g hg => (by cases hg), by omega⟩
  have HF0 : Hid (Frm (fun _ => False) w (w1.alloc (.cells #[.map (some (w.heap.size + 1 + 1)), .slice none 0 0] 88))) := F1.alloc _
  obtain ⟨fb, hfb⟩ : ∃ fb, fb = w1.heap.size := ⟨_, rfl⟩
  have HSZ1 : Hid (w.heap.size ≤ fb) := show _ ≤ _ by omega
  rw [← hfb] at HFD0 ⊢
  clear F00 b5 b5m F1 hsz1 hs00 hown1 hgrow1 hm0 hmm hkey0 hW0 c5 c6
  refine (numberP_any HFD0.out HF.out (by simp)).mono ?_
  rintro _ w2 ⟨rfl, q2, f2⟩
  have hF2 : Frm (fun _ => False) w w2 := Frm.mono (E := fun b => w.heap.size ≤ b) ((HF0.out.mono fun _ _ h => h.elim).trans (f2.mono fun b _ h => h.1)) fun b hb h => by omega
  have HF2 := Lib.hid hF2
  have HFD2 : Hid (FdP w2 (fun b => w.heap.size ≤ b ∧ b < w2.heap.size) fb none_ (A.numO none_ first []).2) := by
    obtain ⟨mb, v, D, h⟩ := q2
    exact ⟨mb, v, D, h.mono fun b hb hs => ⟨by rcases hs with hs | hs; exact hs.1; exact Nat.le_trans HF0.out.1 hs, hb⟩⟩
  have HSR : Hid (A.srchO nx none_ L most f 0 (A.numO none_ first []).2 [] = some (ts, rows)) := HS
  have HTL2 : Hid ((A.numO none_ first []).2.length ≤ 1000001) := show _ ≤ _ by unfold A.numO; split <;> simp
  generalize (A.numO none_ first []).1 = n1 at *
  generalize (A.numO none_ first []).2 = ts1 at *
  clear q2 f2 hF2 HS HF0 HFD0 hfb
  go_wp2_with fail
  try go_step3
  go_wp2_with fail
  obtain ⟨S0, hS0⟩ : ∃ S0 : Nat → Prop, S0 = fun b => w.heap.size ≤ b ∧ b < w2.heap.size := ⟨_, rfl⟩
  rw [← hS0] at HFD2
  have HSS0 : Hid (∀ b, S0 b → w.heap.size ≤ b ∧ b < w2.heap.size) := by rw [hS0]; exact fun b h => h
  have HRW0 : Hid (RowsOwn w2 w.heap.size L S0 (.slice none 0 0) []) := ⟨[], rfl, World.ownsRow_nil _ _ _ _, fun g hg => (by cases hg), fun i hi => by simp at hi⟩
  clear hS0
  go_loopg [14, 15] f (fun n u i wr => ∃ (at_ : Nat) (tk : List A.Pr) (rk : List (List Int)) (Sk : Nat → Prop), i = .int .i64 (at_ : Int) ∧ at_ + n ≤ f ∧ rk.length = at_ ∧ Hid (at_ ≤ tk.length) ∧ Hid (tk.length ≤ 1000001) ∧ Hid (A.srchO nx none_ L most n at_ tk rk = some (ts, rows)) ∧ Hid (FdP wr Sk fb none_ tk) ∧ Hid (RowsOwn wr w.heap.size L Sk u rk) ∧ Hid (∀ b, Sk b → w.heap.size ≤ b ∧ b < wr.heap.size) ∧ Hid (Frm (fun _ => False) w wr))
  case atStart => exact ⟨0, ts1, [], S0, rfl, by omega, rfl, Nat.zero_le _, HTL2, HSR, HFD2, HRW0, HSS0, HF2⟩
  case round =>
    clear HTL2 HSR HFD2 HRW0 HSS0 HF2
    obtain ⟨at_, tk, rk, Sk, rfl, hat, hrk, HLE, HTL, HSR, HFD, HRW, HSS, HF⟩ := hrel
    obtain ⟨mb, vT, D, hFd⟩ := HFD.out
    obtain ⟨AT, cT, rfl⟩ := own_form hFd.row
    have x1 := hFd.out.cell 1
    have hrow := hFd.row
    have hsr := HSR.out
    unfold A.srchO at hsr
    by_cases hlt : at_ < tk.length
    · rw [dif_pos hlt] at hsr
      have hlt' : (at_ : Int) < (tk.length : Int) := by omega
      cases gk with
      | zero => cases hsr
      | succ n =>
      dsimp only at hsr
      cases hrs : A.rowS nx none_ most (tk[at_]'hlt) (List.range L) tk [] with
      | none => rw [hrs] at hsr; cases hsr
      | some rr =>
      obtain ⟨ts2, row⟩ := rr
      rw [hrs] at hsr
      dsimp only at hsr
      have HS2 := Lib.hid hsr
      obtain ⟨x, hx⟩ : ∃ x, x = tk[at_]'hlt := ⟨_, rfl⟩
      rw [← hx] at hrs
      have HRS : Hid (A.rowS nx none_ most x ((List.range L).drop 0) tk [] = some (ts2, row)) := hrs
      have HXA : Hid (tk[at_]? = some x) := by rw [hx]; exact List.getElem?_eq_getElem hlt
      have hmk := run_make_row' (P := Try.prog) 28 3 (.int .i64 0) 8 Try.underlying28 info_int rfl .i64 .i64 L (by omega) (by omega)
      clear hsr hrs hx hFd hrow HSR
      go_wp2_with fail
      have HXT := Lib.hid hlt
      obtain ⟨rb, hrb⟩ : ∃ rb, rb = wr.heap.size := ⟨_, rfl⟩
      have HB0 : Hid (Blk (wr.alloc (.cells (madeCells #[.int .i64 0] L) 3)) rb 3 (intCs ([] ++ List.replicate (L - 0) 0))) := by
        rw [List.nil_append, Nat.sub_zero, ← intCs_made, hrb]; exact Blk.new wr _ _
      have HFD0 : Hid (FdP (wr.alloc (.cells (madeCells #[.int .i64 0] L) 3)) Sk fb none_ tk) := by
        obtain ⟨a1, a2, a3, a4⟩ := HFD.out
        exact ⟨a1, a2, a3, a4.frm ((Frm.refl (fun _ => False) wr).alloc _) fun _ _ _ h => h⟩
      have HRW0 : Hid (RowsOwn (wr.alloc (.cells (madeCells #[.int .i64 0] L) 3)) w.heap.size L (fun b => Sk b ∨ b = rb) u14 rk) := HRW.out.frm ((Frm.refl (fun _ => False) wr).alloc _) (fun _ _ h => h.elim) fun b hb h => by
        rcases h with h | h
        · exact h
        · omega
      have HSS0 : Hid (∀ b, Sk b → w.heap.size ≤ b ∧ b < (wr.alloc (.cells (madeCells #[.int .i64 0] L) 3)).heap.size) := fun b h => by
        have := HSS.out b h
        simp; omega
      have HNS : Hid (¬ Sk rb) := fun h => by have := HSS.out rb h; omega
      have HRB : Hid (w.heap.size ≤ rb) := show _ ≤ _ by rw [hrb]; exact HF.out.1
      have HF0 : Hid (Frm (fun _ => False) w (wr.alloc (.cells (madeCells #[.int .i64 0] L) 3))) := HF.out.alloc _
      have HUB : Hid (u14.ownBlock ≠ some rb) := fun e => by
        obtain ⟨gs, h1, h2, _⟩ := HRW.out
        have := (World.ownsRow.lt h2 rb e).2
        omega
      rw [← hrb]
      clear hrb HFD HRW HSS HF hmk x1
      generalize (wr.alloc (.cells (madeCells #[.int .i64 0] L) 3)) = wo at *
      clear wr
      go_loopg [38] L (fun n u wr => ∃ (j : Nat) (tj : List A.Pr) (rj : List Int) (Sj : Nat → Prop), u = .int .i64 (j : Int) ∧ j + n = L ∧ Hid (rj.length = j) ∧ Hid (tj.length ≤ 1000001) ∧ Hid (A.rowS nx none_ most x ((List.range L).drop j) tj rj = some (ts2, row)) ∧ Hid (tj[at_]? = some x) ∧ Hid (Blk wr rb 3 (intCs (rj ++ List.replicate (L - j) 0))) ∧ Hid (FdP wr Sj fb none_ tj) ∧ Hid (RowsOwn wr w.heap.size L (fun b => Sj b ∨ b = rb) u14 rk) ∧ Hid (∀ b, Sj b → w.heap.size ≤ b ∧ b < wr.heap.size) ∧ Hid (¬ Sj rb) ∧ Hid (Frm (fun _ => False) w wr))
      case atStart => exact ⟨0, tk, [], Sk, rfl, by omega, rfl, HTL, HRS, HXA, HB0, HFD0, HRW0, HSS0, HNS, HF0⟩
      case round =>
        clear HTL HRS HXA HB0 HFD0 HRW0 HSS0 HNS HF0
        obtain ⟨j, tj, rj, Sj, rfl, hjn, HJL, HTL, HRS, HXA, HB, HFD, HRW, HSS, HNS, HF⟩ := hrel
        obtain ⟨mb2, vT2, D2, hFd⟩ := HFD.out
        obtain ⟨A2, c2, rfl⟩ := own_form hFd.row
        by_cases hj : j < L
        · have hj' : (j : Int) < (L : Int) := by omega
          have hlt2 : at_ < tj.length := by
            obtain ⟨h, _⟩ := List.getElem?_eq_some_iff.1 HXA.out
            exact h
          have hlt3 : (at_ : Int) < (tj.length : Int) := by omega
          have x1 := hFd.out.cell 1
          obtain ⟨g, hA2, hc, hc2⟩ : ∃ g, A2 = some ⟨g, 0, none⟩ ∧ wr.cell? ⟨g, at_ * 2, none⟩ = some (.int .i64 x.1) ∧ wr.cell? ⟨g, at_ * 2 + 1, none⟩ = some (.int .i64 x.2) := by
            rcases hFd.row.2 with ⟨_, hn⟩ | ⟨g, cap, cur, e, hb, _⟩
            · exact absurd hn (by omega)
            · injection e with e1 e2 e3
              subst e1
              have e2 : (ts2_flat tj)[at_ * 2]? = some (.int .i64 x.1) ∧ (ts2_flat tj)[at_ * 2 + 1]? = some (.int .i64 x.2) := flat_at HXA.out
              refine ⟨g, rfl, ?_, ?_⟩
              · have hc := @World.ownsRow.cells _ _ _ _ _ _ _ hFd.row g rfl (at_ * 2) (.int .i64 x.1) e2.1
                rw [add_zero_off] at hc
                exact hc
              · have hc := @World.ownsRow.cells _ _ _ _ _ _ _ hFd.row g rfl (at_ * 2 + 1) (.int .i64 x.2) e2.2
                rw [add_zero_off] at hc
                exact hc
          subst hA2
          have hd : (List.range L).drop j = j :: (List.range L).drop (j + 1) := by
            rw [List.drop_eq_getElem_cons (by simp; omega)]; simp
          have hrs := HRS.out
          rw [hd] at hrs
          unfold A.rowS at hrs
          cases hy : nx x (j : Int) with
          | none => rw [hy] at hrs; cases hrs
          | some y =>
          rw [hy] at hrs
          dsimp only at hrs
          by_cases hmo : most < ((A.numO none_ y tj).2.length : Int)
          · rw [if_pos hmo] at hrs; cases hrs
          rw [if_neg hmo] at hrs
          have HR2 := Lib.hid hrs
          obtain ⟨hoky, hcall⟩ := HNX.out x j y wr hy HF.out
          have HY := Lib.hid hoky
          have HC := Lib.hid hcall
          have HD := Lib.hid hd
          have HM := Lib.hid hmo
          clear hd hrs hoky hcall hmo HRS
          have cb := HB.out.cell j
          go_wp2_with fail
          refine (show Calls Try.prog 32 #[.agg #[.int .i64 x.1, .int .i64 x.2], .int .i64 (j : Int), p1, p2] wr _ from HC.out).mono ?_
          rintro _ w3 ⟨rfl, f3⟩
          have HF3 : Hid (Frm (fun _ => False) w w3) := HF.out.trans f3
          have HFD3 : Hid (FdP w3 Sj fb none_ tj) := ⟨mb2, _, D2, hFd.frm f3 fun _ _ _ h => h⟩
          have HB3 : Hid (Blk w3 rb 3 (intCs (rj ++ List.replicate (L - j) 0))) := f3.blk HB.out id
          have HRW3 : Hid (RowsOwn w3 w.heap.size L (fun b => Sj b ∨ b = rb) u14 rk) := HRW.out.frm f3 (fun _ _ h => h.elim) fun _ _ h => h
          have HSS3 : Hid (∀ b, Sj b → w.heap.size ≤ b ∧ b < w3.heap.size) := fun b h => ⟨(HSS.out b h).1, Nat.lt_of_lt_of_le (HSS.out b h).2 f3.1⟩
          have HRB3 : Hid (rb < w3.heap.size) := HB3.out.lt
          clear f3 HF HFD HB HRW HSS HC hFd x1 cb hc hc2
          simp only [pairV]
          go_wp2_with fail
          refine (numberP_any HFD3.out HY.out (by have := HTL.out; omega)).mono ?_
          rintro _ w4 ⟨rfl, q4, f4⟩
          have HF4 : Hid (Frm (fun _ => False) w w4) := Frm.mono (E := fun b => w.heap.size ≤ b) ((HF3.out.mono fun _ _ h => h.elim).trans (f4.mono fun b _ h => (HSS3.out b h).1)) fun b hb h => by omega
          have HB4 : Hid (Blk w4 rb 3 (intCs (rj ++ List.replicate (L - j) 0))) := f4.blk HB3.out HNS.out
          have HFD4 : Hid (FdP w4 (fun b => Sj b ∨ w3.heap.size ≤ b) fb none_ (A.numO none_ y tj).2) := q4
          have HRW4 : Hid (RowsOwn w4 w.heap.size L (fun b => (Sj b ∨ w3.heap.size ≤ b) ∨ b = rb) u14 rk) := HRW3.out.frm f4 (fun _ _ h => .inl h) fun b hb h => by
            rcases h with (h | h) | h
            · exact .inl h
            · omega
            · exact .inr h
          have HTL4 : Hid ((A.numO none_ y tj).2.length ≤ 1000001) := show _ ≤ _ by have := HM.out; omega
          have HXA4 : Hid ((A.numO none_ y tj).2[at_]? = some x) := show _ = _ by
            have h1 := HXA.out
            unfold A.numO
            split
            · exact h1
            · split
              · exact h1
              · rw [List.getElem?_append_left hlt2]; exact h1
          generalize (A.numO none_ y tj).1 = n2 at *
          generalize (A.numO none_ y tj).2 = t2 at *
          clear f4 q4 HF3 HFD3 HB3 HRW3 HTL HXA hlt3
          have cb := HB4.out.cell j
          have fb4 := HB4.out.frozen j
          have HIJ : (intCs (rj ++ List.replicate (L - j) 0))[j]? = some (.int .i64 0) := by
            have hl := HJL.out
            rw [intCs_getD (by simp; omega)]
            simp [List.getD, hl, List.getElem?_append, List.getElem?_replicate]
            rw [if_pos (by omega)]; rfl
          rw [HIJ] at cb
          clear HIJ
          have HNS4 : Hid (¬ (Sj rb ∨ w3.heap.size ≤ rb)) := fun h => by
            have := HRB3.out
            rcases h with h | h
            · exact HNS.out h
            · omega
          obtain ⟨mb4, v4, D4, hF4⟩ := HFD4.out
          obtain ⟨A4, c4, rfl⟩ := own_form hF4.row
          have hne : fb ≠ rb := fun e => HNS4.out (e ▸ hF4.sf)
          have x4 := (hF4.out.far (p := ⟨rb, j, none⟩) hne (.int .i64 n2)).cell 1
          have HF5 : Hid (Frm (fun _ => False) w (w4.setCell ⟨rb, j, none⟩ (.int .i64 n2))) := HF4.out.set_ (p := ⟨rb, j, none⟩) (fun h => by have := HRB.out; simp at h; omega) _
          have f5 : Frm (fun b => b = rb) w4 (w4.setCell ⟨rb, j, none⟩ (.int .i64 n2)) := (Frm.refl (fun b => b = rb) w4).set_ (p := ⟨rb, j, none⟩) (fun _ => rfl) _
          have HFD5 : Hid (FdP (w4.setCell ⟨rb, j, none⟩ (.int .i64 n2)) (fun b => (Sj b ∨ w3.heap.size ≤ b) ∧ b < w4.heap.size) fb none_ t2) := ⟨mb4, _, D4, (hF4.mono (S' := fun b => (Sj b ∨ w3.heap.size ≤ b) ∧ b < w4.heap.size) fun b hb h => ⟨h, hb⟩).frm f5 fun b _ h e => HNS4.out (e ▸ h.1)⟩
          have HRW5 : Hid (RowsOwn (w4.setCell ⟨rb, j, none⟩ (.int .i64 n2)) w.heap.size L (fun b => ((Sj b ∨ w3.heap.size ≤ b) ∧ b < w4.heap.size) ∨ b = rb) u14 rk) := HRW4.out.frm f5 (fun _ _ h => .inr h) fun b _ h => h.imp (·.1) id
          have HB5 : Hid (Blk (w4.setCell ⟨rb, j, none⟩ (.int .i64 n2)) rb 3 (intCs ((rj ++ [n2]) ++ List.replicate (L - (j + 1)) 0))) := show Blk _ _ _ _ by
            have := HB4.out.set_ j (.int .i64 n2)
            rw [intCs_set] at this
            have e : (rj ++ List.replicate (L - j) 0).set j n2 = (rj ++ [n2]) ++ List.replicate (L - (j + 1)) 0 := by
              have hl := HJL.out
              rw [List.set_append, if_neg (by omega), hl, Nat.sub_self, show L - j = (L - (j + 1)) + 1 by omega, List.replicate_succ]
              simp
            rw [e] at this
            exact this
          have HS5 : Hid ((w4.setCell ⟨rb, j, none⟩ (.int .i64 n2)).heap.size = w4.heap.size) := show _ = _ by simp [World.setCell]
          have hmo : ¬ most < (t2.length : Int) := by have := HM.out; omega
          have HW3 : Hid (w.heap.size ≤ w3.heap.size) := show _ ≤ _ by have := HRB3.out; have := HRB.out; omega
          clear HF4 HFD4 HRW4 HB4 hF4 f5
          cases gk with
          | zero => omega
          | succ m =>
          go_wp2_with fail
          go_roundg m
          refine ⟨j + 1, t2, rj ++ [n2], _, rfl, by omega, (show _ = _ by simp [HJL.out]), HTL4, HR2, HXA4, HB5, HFD5, HRW5, ?_, ?_, HF5⟩
          · refine fun b h => ?_
            have := HS5.out
            have := HW3.out
            rcases h with ⟨h | h, h2⟩
            · have := HSS3.out b h; omega
            · omega
          · exact fun h => HNS4.out h.1
          all_goals omega
        · have e : L = j := by omega
          subst e
          have hrs := HRS.out
          rw [show (List.range L).drop L = [] by simp] at hrs
          obtain ⟨e1, e2⟩ : ts2 = tj ∧ row = rj := by
            unfold A.rowS at hrs
            injection hrs with hrs
            exact ⟨(congrArg Prod.fst hrs).symm, (congrArg Prod.snd hrs).symm⟩
          subst e1 e2
          have HRN : Hid (row.length = L) := HJL
          have HBB : Hid (Blk wr rb 3 (intCs row)) := show Blk _ _ _ _ by have := HB.out; rw [Nat.sub_self] at this; simpa using this
          clear HB hrs HRS
          obtain ⟨A14, c14, rfl⟩ := own_form HRW.out.choose_spec.2.1
          obtain ⟨gs, hgs⟩ : ∃ gs, gs = HRW.out.choose := ⟨_, rfl⟩
          have HO := Lib.hid HRW.out.choose_spec.2.1
          rw [← hgs] at HO
          have HGS := Lib.hid hgs
          clear hgs
          have HRK : Hid (rk.length + 1 ≤ 100000000) := show _ ≤ _ by omega
          have HKL := Lib.hid hrk
          clear hrk
          obtain ⟨i0, hi0, hz0, hz1, hz2⟩ := info_parts info_sInt
          go_wp2_with (at_builtin; refine wpList_append_own_at _ rfl _ _ 22 rfl w.heap.size 28 i0 (.slice none 0 0) 1 24 Try.underlying22 hi0 hz0 hz1 hz2 rfl (by decide) _ _ _ rfl (HO.out.alloc _) ⟨wr.heap.size, 0, none⟩ 1 1 [.slice (some ⟨rb, 0, none⟩) L L] rfl rfl (cell_one_at rfl) (by simp [Value.oneCell']) (by have := HRK.out; unfold maxLen; omega) (by have := HRK.out; omega) (by have := HF.out.1; simp; omega) ?_)
          intro v' w4 hown1 hgrow _ hat4
          have f4 : Frm (fun b => (Value.slice A14 rk.length c14).ownBlock = some b) wr w4 := ((Frm.refl _ wr).alloc _).grown hgrow fun g hg _ => hg
          have HR4 : Hid (RowsOwn w4 w.heap.size L Sj v' (rk ++ [row])) := HRW.out.push HBB.out HRN.out HRB.out HNS.out f4 (HGS.out ▸ hown1) hat4 (by simp) fun b hb => (HSS.out b hb).2
          have HFD4 : Hid (FdP w4 Sj fb none_ ts2) := ⟨mb2, _, D2, hFd.frm f4 fun b _ hs e => by
            obtain ⟨gs, _, _, h3, _⟩ := HRW.out
            exact h3 b e (.inl hs)⟩
          have HSS4 : Hid (∀ b, Sj b → w.heap.size ≤ b ∧ b < w4.heap.size) := fun b hb => ⟨(HSS.out b hb).1, Nat.lt_of_lt_of_le (HSS.out b hb).2 f4.1⟩
          have HF4 : Hid (Frm (fun _ => False) w w4) := Frm.mono (E := fun b => w.heap.size ≤ b) ((HF.out.mono fun _ _ h => h.elim).trans (f4.mono fun b _ h => (World.ownsRow.lt HO.out b h).1)) fun b hb h => by omega
          obtain ⟨A5, c5, rfl⟩ := own_form hown1
          clear f4 hown1 hgrow hat4 hi0 hz0 hz1 hz2 HO hFd HGS HRW HFD
          have HLE4 : Hid (at_ + 1 ≤ ts2.length) := (List.getElem?_eq_some_iff.1 HXA.out).1
          go_wp2_with fail
          go_roundg n
          refine ⟨at_ + 1, ts2, rk ++ [row], Sj, by go_num, by omega, by simp [HKL.out], HLE4, HTL, HS2, HFD4, ?_, HSS4, HF4⟩
          all_goals (first | omega | exact HR4 | skip)
    · rw [dif_neg hlt] at hsr
      injection hsr with hsr
      obtain ⟨e1, e2⟩ : ts = tk ∧ rows = rk := ⟨(congrArg Prod.fst hsr).symm, (congrArg Prod.snd hsr).symm⟩
      subst e1 e2
      have hlt' : ¬ (at_ : Int) < (ts.length : Int) := by omega
      have hrl : rows.length = ts.length := by have := HLE.out; omega
      have hal : at_ = ts.length := by have := HLE.out; omega
      have HR := HRW.out
      obtain ⟨A14, c14, rfl⟩ := own_form HR.choose_spec.2.1
      have HRR : Hid (RowsOwn wr w.heap.size L Sk (.slice A14 ts.length c14) rows) := by rw [← hrl]; exact HRW.out
      rw [hrl]
      have HFF := Lib.hid hFd
      clear HR HRW hsr hrow hFd hrk hrl HSR
      subst hal
      go_wp2_with fail
      clear hlt hlt' hat HLE HFD HNX
      go_quiet (fail)
      go_wp2
      try rw [Exit.noGoto_ret]
      refine bodyPost_ret (v := .tuple #[.slice AT ts.length cT, .slice A14 ts.length c14, .bool true]) (by simp [results, Try.results31, go_sem]) rfl ?_
      refine ⟨_, _, rfl, ?_, HRR.out.rows2, HF.out⟩
      have h := HFF.out.row
      refine ⟨h.1, ?_⟩
      rcases h.2 with h2 | ⟨g, cap, cur, e, _, h3, h4, h5, h6, h7⟩
      · exact .inl h2
      · refine .inr ⟨g, cap, cur, e, ?_, h3, h4, h5, h6, ?_⟩
        · have := (HFF.out.sv g (by rw [e]; rfl)).1
          exact (HSS.out g this).1
        · exact h7
end Go.Proofs.Ytiekaicbjinbaaa
end
