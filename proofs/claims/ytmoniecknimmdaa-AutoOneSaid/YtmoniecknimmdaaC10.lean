/- The reference's classes. Plain: the states that are found. The reference's found. The reference's none. Plain: a machine of classes, and one whose states are numbered anew, do what the first one does. Least. even, and what the closed run of awake comes to. awake. Contracts of the program's functions, with no condition beyond what each theorem states. -/
import Derived.Test.YtmoniecknimmdaaC09
import Derived.Test.YtmoniecknimmdaaC04
import Derived.Test.YtmoniecknimmdaaC06
import Derived.Test.YtmoniecknimmdaaC07
import Derived.Test.YtmoniecknimmdaaC03
section
namespace Go.Proofs.Ytmoniecknimmdaa
open Go.RowKit
def intsOf (fs : List Nat) : List Int := fs.map Int.ofNat
theorem intsOf_len (fs : List Nat) : (intsOf fs).length = fs.length := by simp [intsOf]
theorem intsOf_get {fs : List Nat} {j : Nat} (h : j < fs.length) : (intsOf fs).getD j 0 = (fs[j] : Int) := by simp [intsOf, h]
theorem intsOf_app (fs : List Nat) (i : Nat) : intsOf (fs ++ [i]) = intsOf fs ++ [(i : Int)] := by simp [intsOf]
theorem Blk.ints_ {w : World} {g : Nat} {l : List Int} (h : Blk w g 3 (intCs l)) : Ints w (fun b => b = g) (.slice (some ⟨g, 0, none⟩) l.length l.length) l :=
  ⟨_, _, rfl, fun k hk => ⟨g, 0, rfl, rfl, by rw [Nat.zero_add]; exact (h.cell k).trans (intCs_get hk)⟩⟩
theorem Ints.mono_ {w : World} {P Q : Nat → Prop} {v : Value} {l : List Int} (h : Ints w P v l) (hPQ : ∀ b, P b → Q b) : Ints w Q v l := by
  obtain ⟨A0, c, e, h⟩ := h
  exact ⟨A0, c, e, fun k hk => by obtain ⟨g, o, h1, h2, h3⟩ := h k hk; exact ⟨g, o, h1, hPQ g h2, h3⟩⟩
theorem cell_ltR {w : World} {g i : Nat} {v : Value} (h : w.cell? ⟨g, i, none⟩ = some v) : g < w.heap.size := by
  unfold World.cell? at h
  rcases Nat.lt_or_ge g w.heap.size with h' | h'
  · exact h'
  · rw [Array.getElem?_eq_none h'] at h
    cases h
def vW (x v : Value) (_ : World) : Prop := v = x
def vIf (p : Prop) (v : Value) (_ : World) : Prop := ∃ r : Bool, v = .bool r ∧ (r = true ↔ p)
set_option maxRecDepth 100000 in
set_option maxHeartbeats 16000000 in
theorem rclasses_any {w : World} {P : Nat → Prop} {v : Value} {m : A.Mac} (h : MachAt w P v m) (hf : A.Fits m) (hn : m.next.length ≤ 4000) (hl3 : m.letters ≤ 300) :
    Calls Try.prog 37 #[v] w fun e w' => ∃ r cl c, e = .returned r ∧ Ints w' (fun b => w.heap.size ≤ b) r cl ∧ A.ClsOK m cl c ∧ Frm (fun _ => False) w w' := by
  obtain ⟨A1, c1, A2, c2, rfl⟩ := h.form
  obtain ⟨N, hN⟩ : ∃ N, N = m.next.length := ⟨_, rfl⟩
  have hNf : N = m.fin.length := by rw [hN]; exact hf.fin
  have HB0 : Hid (Blk (w.alloc (.cells #[.int .i64 m.letters, .int .i64 m.start, .slice A1 m.next.length c1, .slice A2 m.fin.length c2] 25)) w.heap.size 25 #[.int .i64 m.letters, .int .i64 m.start, .slice A1 m.next.length c1, .slice A2 m.fin.length c2]) := Blk.new w _ _
  have HF0 : Hid (Frm (fun _ => False) w (w.alloc (.cells #[.int .i64 m.letters, .int .i64 m.start, .slice A1 m.next.length c1, .slice A2 m.fin.length c2] 25))) := (Frm.refl _ w).alloc _
  have HM := Lib.hid h
  have HFI := Lib.hid hf
  have HN4 := Lib.hid hn
  have HL3 := Lib.hid hl3
  have HN := Lib.hid hN
  have HNF := Lib.hid hNf
  have x0 := HB0.out.cell 0
  have x1 := HB0.out.cell 1
  have x2 := HB0.out.cell 2
  have x3 := HB0.out.cell 3
  clear h hf hN hNf hn hl3
  go_enter Try.func37, Try.ntmps37
  go_wp2_with fail
  clear x0 x1 x2 x3
  refine (live_any (HM.out.keep0 HF0.out) HFI.out HN4.out HL3.out).mono ?_
  rintro _ w1 ⟨r3, o, rfl, hB, hO, f1⟩
  obtain ⟨A3, c3, rfl, _⟩ := id hB
  have HO := Lib.hid hO
  have HOL : Hid (o.length = N) := hO.len.trans HN.out.symm
  have HF1 := Lib.hid (HF0.out.trans f1)
  have HB1 : Hid (Blk w1 w.heap.size 25 #[.int .i64 m.letters, .int .i64 m.start, .slice A1 m.next.length c1, .slice A2 m.fin.length c2]) := f1.blk HB0.out id
  rw [← HN.out, ← HNF.out] at HB1
  have HBO : Hid (Bools w1 (fun b => b < w1.heap.size) (.slice A3 o.length c3) o) := by
    obtain ⟨_, _, e, hb⟩ := id hB
    exact ⟨_, _, e, fun k hk => by obtain ⟨gb, ob, e1, _, e3⟩ := hb k hk; exact ⟨gb, ob, e1, cell_ltR e3, e3⟩⟩
  have hN4 := HN4.out
  rw [← HN.out] at hN4
  clear hB hO f1 HF0 HB0
  have hmk := run_make_row' (P := Try.prog) 35 3 (.int .i64 0) 8 Try.underlying35 info_int rfl .i64 .i64 N (by omega) (by omega)
  have x2 := HB1.out.cell 2
  rw [← HN.out, ← HNF.out, HOL.out]
  go_wp2_with fail
  have HG : Hid (Blk (w1.alloc (.cells (madeCells #[.int .i64 0] N) 3)) w1.heap.size 3 (intCs (List.replicate N 0))) := by rw [← intCs_made]; exact Blk.new w1 _ _
  have HB2 := Lib.hid (HB1.out.alloc (.cells (madeCells #[.int .i64 0] N) 3))
  have HF2 := Lib.hid (HF1.out.alloc (.cells (madeCells #[.int .i64 0] N) 3))
  have HBO2 := Lib.hid (HBO.out.keep ((Frm.refl (fun _ => False) w1).alloc (.cells (madeCells #[.int .i64 0] N) 3)) fun _ _ => id)
  have HLW : Hid (w.heap.size < w1.heap.size) := HB1.out.lt
  have HLW2 : Hid (w1.heap.size < (w1.alloc (.cells (madeCells #[.int .i64 0] N) 3)).heap.size) := HG.out.lt
  generalize w1.alloc (.cells (madeCells #[.int .i64 0] N) 3) = w2 at *
  clear hmk x2 HB1 HF1 HBO
  obtain ⟨g1, hg1⟩ : ∃ g1, g1 = w1.heap.size := ⟨_, rfl⟩
  rw [← hg1] at HG HLW HLW2 HBO2
  rw [← hg1]
  clear hg1
  have HBX : Hid (∀ {wr : World}, Frm (fun b => b = g1) w2 wr → Frm (fun _ => False) w wr) := fun F => ((HF2.out.mono fun _ _ h => h.elim).trans F).mono fun b hb h => by have := HLW.out; omega
  go_loopg [5] (N + 1) (fun n u wr => ∃ (k : Nat) (l : List Int), k ≤ N ∧ n = N + 1 - k ∧ u = .int .i64 (k : Int) ∧ l.length = N ∧ Hid (∀ s, s < k → l.getD s 0 = A.cls0 m o s) ∧ Hid (Blk wr g1 3 (intCs l)) ∧ Hid (Frm (fun b => b = g1) w2 wr))
  case atStart => exact ⟨0, _, Nat.zero_le _, rfl, rfl, List.length_replicate .., fun s hs => absurd hs (Nat.not_lt_zero s), HG, Frm.refl _ _⟩
  case round =>
    clear HG
    obtain ⟨k, l, hk, rfl, rfl, hll, HC, HG, HF⟩ := hrel
    by_cases hlt : k < N
    · have hlt' : (k : Int) < (N : Int) := by omega
      have hkl : k < l.length := by omega
      have hlw := HLW.out
      obtain ⟨A3', c3', e, hb⟩ := HBO2.out.keep HF.out fun b hb h => by omega
      injection e with e1 e2 e3
      subst e1 e3
      obtain ⟨gb, ob, rfl, hgb, c0⟩ := hb k (by rw [HOL.out]; exact hlt)
      have hkf : k < m.fin.length := by rw [← HNF.out]; exact hlt
      obtain ⟨gf, off, rfl, cf⟩ := HM.out.fin_at hkf
      have hgf := cell_ltR cf
      have cf1 := (HBX.out HF.out).cell id cf
      have HBW := HF.out.blk HB2.out (by omega)
      have x3 := HBW.cell 3
      have y0 := (HG.out.cell k).trans (intCs_getD hkl)
      have yf := HG.out.frozen k
      have HK0 : Hid (A.cls0 m o k = if o[k]'(by rw [HOL.out]; exact hlt) then (if m.fin[k] then 1 else 0) else -1) := by
        show _ = _
        unfold A.cls0
        simp [hkf, HOL.out, hlt]
      have HB3 : Hid (Blk (wr.setCell ⟨g1, k, none⟩ (.int .i64 (-1))) g1 3 (intCs (l.set k (-1)))) := by rw [← intCs_set]; exact HG.out.set_ k _
      have HF3 : Hid (Frm (fun b => b = g1) w2 (wr.setCell ⟨g1, k, none⟩ (.int .i64 (-1)))) := HF.out.set_ (p := ⟨g1, k, none⟩) (fun _ => rfl) _
      have q0 := (Frm.one (w := wr) g1 k (.int .i64 (-1))).cell (show gb ≠ g1 by omega) c0
      have hmore : ∀ x : Int, A.cls0 m o k = x → ∀ s, s < k + 1 → (l.set k x).getD s 0 = A.cls0 m o s := fun x hx s hs => by
        rw [A.getD_setR hkl]
        split
        · rename_i e; rw [← e, hx]
        · exact HC.out s (by omega)
      have HMO := Lib.hid hmore
      clear hmore hb cf
      cases hok : o[k]'(by rw [HOL.out]; exact hlt) with
      | false =>
        rw [hok] at q0 HK0
        have HC2 : Hid (∀ s, s < k + 1 → (l.set k (-1)).getD s 0 = A.cls0 m o s) := HMO.out _ HK0.out
        clear hok c0
        go_wp2_with fail
        go_roundg (N + 1 - (k + 1))
        case measure => omega
        case rel => exact ⟨k + 1, _, by omega, rfl, by go_num, by rw [List.length_set]; exact hll, HC2, HB3, HF3⟩
      | true =>
        rw [hok] at q0 HK0
        clear hok c0
        have HB4 : Hid (Blk ((wr.setCell ⟨g1, k, none⟩ (.int .i64 (-1))).setCell ⟨g1, k, none⟩ (.int .i64 0)) g1 3 (intCs (l.set k 0))) := by
          have h := HB3.out.set_ k (.int .i64 0)
          rw [intCs_set, List.set_set] at h
          exact h
        have HF4 : Hid (Frm (fun b => b = g1) w2 ((wr.setCell ⟨g1, k, none⟩ (.int .i64 (-1))).setCell ⟨g1, k, none⟩ (.int .i64 0))) := HF3.out.set_ (p := ⟨g1, k, none⟩) (fun _ => rfl) _
        have F34 : Frm (fun b => b = g1) wr ((wr.setCell ⟨g1, k, none⟩ (.int .i64 (-1))).setCell ⟨g1, k, none⟩ (.int .i64 0)) := (Frm.one g1 k _).set_ (p := ⟨g1, k, none⟩) (fun _ => rfl) _
        have q1 := F34.cell (show w.heap.size ≠ g1 by omega) x3
        have q2 := F34.cell (show gf ≠ g1 by omega) cf1
        have q3 := (HB3.out.cell k).trans (intCs_getD (by rw [List.length_set]; exact hkl))
        have q4 := HB3.out.frozen k
        simp only [if_true] at HK0
        cases hfk : m.fin[k] with
        | false =>
          rw [hfk] at q2 HK0
          have HC2 : Hid (∀ s, s < k + 1 → (l.set k 0).getD s 0 = A.cls0 m o s) := HMO.out _ HK0.out
          clear hfk F34
          go_wp2_with fail
          go_roundg (N + 1 - (k + 1))
          case measure => omega
          case rel => exact ⟨k + 1, _, by omega, rfl, by go_num, by rw [List.length_set]; exact hll, HC2, HB4, HF4⟩
        | true =>
          rw [hfk] at q2 HK0
          have HC2 : Hid (∀ s, s < k + 1 → (l.set k 1).getD s 0 = A.cls0 m o s) := HMO.out _ HK0.out
          have q5 := (HB4.out.cell k).trans (intCs_getD (by rw [List.length_set]; exact hkl))
          have q6 := HB4.out.frozen k
          have HB5 : Hid (Blk (((wr.setCell ⟨g1, k, none⟩ (.int .i64 (-1))).setCell ⟨g1, k, none⟩ (.int .i64 0)).setCell ⟨g1, k, none⟩ (.int .i64 1)) g1 3 (intCs (l.set k 1))) := by
            have h := HB4.out.set_ k (.int .i64 1)
            rw [intCs_set, List.set_set] at h
            exact h
          have HF5 : Hid (Frm (fun b => b = g1) w2 (((wr.setCell ⟨g1, k, none⟩ (.int .i64 (-1))).setCell ⟨g1, k, none⟩ (.int .i64 0)).setCell ⟨g1, k, none⟩ (.int .i64 1))) := HF4.out.set_ (p := ⟨g1, k, none⟩) (fun _ => rfl) _
          clear hfk F34
          go_wp2_with fail
          go_roundg (N + 1 - (k + 1))
          case measure => omega
          case rel => exact ⟨k + 1, _, by omega, rfl, by go_num, by rw [List.length_set]; exact hll, HC2, HB5, HF5⟩
    · obtain rfl : k = N := by omega
      have hlt' : ¬ (k : Int) < (k : Int) := by omega
      have HPRE : Hid (A.Pre m l 0) := A.cls0_pre HFI.out HO.out (by have := HN.out; omega) (by rw [← HN.out]; exact HC.out)
      have HBX2 : Hid (Blk wr w.heap.size 25 #[.int .i64 m.letters, .int .i64 m.start, .slice A1 k c1, .slice A2 k c2]) := HF.out.blk HB2.out (by have := HLW.out; omega)
      have HFW : Hid (Frm (fun _ => False) w wr) := HBX.out HF.out
      have HLG := HLW
      clear HBX HF HB2 HF2 HBO2 HC hlt hlt' hk
      go_wp2_with fail
      go_loopg [4, 6] (k + 1) (fun n u4 u6 wr => ∃ (out : List Int) (c g : Nat), n = k + 1 - c ∧ c ≤ k ∧ u4 = .slice (some ⟨g, 0, none⟩) k k ∧ u6 = .int .i64 (c : Int) ∧ w.heap.size < g ∧ Hid (A.Pre m out c) ∧ Hid (Blk wr g 3 (intCs out)) ∧ Hid (Blk wr w.heap.size 25 #[.int .i64 m.letters, .int .i64 m.start, .slice A1 k c1, .slice A2 k c2]) ∧ Hid (Frm (fun _ => False) w wr))
      case atStart => exact ⟨l, 0, g1, rfl, Nat.zero_le _, rfl, rfl, HLG.out, HPRE, HG, HBX2, HFW⟩
      case round =>
        clear HPRE HG HBX2 HFW HLG HLW HLW2 HO HOL hll
        obtain ⟨out, c, g, rfl, hck, rfl, rfl, hgw, HPRE, HG, HB, HF⟩ := hrel
        have hmk := run_make_row' (P := Try.prog) 35 3 (.int .i64 0) 8 Try.underlying35 info_int rfl .i64 .i64 k (by omega) (by omega)
        go_wp2_with fail
        have HW1 : Hid (w.heap.size < wr.heap.size) := HB.out.lt
        have HW2 : Hid (g < wr.heap.size) := HG.out.lt
        have HNX : Hid (Blk ((wr.alloc (.cells (madeCells #[.int .i64 0] k) 3)).alloc (.cells #[] 3)) wr.heap.size 3 (intCs (List.replicate k 0))) := by rw [← intCs_made]; exact (Blk.new wr _ _).alloc _
        have HG' := Lib.hid ((HG.out.alloc (.cells (madeCells #[.int .i64 0] k) 3)).alloc (.cells #[] 3))
        have HB' := Lib.hid ((HB.out.alloc (.cells (madeCells #[.int .i64 0] k) 3)).alloc (.cells #[] 3))
        have HF' := Lib.hid ((HF.out.alloc (.cells (madeCells #[.int .i64 0] k) 3)).alloc (.cells #[] 3))
        have HOW : Hid (OwnInts ((wr.alloc (.cells (madeCells #[.int .i64 0] k) 3)).alloc (.cells #[] 3)) (wr.heap.size + 1) (.slice (some ⟨wr.heap.size + 1, 0, none⟩) 0 0) (intsOf [])) := by
          have h := World.ownsRow_made (base := wr.heap.size + 1) (e := 3) (size := 1) (wr.alloc (.cells (madeCells #[.int .i64 0] k) 3)) #[] 0 (by simp) (by decide) rfl
          have e : (wr.alloc (.cells (madeCells #[.int .i64 0] k) 3)).heap.size = wr.heap.size + 1 := by simp
          rw [e] at h
          exact h
        have HRF : Hid (A.Ref m out (List.replicate k 0) [] 0) := ⟨by simp [HN.out], Nat.le_refl _, fun j hj => absurd hj (Nat.not_lt_zero j), fun s hs => absurd hs (Nat.not_lt_zero s), fun s hs => absurd hs (Nat.not_lt_zero s), fun j j' hj => absurd hj (Nat.not_lt_zero j)⟩
        obtain ⟨gn, hgn⟩ : ∃ gn, gn = wr.heap.size := ⟨_, rfl⟩
        rw [← hgn] at HNX HOW HW1 HW2
        rw [← hgn]
        have HS : Hid (gn + 1 ≤ ((wr.alloc (.cells (madeCells #[.int .i64 0] k) 3)).alloc (.cells #[] 3)).heap.size) := by show _ ≤ _; simp [hgn]
        clear HG HB HF hmk hgn
        go_loopg [8, 9] (k + 1) (fun n u8 u9 wr => ∃ (i : Nat) (nx : List Int) (fs : List Nat), i ≤ k ∧ n = k + 1 - i ∧ u9 = .int .i64 (i : Int) ∧ Hid (A.Ref m out nx fs i) ∧ Hid (OwnInts wr (gn + 1) u8 (intsOf fs)) ∧ Hid (Blk wr gn 3 (intCs nx)) ∧ Hid (Blk wr g 3 (intCs out)) ∧ Hid (Blk wr w.heap.size 25 #[.int .i64 m.letters, .int .i64 m.start, .slice A1 k c1, .slice A2 k c2]) ∧ Hid (Frm (fun _ => False) w wr) ∧ Hid (gn + 1 ≤ wr.heap.size))
        case atStart => exact ⟨0, _, [], Nat.zero_le _, rfl, rfl, HRF, HOW, HNX, HG', HB', HF', HS⟩
        case round =>
          clear HRF HOW HNX HG' HB' HF' HS
          obtain ⟨i, nx, fs, hi, rfl, rfl, HRF, HO, HNX, HG, HB, HF, HS⟩ := hrel
          obtain ⟨A8, c8, rfl⟩ := own_form HO.out
          rw [intsOf_len] at HO ⊢
          have hfl := HRF.out.le
          by_cases hlt : i < k
          · have hlt' : (i : Int) < (k : Int) := by omega
            have hin : i < m.next.length := by rw [← HN.out]; exact hlt
            have hil : i < nx.length := by rw [HRF.out.len]; exact hin
            have hol : i < out.length := by rw [HPRE.out.len]; exact hin
            have y0 := (HNX.out.cell i).trans (intCs_getD hil)
            have yf := HNX.out.frozen i
            have hw1 := HW1.out
            have hw2 := HW2.out
            have FS : Frm (fun b => b = gn) wr (wr.setCell ⟨gn, i, none⟩ (.int .i64 (-1))) := Frm.one gn i _
            have HNX1 : Hid (Blk (wr.setCell ⟨gn, i, none⟩ (.int .i64 (-1))) gn 3 (intCs (nx.set i (-1)))) := by rw [← intCs_set]; exact HNX.out.set_ i _
            have HG1 := Lib.hid (FS.blk HG.out (by omega))
            have HB1 := Lib.hid (FS.blk HB.out (by omega))
            have HF1 : Hid (Frm (fun _ => False) w (wr.setCell ⟨gn, i, none⟩ (.int .i64 (-1)))) := ((HF.out.mono fun _ _ h => h.elim).trans FS).mono fun b hb h => by omega
            have HO1 : Hid (OwnInts (wr.setCell ⟨gn, i, none⟩ (.int .i64 (-1))) (gn + 1) (.slice A8 fs.length c8) (intsOf fs)) := HO.out.frm FS fun b hb => by omega
            have HS1 : Hid (gn + 1 ≤ (wr.setCell ⟨gn, i, none⟩ (.int .i64 (-1))).heap.size) := show _ ≤ _ from Nat.le_trans HS.out FS.1
            clear FS
            go_wp2_with fail
            clear y0 yf HNX HG HB HF HO HS
            go_loopg [10] (fs.length + 1) (fun n u wr => ∃ j : Nat, j ≤ fs.length ∧ n = fs.length + 1 - j ∧ u = .int .i64 (j : Int) ∧ Hid (∀ j' (h' : j' < fs.length), j' < j → ¬ A.Alike m out i fs[j']) ∧ Hid (OwnInts wr (gn + 1) (.slice A8 fs.length c8) (intsOf fs)) ∧ Hid (Blk wr gn 3 (intCs (nx.set i (-1)))) ∧ Hid (Blk wr g 3 (intCs out)) ∧ Hid (Blk wr w.heap.size 25 #[.int .i64 m.letters, .int .i64 m.start, .slice A1 k c1, .slice A2 k c2]) ∧ Hid (Frm (fun _ => False) w wr) ∧ Hid (gn + 1 ≤ wr.heap.size))
            case atStart => exact ⟨0, Nat.zero_le _, rfl, rfl, fun j' _ hj' => absurd hj' (Nat.not_lt_zero j'), HO1, HNX1, HG1, HB1, HF1, HS1⟩
            case round =>
              clear HNX1 HG1 HB1 HF1 HO1 HS1
              obtain ⟨j, hj, rfl, rfl, HNA, HO, HNX, HG, HB, HF, HS⟩ := hrel
              have z0 := (HG.out.cell i).trans (intCs_getD hol)
              have z1 := (HNX.out.cell i).trans (intCs_getD (by rw [List.length_set]; exact hil))
              have z2 := HNX.out.frozen i
              rw [A.getD_setR hil, if_pos rfl] at z1
              obtain ⟨ov, hov⟩ : ∃ ov, ov = out.getD i 0 := ⟨_, rfl⟩
              rw [← hov] at z0
              have HOV := Lib.hid hov
              clear hov
              by_cases ho : 0 ≤ ov
              case neg =>
                have ho' : ov < 0 := by omega
                have HR2 : Hid (A.Ref m out (nx.set i (-1)) fs (i + 1)) := HRF.out.dead_ hin (by rw [← HOV.out]; exact ho')
                by_cases hjl : j < fs.length
                · have hjl' : (j : Int) < (fs.length : Int) := by omega
                  go_wp2_with fail
                  go_roundg (k + 1 - (i + 1))
                  case measure => omega
                  case rel => exact ⟨i + 1, _, fs, by omega, rfl, by go_num, HR2, HO, HNX, HG, HB, HF, HS⟩
                · have hjl' : ¬ (j : Int) < (fs.length : Int) := by omega
                  go_wp2_with fail
                  go_roundg (k + 1 - (i + 1))
                  case measure => omega
                  case rel => exact ⟨i + 1, _, fs, by omega, rfl, by go_num, HR2, HO, HNX, HG, HB, HF, HS⟩
              by_cases hjl : j < fs.length
              case pos =>
                have hjl' : (j : Int) < (fs.length : Int) := by omega
                obtain ⟨gf, rfl, hgf, d0⟩ := OwnInts.at_ (l := intsOf fs) (by rw [intsOf_len]; exact HO.out) (k := j) (by rw [intsOf_len]; exact hjl)
                rw [intsOf_get hjl] at d0
                obtain ⟨hfi, _, _⟩ := HRF.out.fsi j hjl
                obtain ⟨f, hf⟩ : ∃ f, f = fs[j] := ⟨_, rfl⟩
                rw [← hf] at d0 hfi
                have HFJ := Lib.hid hf
                clear hf
                have hkm : (gf : Nat) ≠ w.heap.size := by have := HW1.out; omega
                go_wp2_with fail
                refine wp_region_list [67, 68, 69, 70, 71, 72, 73, 74] [vW (.agg #[.int .i64 m.letters, .int .i64 m.start, .slice A1 k c1, .slice A2 k c2]), vW (.slice (some ⟨g, 0, none⟩) k k), vW (.int .i64 (i : Int)), vW (.slice (some ⟨gf, 0, none⟩) fs.length c8), vW (.int .i64 (j : Int)), vW (.pointer (some ⟨gf, j, none⟩)), vW (.int .i64 (f : Int)), vIf (A.Alike m out i f)] (Frm (fun _ => False)) [] [(1, .pointer (some ⟨w.heap.size, 0, none⟩)), (4, .slice (some ⟨g, 0, none⟩) k k), (9, .int .i64 (i : Int)), (8, .slice (some ⟨gf, 0, none⟩) fs.length c8), (10, .int .i64 (j : Int))] (by kernel_rfl) (by kernel_rfl) (fun _ _ _ => Frm.trans) ?_ (fun _ h => by cases h) (Frm.refl _ _).drew ?_ ?_ ?_
                · intro f hf v w w' h F
                  simp only [List.mem_cons, List.not_mem_nil, or_false] at hf
                  rcases hf with rfl | rfl | rfl | rfl | rfl | rfl | rfl | rfl <;> exact h
                · intro x hx
                  simp only [List.mem_cons, List.not_mem_nil, or_false] at hx
                  rcases hx with rfl | rfl | rfl | rfl | rfl <;> exact ⟨by simp, rfl⟩
                · refine ⟨?_, ?_, ?_, ?_, ?_, ?_, ?_, ?_, trivial⟩
                  · intro Q tm df V hR hu hd
                    have u1 : tm[1]?.getD undef = .pointer (some ⟨w.heap.size, 0, none⟩) := hu (1, _) (by simp)
                    have hb := hR.blk HB.out id
                    have y0 := hb.cell 0
                    have y1 := hb.cell 1
                    have y2 := hb.cell 2
                    have y3 := hb.cell 3
                    clear hu hd hb
                    go_simp
                    exact ⟨_, rfl, rfl, Frm.refl _ V⟩
                  · intro Q tm df V hR hu hd
                    have u1 : tm[4]?.getD undef = .slice (some ⟨g, 0, none⟩) k k := hu (4, _) (by simp)
                    clear hu hd
                    go_simp
                    exact ⟨_, rfl, rfl, Frm.refl _ V⟩
                  · intro Q tm df V hR hu hd
                    have u1 : tm[9]?.getD undef = .int .i64 (i : Int) := hu (9, _) (by simp)
                    clear hu hd
                    go_simp
                    exact ⟨_, rfl, rfl, Frm.refl _ V⟩
                  · intro Q tm df V hR hu hd
                    have u1 : tm[8]?.getD undef = .slice (some ⟨gf, 0, none⟩) fs.length c8 := hu (8, _) (by simp)
                    clear hu hd
                    go_simp
                    exact ⟨_, rfl, rfl, Frm.refl _ V⟩
                  · intro Q tm df V hR hu hd
                    have u1 : tm[10]?.getD undef = .int .i64 (j : Int) := hu (10, _) (by simp)
                    clear hu hd
                    go_simp
                    exact ⟨_, rfl, rfl, Frm.refl _ V⟩
                  · intro Q tm df V hR hu hd
                    have e0 : tm[70]?.getD undef = .slice (some ⟨gf, 0, none⟩) fs.length c8 := hd 3 (by simp)
                    have e1 : tm[71]?.getD undef = .int .i64 (j : Int) := hd 4 (by simp)
                    clear hu hd
                    go_simp
                    exact ⟨_, rfl, rfl, Frm.refl _ V⟩
                  · intro Q tm df V hR hu hd
                    have e0 : tm[72]?.getD undef = .pointer (some ⟨gf, j, none⟩) := hd 5 (by simp)
                    have y0 := hR.cell id d0
                    clear hu hd
                    go_simp
                    exact ⟨_, rfl, rfl, Frm.refl _ V⟩
                  · intro Q tm df V hR hu hd
                    have e0 : tm[67]?.getD undef = .agg #[.int .i64 m.letters, .int .i64 m.start, .slice A1 k c1, .slice A2 k c2] := hd 0 (by simp)
                    have e1 : tm[68]?.getD undef = .slice (some ⟨g, 0, none⟩) k k := hd 1 (by simp)
                    have e2 : tm[69]?.getD undef = .int .i64 (i : Int) := hd 2 (by simp)
                    have e3 : tm[73]?.getD undef = .int .i64 (f : Int) := hd 6 (by simp)
                    have hm := HM.out.keep0 (HF.out.trans hR)
                    rw [← HN.out, ← HNF.out] at hm
                    have hI := (hR.blk HG.out id).ints_
                    rw [HPRE.out.len, ← HN.out] at hI
                    clear hu hd
                    go_simp
                    refine (alike_any hm HFI.out HL3.out hI HPRE.out.len hin (by rw [← HN.out]; omega)).mono ?_
                    rintro e w' ⟨⟨r, rfl, hr⟩, f⟩
                    exact ⟨_, rfl, ⟨r, rfl, hr⟩, f⟩
                · intro vs V hR hf
                  obtain ⟨r, e7, hr⟩ : vIf (A.Alike m out i f) (vs 7) V := hf 7 (by decide)
                  clear hf
                  have HNX2 := Lib.hid (hR.blk HNX.out id)
                  have HG2 := Lib.hid (hR.blk HG.out id)
                  have HB2 := Lib.hid (hR.blk HB.out id)
                  have HF2 := Lib.hid (HF.out.trans hR)
                  have HO2 : Hid (OwnInts V (gn + 1) (.slice (some ⟨gf, 0, none⟩) fs.length c8) (intsOf fs)) := HO.out.frm hR fun _ _ => id
                  have HS2 : Hid (gn + 1 ≤ V.heap.size) := show _ ≤ _ from Nat.le_trans HS.out hR.1
                  have z0 := hR.cell id z0
                  have y0 := (HNX2.out.cell i).trans (intCs_getD (by rw [List.length_set]; exact hil))
                  have y1 := HNX2.out.frozen i
                  have HRR := Lib.hid hr
                  clear HNX HG HB HF HO HS hR hr
                  simp only [putAll, List.size_toArray, List.length_cons, List.length_nil, Nat.zero_add, Nat.reduceAdd, show List.range 8 = [0, 1, 2, 3, 4, 5, 6, 7] from rfl, List.foldl_cons, List.foldl_nil, List.getD_cons_zero, List.getD_cons_succ, List.setIfInBounds_toArray, List.set_cons_zero, List.set_cons_succ, e7]
                  cases r with
                  | false =>
                    have HNA2 : Hid (∀ j' (h' : j' < fs.length), j' < j + 1 → ¬ A.Alike m out i fs[j']) := fun j' h' hj' ha => by
                      by_cases e : j' = j
                      · subst e
                        exact Bool.noConfusion (HRR.out.2 (by rw [HFJ.out]; exact ha))
                      · exact HNA.out j' h' (by omega) ha
                    go_wp2_with fail
                    go_roundg (fs.length + 1 - (j + 1))
                    case measure => omega
                    case rel => exact ⟨j + 1, by omega, rfl, by go_num, HNA2, HO2, HNX2, HG2, HB2, HF2, HS2⟩
                  | true =>
                    have HR2 : Hid (A.Ref m out (nx.set i (j : Int)) fs (i + 1)) := HRF.out.old hin (by rw [← HOV.out]; exact ho) hjl (by rw [← HFJ.out]; exact HRR.out.1 rfl)
                    have FS : Frm (fun b => b = gn) V (V.setCell ⟨gn, i, none⟩ (.int .i64 (j : Int))) := Frm.one gn i _
                    have HNX3 : Hid (Blk (V.setCell ⟨gn, i, none⟩ (.int .i64 (j : Int))) gn 3 (intCs (nx.set i (j : Int)))) := by
                      have h := HNX2.out.set_ i (.int .i64 (j : Int))
                      rw [intCs_set, List.set_set] at h
                      exact h
                    have hw1 := HW1.out
                    have hw2 := HW2.out
                    have HG3 := Lib.hid (FS.blk HG2.out (by omega))
                    have HB3 := Lib.hid (FS.blk HB2.out (by omega))
                    have HF3 : Hid (Frm (fun _ => False) w (V.setCell ⟨gn, i, none⟩ (.int .i64 (j : Int)))) := ((HF2.out.mono fun _ _ h => h.elim).trans FS).mono fun b hb h => by omega
                    have HO3 : Hid (OwnInts (V.setCell ⟨gn, i, none⟩ (.int .i64 (j : Int))) (gn + 1) (.slice (some ⟨gf, 0, none⟩) fs.length c8) (intsOf fs)) := HO2.out.frm FS fun b hb => by omega
                    have HS3 : Hid (gn + 1 ≤ (V.setCell ⟨gn, i, none⟩ (.int .i64 (j : Int))).heap.size) := show _ ≤ _ from Nat.le_trans HS2.out FS.1
                    have q0 := FS.cell (show g ≠ gn by omega) z0
                    have q1 := (HNX3.out.cell i).trans (intCs_getD (by rw [List.length_set]; exact hil))
                    rw [A.getD_setR hil, if_pos rfl] at q1
                    clear FS HNX2 HG2 HB2 HF2 HO2 HS2
                    go_wp2_with fail
                    go_roundg (k + 1 - (i + 1))
                    case measure => omega
                    case rel => exact ⟨i + 1, _, fs, by omega, rfl, by go_num, HR2, HO3, HNX3, HG3, HB3, HF3, HS3⟩
              have hjl' : ¬ (j : Int) < (fs.length : Int) := by omega
              have HR2 : Hid (A.Ref m out (nx.set i (fs.length : Int)) (fs ++ [i]) (i + 1)) := HRF.out.new hin (by rw [← HOV.out]; exact ho) fun j' h' => HNA.out j' h' (by omega)
              have FS : Frm (fun b => b = gn) wr (wr.setCell ⟨gn, i, none⟩ (.int .i64 (fs.length : Int))) := Frm.one gn i _
              have HNX3 : Hid (Blk (wr.setCell ⟨gn, i, none⟩ (.int .i64 (fs.length : Int))) gn 3 (intCs (nx.set i (fs.length : Int)))) := by
                have h := HNX.out.set_ i (.int .i64 (fs.length : Int))
                rw [intCs_set, List.set_set] at h
                exact h
              have hw1 := HW1.out
              have hw2 := HW2.out
              have HG3 := Lib.hid (FS.blk HG.out (by omega))
              have HB3 := Lib.hid (FS.blk HB.out (by omega))
              have HF3 : Hid (Frm (fun _ => False) w (wr.setCell ⟨gn, i, none⟩ (.int .i64 (fs.length : Int)))) := ((HF.out.mono fun _ _ h => h.elim).trans FS).mono fun b hb h => by omega
              have HO3 : Hid (OwnInts (wr.setCell ⟨gn, i, none⟩ (.int .i64 (fs.length : Int))) (gn + 1) (.slice A8 fs.length c8) (intsOf fs)) := HO.out.frm FS fun b hb => by omega
              have HS3 : Hid (gn + 1 ≤ (wr.setCell ⟨gn, i, none⟩ (.int .i64 (fs.length : Int))).heap.size) := show _ ≤ _ from Nat.le_trans HS.out FS.1
              have hfs4 : fs.length ≤ 4000 := by omega
              obtain ⟨i0, hi0, hz0, hz1, hz2⟩ := info_parts info_int
              clear FS HNX HG HB HF HO HS
              go_wp2_with (at_builtin; refine wpList_append_own _ rfl _ _ 35 rfl (gn + 1) 3 i0 (.int .i64 0) 1 8 Try.underlying35 hi0 hz0 hz1 hz2 rfl (by decide) _ _ _ rfl (HO3.out.alloc _) ⟨wr.heap.size, 0, none⟩ 1 1 [.int .i64 (i : Int)] rfl rfl ?y1 ?y2 ?y3 ?y4 ?y5 ?_)
              case y2 => simp [Value.oneCell']
              case y3 => rw [intsOf_len]; unfold maxLen; omega
              case y4 => rw [intsOf_len]; omega
              case y5 => have := HS3.out; simp at this ⊢; omega
              intro v' w1 hown1 hgrow _
              rw [intsOf_len] at hown1
              obtain ⟨A9, c9, rfl⟩ := own_form hown1
              have hng : ∀ g', (Value.slice A8 fs.length c8).ownBlock = some g' → gn + 1 ≤ g' := own_ge HO3.out
              have HF4 : Hid (Frm (fun _ => False) w w1) := (HF3.out.alloc _).grown hgrow fun g' hg' _ => by have := hng g' hg'.symm.symm; omega
              have HO4 : Hid (OwnInts w1 (gn + 1) (.slice A9 (fs.length + 1) c9) (intsOf (fs ++ [i]))) := by rw [intsOf_app]; exact OwnInts.grown (intsOf_len fs).symm hown1
              have HNX4 := Lib.hid ((HNX3.out.alloc (.cells #[.int .i64 (i : Int)] 3)).grown hgrow fun e => by have := hng _ e.symm; omega)
              have HG4 := Lib.hid ((HG3.out.alloc (.cells #[.int .i64 (i : Int)] 3)).grown hgrow fun e => by have := hng _ e.symm; omega)
              have HB4 := Lib.hid ((HB3.out.alloc (.cells #[.int .i64 (i : Int)] 3)).grown hgrow fun e => by have := hng _ e.symm; omega)
              have HS4 : Hid (gn + 1 ≤ w1.heap.size) := Nat.le_trans (by have h := HS3.out; simp at h ⊢; omega) hgrow.size
              clear hown1 hgrow hng HO3 HF3 HNX3 HG3 HB3 HS3
              go_wp2_with fail
              go_roundg (k + 1 - (i + 1))
              case measure => omega
              case rel => exact ⟨i + 1, _, fs ++ [i], by omega, rfl, by go_num, HR2, HO4, HNX4, HG4, HB4, HF4, HS4⟩
          · obtain rfl : i = k := by omega
            have hlt' : ¬ (i : Int) < (i : Int) := by omega
            have HRF2 := Lib.hid (show A.Ref m out nx fs m.next.length by rw [← HN.out]; exact HRF.out)
            by_cases hcc : fs.length = c
            · have HCO : Hid (A.ClsOK m nx fs.length) := HRF2.out.done HFI.out HPRE.out hcc
              have hI := HNX.out.ints_
              rw [HRF2.out.len, ← HN.out] at hI
              have HI := Lib.hid hI
              have hcb : ((fs.length : Int) == (c : Int)) = true := by rw [hcc]; simp
              clear hI
              go_wp2_with fail
              go_ret
              exact ⟨_, rfl, nx, HI.out.mono_ fun b hb => by have := HW1.out; omega, ⟨_, HCO.out⟩, HF.out⟩
            · have hcb : ((fs.length : Int) == (c : Int)) = false := by rw [beq_eq_false_iff_ne]; omega
              have HPRE2 : Hid (A.Pre m nx fs.length) := HRF2.out.pre HFI.out HPRE.out
              have hmore := (HRF2.out.more HPRE.out).1
              go_wp2_with fail
              go_roundg (i + 1 - fs.length)
              case measure => omega
              case rel => exact ⟨nx, fs.length, gn, rfl, hfl, rfl, rfl, HW1.out, HPRE2, HNX, HB, HF⟩
end Go.Proofs.Ytmoniecknimmdaa
end
section
namespace Go.Proofs.Ytmoniecknimmdaa
open Go.RowKit
namespace A
abbrev FS := List Int × List Int
def fStep (m : Mac) (s : Int) (st : FS) (k : Nat) : FS :=
  if 0 ≤ lead m s k ∧ st.2.getD (lead m s k).toNat 0 < 0 then (st.1 ++ [lead m s k], st.2.set (lead m s k).toNat (st.1.length : Int)) else st
def fRow (m : Mac) (s : Int) : Nat → FS → FS
  | 0, st => st
  | k + 1, st => fStep m s (fRow m s k st) k
def fndO (m : Mac) : Nat → Nat → FS → Option FS
  | f, i, st => if h : i < st.1.length then (match f with
    | 0 => none
    | n + 1 => fndO m n (i + 1) (fRow m st.1[i] m.letters.toNat st)) else some st
def fnd0 (m : Mac) : FS := if m.start < 0 then ([], List.replicate m.next.length (-1)) else ([m.start], (List.replicate m.next.length (-1)).set m.start.toNat 0)
theorem nodup_le : ∀ (N : Nat) (l : List Nat), l.Nodup → (∀ x ∈ l, x < N) → l.length ≤ N
  | 0, l, _, h => by
    cases l with
    | nil => exact Nat.le_refl _
    | cons a l => exact absurd (h a (List.mem_cons_self ..)) (Nat.not_lt_zero a)
  | N + 1, l, hn, h => by
    by_cases hm : N ∈ l
    · have h1 := nodup_le N (l.erase N) (hn.erase N) (fun x hx => by
        have h2 := h x (List.mem_of_mem_erase hx)
        have h3 : x ≠ N := fun e => by rw [e] at hx; exact (List.Nodup.not_mem_erase hn) hx
        omega)
      rw [List.length_erase_of_mem hm] at h1
      omega
    · have := nodup_le N l hn (fun x hx => by
        have h2 := h x hx
        have h3 : x ≠ N := fun e => hm (e ▸ hx)
        omega)
      omega
/-- What is found, where the rows of the first i are closed. -/
structure FOK (m : Mac) (i : Nat) (st : FS) : Prop where
  ile : i ≤ st.1.length
  len : st.2.length = m.next.length
  ord : ∀ j (h : j < st.1.length), 0 ≤ st.1[j] ∧ st.1[j] < m.next.length ∧ st.2.getD st.1[j].toNat 0 = (j : Int)
  plc : ∀ s : Nat, s < m.next.length → st.2.getD s 0 = -1 ∨ ∃ j, ∃ h : j < st.1.length, st.2.getD s 0 = (j : Int) ∧ st.1[j] = (s : Int)
  cl : ∀ j (h : j < st.1.length), j < i → ∀ k : Nat, (k : Int) < m.letters → lead m st.1[j] k = -1 ∨ 0 ≤ st.2.getD (lead m st.1[j] k).toNat 0
theorem FOK.le {m : Mac} {i : Nat} {st : FS} (h : FOK m i st) : st.1.length ≤ m.next.length := by
  have := nodup_le m.next.length (st.1.map Int.toNat) (by
    rw [List.nodup_iff_pairwise_ne, List.pairwise_iff_getElem]
    intro a b ha hb hab e
    simp only [List.getElem_map] at e
    rw [List.length_map] at ha hb
    obtain ⟨h1, h2, h3⟩ := h.ord a ha
    obtain ⟨h4, h5, h6⟩ := h.ord b hb
    rw [e] at h3
    omega) (fun x hx => by
    obtain ⟨y, hy, rfl⟩ := List.mem_map.1 hx
    obtain ⟨j, hj, rfl⟩ := List.getElem_of_mem hy
    obtain ⟨h1, h2, h3⟩ := h.ord j hj
    omega)
  simpa using this
/-- One letter's step. -/
structure Ext (m : Mac) (st st' : FS) : Prop where
  pre : st.1 <+: st'.1
  keep : ∀ s : Nat, 0 ≤ st.2.getD s 0 → st'.2.getD s 0 = st.2.getD s 0
theorem Ext.refl {m : Mac} {st : FS} : Ext m st st := ⟨List.prefix_refl _, fun _ _ => rfl⟩
theorem Ext.trans {m : Mac} {a b c : FS} (h : Ext m a b) (h' : Ext m b c) : Ext m a c := ⟨h.pre.trans h'.pre, fun s hs => by rw [h'.keep s (by rw [h.keep s hs]; exact hs), h.keep s hs]⟩
theorem getElem_pre {α : Type} {l l' : List α} (h : l <+: l') {j : Nat} (hj : j < l.length) : l'[j]'(Nat.lt_of_lt_of_le hj h.length_le) = l[j] := by
  obtain ⟨t, rfl⟩ := h
  exact List.getElem_append_left hj
theorem fStep_ok {m : Mac} (hf : Fits m) {i k : Nat} {st : FS} {s : Nat} (h : FOK m i st) (hs : s < m.next.length) (hk : (k : Int) < m.letters) : FOK m i (fStep m s st k) ∧ Ext m st (fStep m s st k) ∧ (lead m s k = -1 ∨ 0 ≤ (fStep m s st k).2.getD (lead m s k).toNat 0) := by
  obtain ⟨i1, i2⟩ := lead_in hf hs hk
  unfold fStep
  generalize lead m s k = t at *
  split
  · rename_i hc
    obtain ⟨h0, hlt⟩ := hc
    obtain ⟨t, rfl⟩ := Int.eq_ofNat_of_zero_le h0
    rw [Int.toNat_natCast] at hlt ⊢
    have htl : t < st.2.length := by rw [h.len]; omega
    have hE : Ext m st (st.1 ++ [(t : Int)], st.2.set t (st.1.length : Int)) := ⟨List.prefix_append _ _, fun s hs => by
      dsimp only
      rw [getD_setR htl, if_neg (by rintro rfl; omega)]⟩
    refine ⟨⟨by have := h.ile; simp; omega, by rw [List.length_set]; exact h.len, fun j hj => ?_, fun s hs => ?_, fun j hj hji k' hk' => ?_⟩, hE, Or.inr (by rw [getD_setR htl, if_pos rfl]; omega)⟩
    · dsimp only at hj ⊢
      rw [List.length_append, List.length_singleton] at hj
      by_cases e : j < st.1.length
      · rw [List.getElem_append_left e]
        obtain ⟨h1, h2, h3⟩ := h.ord j e
        exact ⟨h1, h2, by rw [getD_setR htl, if_neg (by intro e'; rw [← e'] at h3; omega)]; exact h3⟩
      · obtain rfl : j = st.1.length := by omega
        rw [List.getElem_append_right (Nat.le_refl _)]
        simp only [Nat.sub_self, List.getElem_cons_zero, Int.toNat_natCast]
        exact ⟨by omega, by omega, by rw [getD_setR htl, if_pos rfl]⟩
    · dsimp only
      rw [getD_setR htl]
      by_cases e : t = s
      · subst e
        rw [if_pos rfl]
        refine Or.inr ⟨st.1.length, by simp, rfl, ?_⟩
        rw [List.getElem_append_right (Nat.le_refl _)]
        simp
      · rw [if_neg e]
        rcases h.plc s hs with hp | ⟨j, hj, h1, h2⟩
        · exact Or.inl hp
        · exact Or.inr ⟨j, by simp; omega, h1, by rw [List.getElem_append_left hj]; exact h2⟩
    · dsimp only at hj ⊢
      rw [List.length_append, List.length_singleton] at hj
      by_cases e : j < st.1.length
      · rw [List.getElem_append_left e]
        rcases h.cl j e hji k' hk' with hc | hc
        · exact Or.inl hc
        · exact Or.inr (by rw [hE.keep _ hc]; exact hc)
      · obtain rfl : j = st.1.length := by omega
        have := h.ile
        omega
  · rename_i hc
    refine ⟨h, .refl, ?_⟩
    by_cases e : 0 ≤ t
    · exact Or.inr (by omega)
    · exact Or.inl (by omega)
theorem fRow_ok {m : Mac} (hf : Fits m) {i s : Nat} {st : FS} (h : FOK m i st) (hs : s < m.next.length) : ∀ n : Nat, (n : Int) ≤ m.letters → FOK m i (fRow m s n st) ∧ Ext m st (fRow m s n st) ∧ ∀ k : Nat, k < n → lead m s k = -1 ∨ 0 ≤ (fRow m s n st).2.getD (lead m s k).toNat 0
  | 0, _ => ⟨h, .refl, fun k hk => absurd hk (Nat.not_lt_zero k)⟩
  | n + 1, hn => by
    obtain ⟨h1, h2, h3⟩ := fRow_ok hf h hs n (by omega)
    obtain ⟨h4, h5, h6⟩ := fStep_ok hf (k := n) h1 hs (by omega)
    refine ⟨h4, h2.trans h5, fun k hk => ?_⟩
    by_cases e : k = n
    · subst e; exact h6
    · rcases h3 k (by omega) with hc | hc
      · exact Or.inl hc
      · exact Or.inr (by unfold fRow; rw [h5.keep _ hc]; exact hc)
theorem fRow_next {m : Mac} (hf : Fits m) {i : Nat} {st : FS} (h : FOK m i st) (hi : i < st.1.length) : FOK m (i + 1) (fRow m st.1[i] m.letters.toNat st) ∧ Ext m st (fRow m st.1[i] m.letters.toNat st) := by
  obtain ⟨h1, h2, h3⟩ := h.ord i hi
  have hl := hf.letters
  obtain ⟨s, hs⟩ := Int.eq_ofNat_of_zero_le h1
  rw [hs]
  obtain ⟨g1, g2, g3⟩ := fRow_ok hf h (s := s) (by omega) m.letters.toNat (by omega)
  have hle := g2.pre.length_le
  have hsi : (fRow m (s : Int) m.letters.toNat st).1[i]'(by omega) = (s : Int) := by rw [getElem_pre g2.pre hi, hs]
  refine ⟨⟨by omega, g1.len, g1.ord, g1.plc, fun j hj hji k hk => ?_⟩, g2⟩
  by_cases e : j < i
  · exact g1.cl j hj e k hk
  · obtain rfl : j = i := by omega
    rw [hsi]
    exact g3 k (by omega)
theorem fndO_ok {m : Mac} (hf : Fits m) : ∀ (f i : Nat) (st : FS), FOK m i st → m.next.length ≤ f + i → ∃ st', fndO m f i st = some st' ∧ FOK m st'.1.length st' ∧ Ext m st st'
  | f, i, st, h, hfi => by
    unfold fndO
    by_cases hi : i < st.1.length
    · rw [dif_pos hi]
      have hle := h.le
      cases f with
      | zero => omega
      | succ f =>
        dsimp only
        obtain ⟨h1, h2⟩ := fRow_next hf h hi
        obtain ⟨st', g1, g2, g3⟩ := fndO_ok hf f (i + 1) _ h1 (by omega)
        exact ⟨st', g1, g2, h2.trans g3⟩
    · rw [dif_neg hi]
      have : i = st.1.length := by have := h.ile; omega
      subst this
      exact ⟨st, rfl, h, .refl⟩
theorem fnd0_ok {m : Mac} (hf : Fits m) : FOK m 0 (fnd0 m) := by
  obtain ⟨s0, s1⟩ := hf.start
  unfold fnd0
  split
  · refine ⟨Nat.zero_le _, by simp, fun j h => absurd h (Nat.not_lt_zero j), fun s hs => Or.inl (by simp [hs]), fun j h => absurd h (Nat.not_lt_zero j)⟩
  · obtain ⟨t, ht⟩ := Int.eq_ofNat_of_zero_le (show 0 ≤ m.start by omega)
    rw [ht]
    have htl : t < (List.replicate m.next.length (-1 : Int)).length := by simp; omega
    rw [Int.toNat_natCast]
    refine ⟨Nat.zero_le _, by simp, fun j h => ?_, fun s hs => ?_, fun j h hji => absurd hji (Nat.not_lt_zero j)⟩
    · obtain rfl : j = 0 := by simp at h; omega
      simp only [List.getElem_cons_zero]
      exact ⟨by omega, by omega, by rw [Int.toNat_natCast, getD_setR htl, if_pos rfl]; rfl⟩
    · rw [getD_setR htl]
      by_cases e : t = s
      · subst e
        exact Or.inr ⟨0, by simp, by rw [if_pos rfl]; rfl, rfl⟩
      · rw [if_neg e]
        exact Or.inl (by simp [hs])
end A
end Go.Proofs.Ytmoniecknimmdaa
end
section
namespace Go.Proofs.Ytmoniecknimmdaa
open Go.RowKit
theorem all_rep {l : List Int} {N : Nat} {x : Int} (hl : l.length = N) (h : ∀ s, s < N → l.getD s 0 = x) : l = List.replicate N x := by
  refine List.ext_getElem (by simp [hl]) fun i h1 h2 => ?_
  have := h i (by omega)
  simp only [List.getElem_replicate]
  simpa [h1] using this
set_option maxRecDepth 100000 in
set_option maxHeartbeats 16000000 in
theorem found_any {w : World} {P : Nat → Prop} {v : Value} {m : A.Mac} (h : MachAt w P v m) (hf : A.Fits m) (hn : m.next.length ≤ 4000) (hl3 : m.letters ≤ 300) :
    Calls Try.prog 39 #[v] w fun e w' => ∃ v1 v2 st, e = .returned (.tuple #[v1, v2]) ∧ Ints w' (fun b => w.heap.size ≤ b) v1 st.1 ∧ Ints w' (fun b => w.heap.size ≤ b) v2 st.2 ∧ A.fndO m m.next.length 0 (A.fnd0 m) = some st ∧ Frm (fun _ => False) w w' := by
  obtain ⟨A1, c1, A2, c2, rfl⟩ := h.form
  obtain ⟨N, hN⟩ : ∃ N, N = m.next.length := ⟨_, rfl⟩
  have hNf : N = m.fin.length := by rw [hN]; exact hf.fin
  have HB0 : Hid (Blk (w.alloc (.cells #[.int .i64 m.letters, .int .i64 m.start, .slice A1 m.next.length c1, .slice A2 m.fin.length c2] 25)) w.heap.size 25 #[.int .i64 m.letters, .int .i64 m.start, .slice A1 m.next.length c1, .slice A2 m.fin.length c2]) := Blk.new w _ _
  have HF0 : Hid (Frm (fun _ => False) w (w.alloc (.cells #[.int .i64 m.letters, .int .i64 m.start, .slice A1 m.next.length c1, .slice A2 m.fin.length c2] 25))) := (Frm.refl _ w).alloc _
  have HM := Lib.hid h
  have HFI := Lib.hid hf
  have HN := Lib.hid hN
  have HNF := Lib.hid hNf
  rw [← hN, ← hNf] at HB0 HF0
  rw [← hN] at hn ⊢
  rw [← hNf]
  have hl0 := hf.letters
  have x2 := HB0.out.cell 2
  have hmk := run_make_row' (P := Try.prog) 35 3 (.int .i64 0) 8 Try.underlying35 info_int rfl .i64 .i64 N (by omega) (by omega)
  obtain ⟨stE, hE, hEok, _⟩ := A.fndO_ok hf N 0 _ (A.fnd0_ok hf) (by omega)
  have HE := Lib.hid hE
  have HST := Lib.hid hf.start
  clear h hf hN hNf hE hEok
  go_enter Try.func39, Try.ntmps39
  go_wp2_with fail
  have HG : Hid (Blk ((w.alloc (.cells #[.int .i64 m.letters, .int .i64 m.start, .slice A1 N c1, .slice A2 N c2] 25)).alloc (.cells (madeCells #[.int .i64 0] N) 3)) (w.heap.size + 1) 3 (intCs (List.replicate N 0))) := by rw [← intCs_made]; exact blk_at (by simp)
  have HB1 := Lib.hid (HB0.out.alloc (.cells (madeCells #[.int .i64 0] N) 3))
  have HF1 := Lib.hid (HF0.out.alloc (.cells (madeCells #[.int .i64 0] N) 3))
  have HLW : Hid (w.heap.size + 2 ≤ ((w.alloc (.cells #[.int .i64 m.letters, .int .i64 m.start, .slice A1 N c1, .slice A2 N c2] 25)).alloc (.cells (madeCells #[.int .i64 0] N) 3)).heap.size) := by show _ ≤ _; simp
  generalize (w.alloc (.cells #[.int .i64 m.letters, .int .i64 m.start, .slice A1 N c1, .slice A2 N c2] 25)).alloc (.cells (madeCells #[.int .i64 0] N) 3) = w1 at *
  clear hmk x2 HB0 HF0
  go_loopg [5] (N + 1) (fun n u wr => ∃ (k : Nat) (l : List Int), k ≤ N ∧ n = N + 1 - k ∧ u = .int .i64 (k : Int) ∧ l.length = N ∧ Hid (∀ s, s < k → l.getD s 0 = -1) ∧ Hid (Blk wr (w.heap.size + 1) 3 (intCs l)) ∧ Hid (Blk wr w.heap.size 25 #[.int .i64 m.letters, .int .i64 m.start, .slice A1 N c1, .slice A2 N c2]) ∧ Hid (Frm (fun _ => False) w wr) ∧ Hid (w.heap.size + 2 ≤ wr.heap.size))
  case atStart => exact ⟨0, _, Nat.zero_le _, rfl, rfl, List.length_replicate .., fun s hs => absurd hs (Nat.not_lt_zero s), HG, HB1, HF1, HLW⟩
  case round =>
    clear HG HB1 HF1 HLW
    obtain ⟨k, l, hk, rfl, rfl, hll, HC, HG, HB, HF, HLW⟩ := hrel
    by_cases hlt : k < N
    · have hlt' : (k : Int) < (N : Int) := by omega
      have hkl : k < l.length := by omega
      have y0 := (HG.out.cell k).trans (intCs_getD hkl)
      have yf := HG.out.frozen k
      have FS : Frm (fun b => b = w.heap.size + 1) wr (wr.setCell ⟨w.heap.size + 1, k, none⟩ (.int .i64 (-1))) := Frm.one _ k _
      have HG2 : Hid (Blk (wr.setCell ⟨w.heap.size + 1, k, none⟩ (.int .i64 (-1))) (w.heap.size + 1) 3 (intCs (l.set k (-1)))) := by rw [← intCs_set]; exact HG.out.set_ k _
      have HB2 := Lib.hid (FS.blk HB.out (by omega))
      have HF2 : Hid (Frm (fun _ => False) w (wr.setCell ⟨w.heap.size + 1, k, none⟩ (.int .i64 (-1)))) := ((HF.out.mono fun _ _ h => h.elim).trans FS).mono fun b hb h => by omega
      have HL2 : Hid (w.heap.size + 2 ≤ (wr.setCell ⟨w.heap.size + 1, k, none⟩ (.int .i64 (-1))).heap.size) := show _ ≤ _ from Nat.le_trans HLW.out FS.1
      have HC2 : Hid (∀ s, s < k + 1 → (l.set k (-1)).getD s 0 = -1) := fun s hs => by
        rw [A.getD_setR hkl]
        split
        · rfl
        · exact HC.out s (by omega)
      clear FS
      go_wp2_with fail
      go_roundg (N + 1 - (k + 1))
      case measure => omega
      case rel => exact ⟨k + 1, _, by omega, rfl, by go_num, by rw [List.length_set]; exact hll, HC2, HG2, HB2, HF2, HL2⟩
    · obtain rfl : k = N := by omega
      have hlt' : ¬ (k : Int) < (k : Int) := by omega
      obtain rfl : l = List.replicate k (-1) := all_rep hll HC.out
      have x1 := HB.out.cell 1
      have x1' := (HB.out.alloc (.cells #[] 3)).cell 1
      obtain ⟨hs0, hs1⟩ := HST.out
      by_cases hst : m.start < 0
      · have HE2 : Hid (stE = ([], List.replicate k (-1))) := by
          have h := HE.out
          unfold A.fnd0 at h
          rw [if_pos hst] at h
          unfold A.fndO at h
          rw [dif_neg (by simp), HN.out.symm] at h
          exact (Option.some.inj h).symm
        have HI := Lib.hid ((HG.out.alloc (.cells #[] 3)).ints_)
        have HFA := Lib.hid (HF.out.alloc (.cells #[] 3))
        have hI0 : Ints (wr.alloc (.cells #[] 3)) (fun b => w.heap.size ≤ b) (.slice (some ⟨wr.heap.size, 0, none⟩) 0 0) [] := ⟨_, _, rfl, fun k hk => absurd hk (Nat.not_lt_zero k)⟩
        have hI1 : Ints (wr.alloc (.cells #[] 3)) (fun b => w.heap.size ≤ b) (.slice (some ⟨w.heap.size + 1, 0, none⟩) k k) (List.replicate k (-1)) := by
          have h := HI.out.mono_ (Q := fun b => w.heap.size ≤ b) fun b hb => by omega
          rw [List.length_replicate] at h
          exact h
        have HE4 := HE.out
        rw [HE2.out] at HE4
        have HI0 := Lib.hid hI0
        have HI1 := Lib.hid hI1
        have HE5 := Lib.hid HE4
        clear hI0 hI1 HE4
        go_wp2_with fail
        refine bodyPost_ret (v := .tuple #[.slice (some ⟨wr.heap.size, 0, none⟩) 0 0, .slice (some ⟨w.heap.size + 1, 0, none⟩) k k]) (by simp [results, Try.results39, go_sem]) rfl ⟨_, _, rfl, _, HI0.out, _, HI1.out, HE5.out, HFA.out⟩
      · obtain ⟨t, ht⟩ := Int.eq_ofNat_of_zero_le (show 0 ≤ m.start by omega)
        have htk : t < k := by have := HN.out; omega
        have htk' : (t : Int) < (k : Int) := by omega
        have HOW : Hid (OwnInts (wr.alloc (.cells #[] 3)) (w.heap.size + 2) (.slice (some ⟨wr.heap.size, 0, none⟩) 0 0) []) := World.ownsRow_made (base := w.heap.size + 2) (e := 3) (size := 1) wr #[] 0 HLW.out (by decide) rfl
        obtain ⟨i0, hi0, hz0, hz1, hz2⟩ := info_parts info_int
        have HT := Lib.hid ht
        rw [ht] at HB x1 x1' hst hs0 hs1
        rw [ht]
        clear ht
        go_wp2_with (at_builtin; refine wpList_append_own _ rfl _ _ 35 rfl (w.heap.size + 2) 3 i0 (.int .i64 0) 1 8 Try.underlying35 hi0 hz0 hz1 hz2 rfl (by decide) _ _ _ rfl (HOW.out.alloc _) ⟨wr.heap.size + 1, 0, none⟩ 1 1 [.int .i64 (t : Int)] rfl rfl ?y1 ?y2 ?y3 ?y4 ?y5 ?_)
        case y2 => simp [Value.oneCell']
        case y3 => decide
        case y5 => have := HLW.out; simp at this ⊢; omega
        intro v' w2 hown2 hgrow _
        obtain ⟨A9, c9, rfl⟩ := own_form hown2
        have hng : ∀ g', (Value.slice (some (⟨wr.heap.size, 0, none⟩ : Addr)) 0 0).ownBlock = some g' → w.heap.size + 2 ≤ g' := own_ge HOW.out
        have HF2 : Hid (Frm (fun _ => False) w w2) := ((HF.out.alloc _).alloc _).grown hgrow fun g' hg' _ => by have := hng g' hg'.symm.symm; omega
        have HO2 : Hid (OwnInts w2 (w.heap.size + 2) (.slice A9 1 c9) [(t : Int)]) := OwnInts.grown (l := []) rfl hown2
        have HG2 := Lib.hid (((HG.out.alloc (.cells #[] 3)).alloc (.cells #[.int .i64 (t : Int)] 3)).grown hgrow fun e => by have := hng _ e.symm; omega)
        have HB2 := Lib.hid (((HB.out.alloc (.cells #[] 3)).alloc (.cells #[.int .i64 (t : Int)] 3)).grown hgrow fun e => by have := hng _ e.symm; omega)
        have HLW2 : Hid (w.heap.size + 2 ≤ w2.heap.size) := Nat.le_trans (by have h := HLW.out; simp at h ⊢; omega) hgrow.size
        clear hown2 hgrow hng HOW HF HG HB HLW x1 x1'
        have x1 := HB2.out.cell 1
        have y0 := (HG2.out.cell t).trans (intCs_getD (by simpa using htk))
        have yf := HG2.out.frozen t
        have FS : Frm (fun b => b = w.heap.size + 1) w2 (w2.setCell ⟨w.heap.size + 1, t, none⟩ (.int .i64 0)) := Frm.one _ t _
        have HG3 : Hid (Blk (w2.setCell ⟨w.heap.size + 1, t, none⟩ (.int .i64 0)) (w.heap.size + 1) 3 (intCs ((List.replicate k (-1)).set t 0))) := by rw [← intCs_set]; exact HG2.out.set_ t _
        have HB3 := Lib.hid (FS.blk HB2.out (by omega))
        have HF3 : Hid (Frm (fun _ => False) w (w2.setCell ⟨w.heap.size + 1, t, none⟩ (.int .i64 0))) := ((HF2.out.mono fun _ _ h => h.elim).trans FS).mono fun b hb h => by omega
        have HO3 : Hid (OwnInts (w2.setCell ⟨w.heap.size + 1, t, none⟩ (.int .i64 0)) (w.heap.size + 2) (.slice A9 1 c9) [(t : Int)]) := HO2.out.frm FS fun b hb => by omega
        have HL3 : Hid (w.heap.size + 2 ≤ (w2.setCell ⟨w.heap.size + 1, t, none⟩ (.int .i64 0)).heap.size) := show _ ≤ _ from Nat.le_trans HLW2.out FS.1
        have HE3 : Hid (A.fndO m k 0 ([(t : Int)], (List.replicate k (-1)).set t 0) = some stE) := by
          have h := HE.out
          unfold A.fnd0 at h
          rw [HT.out, if_neg (by omega), Int.toNat_natCast, ← HN.out] at h
          exact h
        clear FS HF2 HG2 HB2 HO2 HLW2
        go_wp2_with fail
        clear y0 yf x1
        have HOK : Hid (A.FOK m 0 ([(t : Int)], (List.replicate k (-1)).set t 0)) := by
          have h := A.fnd0_ok HFI.out
          unfold A.fnd0 at h
          rw [HT.out, if_neg (by omega), Int.toNat_natCast, ← HN.out] at h
          exact h
        go_loopg [6, 7] k (fun n u6 u7 wr => ∃ (i : Nat) (st : A.FS), u7 = .int .i64 (i : Int) ∧ Hid (A.fndO m n i st = some stE) ∧ Hid (A.FOK m i st) ∧ Hid (OwnInts wr (w.heap.size + 2) u6 st.1) ∧ Hid (Blk wr (w.heap.size + 1) 3 (intCs st.2)) ∧ Hid (Blk wr w.heap.size 25 #[.int .i64 m.letters, .int .i64 (t : Int), .slice A1 k c1, .slice A2 k c2]) ∧ Hid (Frm (fun _ => False) w wr) ∧ Hid (w.heap.size + 2 ≤ wr.heap.size))
        case atStart => exact ⟨0, _, rfl, HE3, HOK, HO3, HG3, HB3, HF3, HL3⟩
        case round =>
          clear HE3 HOK HO3 HG3 HB3 HF3 HL3
          obtain ⟨i, st, rfl, HEN, HOK, HO, HG, HB, HF, HLW⟩ := hrel
          obtain ⟨A6, c6, rfl⟩ := own_form HO.out
          have hle := HOK.out.le
          rw [← HN.out] at hle
          have hen := HEN.out
          unfold A.fndO at hen
          by_cases hlt : i < st.1.length
          · have hlt' : (i : Int) < (st.1.length : Int) := by omega
            rw [dif_pos hlt] at hen
            cases gk with
            | zero => cases hen
            | succ n =>
            dsimp only at hen
            obtain ⟨hq1, hq2, _⟩ := HOK.out.ord i hlt
            obtain ⟨q, hq⟩ := Int.eq_ofNat_of_zero_le hq1
            rw [hq] at hen hq2
            have HQ := Lib.hid hq
            have HEN2 := Lib.hid hen
            have hqn : q < m.next.length := by omega
            clear hen hq hq1 hq2 HEN
            go_wp2_with fail
            go_loopg [6, 8] (m.letters.toNat + 1) (fun n u6 u8 wr => ∃ (j : Nat) (st' : A.FS), (j : Int) ≤ m.letters ∧ n = m.letters.toNat + 1 - j ∧ u8 = .int .i64 (j : Int) ∧ Hid (st' = A.fRow m q j st) ∧ Hid (OwnInts wr (w.heap.size + 2) u6 st'.1) ∧ Hid (Blk wr (w.heap.size + 1) 3 (intCs st'.2)) ∧ Hid (Blk wr w.heap.size 25 #[.int .i64 m.letters, .int .i64 (t : Int), .slice A1 k c1, .slice A2 k c2]) ∧ Hid (Frm (fun _ => False) w wr) ∧ Hid (w.heap.size + 2 ≤ wr.heap.size))
            case atStart => exact ⟨0, st, hl0, rfl, rfl, rfl, HO, HG, HB, HF, HLW⟩
            case round =>
              clear HO HG HB HF HLW
              obtain ⟨j, st', hj, rfl, rfl, HSE, HO, HG, HB, HF, HLW⟩ := hrel
              obtain ⟨A6', c6', rfl⟩ := own_form HO.out
              have x0 := HB.out.cell 0
              have x2 := HB.out.cell 2
              by_cases hlj : (j : Int) < m.letters
              · obtain ⟨hok', hext, _⟩ := A.fRow_ok HFI.out HOK.out hqn j (by omega)
                rw [← HSE.out] at hok' hext
                have HOK' := Lib.hid hok'
                have hle' := hok'.le
                rw [← HN.out] at hle'
                have hil' : i < st'.1.length := Nat.lt_of_lt_of_le hlt hext.pre.length_le
                have hil2 : (i : Int) < (st'.1.length : Int) := by omega
                obtain ⟨g6, rfl, hg6, d0⟩ := OwnInts.at_ (l := st'.1) HO.out hil'
                have hgi : st'.1.getD i 0 = (q : Int) := by
                  have := A.getElem_pre hext.pre hlt
                  simp [hil', this, HQ.out]
                rw [hgi] at d0
                obtain ⟨gn, on, A3, c3, hA, hca, hrow⟩ := HM.out.next_at hqn
                subst hA
                obtain ⟨hr1, hr2⟩ := HFI.out.rows _ (List.getElem_mem hqn)
                have hjl : j < m.next[q].length := by omega
                obtain ⟨g3, o3, hA3, _, hcj⟩ := hrow j hjl
                subst hA3
                have d1 := HF.out.cell id hca
                have d2 := HF.out.cell id hcj
                obtain ⟨hx0, hx1⟩ := hr2 _ (List.getElem_mem hjl)
                have HEX : Hid (A.lead m q j = m.next[q][j]) := by
                  show _ = _
                  unfold A.lead
                  rw [if_neg (by omega)]
                  simp [hqn, hjl]
                have hjk : (j : Int) < (m.next[q].length : Int) := by omega
                have hqk : (q : Int) < (k : Int) := by have := HN.out; omega
                clear hca hcj hrow hr1 hr2 hok' hext hgi
                generalize m.next[q][j] = x at *
                clear hjl
                generalize m.next[q].length = lenq at *
                have HSN : Hid (A.fStep m q st' j = A.fRow m q (j + 1) st) := by rw [HSE.out]; rfl
                go_wp2_with fail
                go_quiet (fail)
                have HO1 : Hid (OwnInts (wr.drewN nq) (w.heap.size + 2) (.slice (some ⟨g6, 0, none⟩) st'.1.length c6') st'.1) := HO.out
                have HG1 := Lib.hid (HG.out.drewN nq)
                have HB1 := Lib.hid (HB.out.drewN nq)
                have HF1 := Lib.hid (HF.out.drewN nq)
                have HL1 : Hid (w.heap.size + 2 ≤ (wr.drewN nq).heap.size) := HLW.out
                generalize wr.drewN nq = wq at *
                clear HO HG HB HF HLW d0 d1 d2 x0 x2
                have hstay : A.fStep m q st' j = st' → Hid (st' = A.fRow m q (j + 1) st) := fun h => by show _ = _; rw [← HSN.out, h]
                have HSTAY := Lib.hid hstay
                clear hstay
                by_cases hx : 0 ≤ x
                case neg =>
                  have hx' : x < 0 := by omega
                  have HS2 := HSTAY.out (by unfold A.fStep; rw [HEX.out, if_neg (fun h => hx h.1)])
                  go_wp2_with fail
                  go_roundg (m.letters.toNat + 1 - (j + 1))
                  case measure => omega
                  case rel => exact ⟨j + 1, st', by omega, by omega, by go_num, HS2, HO1, HG1, HB1, HF1, HL1⟩
                obtain ⟨p, rfl⟩ := Int.eq_ofNat_of_zero_le hx
                have hpk : (p : Int) < (k : Int) := by have := HN.out; omega
                have hpl : p < st'.2.length := by have := HOK'.out.len; have := HN.out; omega
                have y0 := (HG1.out.cell p).trans (intCs_getD hpl)
                have yf := HG1.out.frozen p
                obtain ⟨pv, hpv⟩ : ∃ pv, pv = st'.2.getD p 0 := ⟨_, rfl⟩
                rw [← hpv] at y0
                have HPV := Lib.hid hpv
                clear hpv
                by_cases hp : pv < 0
                case neg =>
                  have hp' : ¬ pv < 0 := hp
                  have HS2 := HSTAY.out (by unfold A.fStep; rw [HEX.out, Int.toNat_natCast, ← HPV.out, if_neg (fun h => hp h.2)])
                  go_wp2_with fail
                  go_roundg (m.letters.toNat + 1 - (j + 1))
                  case measure => omega
                  case rel => exact ⟨j + 1, st', by omega, by omega, by go_num, HS2, HO1, HG1, HB1, HF1, HL1⟩
                have HS2 : Hid ((st'.1 ++ [(p : Int)], st'.2.set p (st'.1.length : Int)) = A.fRow m q (j + 1) st) := by
                  show _ = _
                  rw [← HSN.out]
                  unfold A.fStep
                  rw [HEX.out, Int.toNat_natCast, ← HPV.out, if_pos ⟨hx, hp⟩]
                have FS : Frm (fun b => b = w.heap.size + 1) wq (wq.setCell ⟨w.heap.size + 1, p, none⟩ (.int .i64 (st'.1.length : Int))) := Frm.one _ p _
                have HG3 : Hid (Blk (wq.setCell ⟨w.heap.size + 1, p, none⟩ (.int .i64 (st'.1.length : Int))) (w.heap.size + 1) 3 (intCs (st'.2.set p (st'.1.length : Int)))) := by rw [← intCs_set]; exact HG1.out.set_ p _
                have HB3 := Lib.hid (FS.blk HB1.out (by omega))
                have HF3 : Hid (Frm (fun _ => False) w (wq.setCell ⟨w.heap.size + 1, p, none⟩ (.int .i64 (st'.1.length : Int)))) := ((HF1.out.mono fun _ _ h => h.elim).trans FS).mono fun b hb h => by omega
                have HO3 : Hid (OwnInts (wq.setCell ⟨w.heap.size + 1, p, none⟩ (.int .i64 (st'.1.length : Int))) (w.heap.size + 2) (.slice (some ⟨g6, 0, none⟩) st'.1.length c6') st'.1) := HO1.out.frm FS fun b hb => by omega
                have HL3 : Hid (w.heap.size + 2 ≤ (wq.setCell ⟨w.heap.size + 1, p, none⟩ (.int .i64 (st'.1.length : Int))).heap.size) := show _ ≤ _ from Nat.le_trans HL1.out FS.1
                obtain ⟨i0, hi0, hz0, hz1, hz2⟩ := info_parts info_int
                clear FS HG1 HB1 HF1 HO1 HL1
                go_wp2_with (at_builtin; refine wpList_append_own _ rfl _ _ 35 rfl (w.heap.size + 2) 3 i0 (.int .i64 0) 1 8 Try.underlying35 hi0 hz0 hz1 hz2 rfl (by decide) _ _ _ rfl (HO3.out.alloc _) ⟨wq.heap.size, 0, none⟩ 1 1 [.int .i64 (p : Int)] rfl rfl ?z1 ?z2 ?z3 ?z4 ?z5 ?_)
                case z1 => exact cell_one_at (by simp)
                case z2 => simp [Value.oneCell']
                case z3 => unfold maxLen; omega
                case z4 => omega
                case z5 => have := HL3.out; simp at this ⊢; omega
                intro v' w4 hown1 hgrow _
                obtain ⟨A9, c9, rfl⟩ := own_form hown1
                have hng : ∀ g', (Value.slice (some (⟨g6, 0, none⟩ : Addr)) st'.1.length c6').ownBlock = some g' → w.heap.size + 2 ≤ g' := own_ge HO3.out
                have HF4 : Hid (Frm (fun _ => False) w w4) := (HF3.out.alloc _).grown hgrow fun g' hg' _ => by have := hng g' hg'.symm.symm; omega
                have HO4 : Hid (OwnInts w4 (w.heap.size + 2) (.slice A9 (st'.1.length + 1) c9) (st'.1 ++ [(p : Int)])) := OwnInts.grown rfl hown1
                have HG4 := Lib.hid ((HG3.out.alloc (.cells #[.int .i64 (p : Int)] 3)).grown hgrow fun e => by have := hng _ e.symm; omega)
                have HB4 := Lib.hid ((HB3.out.alloc (.cells #[.int .i64 (p : Int)] 3)).grown hgrow fun e => by have := hng _ e.symm; omega)
                have HL4 : Hid (w.heap.size + 2 ≤ w4.heap.size) := Nat.le_trans (by have h := HL3.out; simp at h ⊢; omega) hgrow.size
                clear hown1 hgrow hng HO3 HF3 HG3 HB3 HL3 y0 yf
                go_wp2_with fail
                go_roundg (m.letters.toNat + 1 - (j + 1))
                case measure => omega
                case rel => exact ⟨j + 1, (st'.1 ++ [(p : Int)], st'.2.set p (st'.1.length : Int)), by omega, by omega, by go_num, HS2, HO4, HG4, HB4, HF4, HL4⟩
              · have HEN3 : Hid (A.fndO m n (i + 1) st' = some stE) := by
                  have h := HEN2.out
                  have hj2 : m.letters.toNat = j := by omega
                  rw [hj2, ← HSE.out] at h
                  exact h
                have HOK2 : Hid (A.FOK m (i + 1) st') := by
                  have h := (A.fRow_next HFI.out HOK.out hlt).1
                  have hj2 : m.letters.toNat = j := by omega
                  rw [HQ.out, hj2] at h
                  rw [HSE.out]
                  exact h
                go_wp2_with fail
                go_roundg n
                case measure => omega
                case rel => exact ⟨i + 1, st', by go_num, HEN3, HOK2, HO, HG, HB, HF, HLW⟩
          · have hlt' : ¬ (i : Int) < (st.1.length : Int) := by omega
            rw [dif_neg hlt] at hen
            obtain rfl : st = stE := Option.some.inj hen
            have hI0 : Ints wr (fun b => w.heap.size ≤ b) (.slice A6 st.1.length c6) st.1 := ⟨_, _, rfl, fun j hj => by
              obtain ⟨g6, e6, hg6, d6⟩ := OwnInts.at_ (l := st.1) HO.out hj
              exact ⟨g6, 0, e6, by omega, by rw [Nat.zero_add, d6]; simp [hj]⟩⟩
            have hI1 : Ints wr (fun b => w.heap.size ≤ b) (.slice (some ⟨w.heap.size + 1, 0, none⟩) k k) st.2 := by
              have h := HG.out.ints_.mono_ (Q := fun b => w.heap.size ≤ b) fun b hb => by omega
              rw [HOK.out.len, ← HN.out] at h
              exact h
            have HI0 := Lib.hid hI0
            have HI1 := Lib.hid hI1
            clear hI0 hI1 hen
            go_wp2_with fail
            refine bodyPost_ret (v := .tuple #[.slice A6 st.1.length c6, .slice (some ⟨w.heap.size + 1, 0, none⟩) k k]) (by simp [results, Try.results39, go_sem]) rfl ⟨_, _, rfl, _, HI0.out, _, HI1.out, HE.out, HF.out⟩
end Go.Proofs.Ytmoniecknimmdaa
end
section
namespace Go.Proofs.Ytmoniecknimmdaa
open Go.RowKit
set_option maxRecDepth 100000 in
set_option maxHeartbeats 4000000 in
theorem none_any {w : World} (k : Int) : Calls Try.prog 38 #[.int .i64 k] w fun e w' => e = .returned (.agg #[.int .i64 k, .int .i64 (-1), .slice none 0 0, .slice none 0 0]) ∧ Frm (fun _ => False) w w' := by
  go_enter Try.func38, Try.ntmps38
  go_wp2_with fail
  refine bodyPost_ret (v := .agg #[.int .i64 k, .int .i64 (-1), .slice none 0 0, .slice none 0 0]) ?_ rfl ⟨rfl, (Frm.refl _ w).alloc _⟩
  have z := Blk.new w 25 #[.int .i64 k, .int .i64 (-1), .slice none 0 0, .slice none 0 0]
  have z0 := z.cell 0
  have z1 := z.cell 1
  have z2 := z.cell 2
  have z3 := z.cell 3
  simp [results, Try.results38, go_sem, z0, z1, z2, z3]
end Go.Proofs.Ytmoniecknimmdaa
end
section
namespace Go.Proofs.Ytmoniecknimmdaa
open Go.RowKit
namespace A
def R1 (m : Mac) (cl : List Int) (x y : Int) : Prop := (x = -1 ∧ y = -1) ∨ ∃ s : Nat, s < m.next.length ∧ x = (s : Int) ∧ y = cl.getD s 0
/-- The machine of the classes. -/
structure Reps (m : Mac) (cl : List Int) (c : Nat) (sm : Mac) : Prop where
  ll : sm.letters = m.letters
  st : sm.start = cl.getD m.start.toNat 0
  ln : sm.next.length = c
  lf : sm.fin.length = c
  row : ∀ v, v < c → ∃ s, s < m.next.length ∧ cl.getD s 0 = (v : Int) ∧ sm.next.getD v [] = (List.range m.letters.toNat).map (fun k : Nat => clL m cl s k) ∧ sm.fin.getD v false = m.fin.getD s false
theorem R1.lead {m : Mac} {cl : List Int} (hf : Fits m) {s k : Nat} (hs : s < m.next.length) (hk : (k : Int) < m.letters) : R1 m cl (lead m s k) (clL m cl s k) := by
  obtain ⟨i1, i2⟩ := lead_in hf hs hk
  unfold clL
  split
  · exact Or.inr ⟨(A.lead m s k).toNat, by omega, by omega, rfl⟩
  · exact Or.inl ⟨by omega, rfl⟩
theorem Reps.sim {m sm : Mac} {cl : List Int} {c : Nat} (hf : Fits m) (h : ClsOK m cl c) (r : Reps m cl c sm) (h0 : 0 ≤ m.start) : Sim m sm (R1 m cl) := by
  have hst := hf.start
  refine ⟨r.ll.symm, Or.inr ⟨m.start.toNat, by have := hst.2; omega, by omega, r.st⟩, fun x y hR => ?_, fun x y hR k hk => ?_⟩
  · rcases hR with ⟨rfl, rfl⟩ | ⟨s, hs, rfl, rfl⟩
    · rw [ends_neg, ends_neg]
    · rw [ends_nat]
      have hlo := h.lo s hs
      have hhi := h.hi s hs
      by_cases e : cl.getD s 0 = -1
      · rw [e, ends_neg, (h.dead s hs e).1]
      · obtain ⟨v, hv⟩ := Int.eq_ofNat_of_zero_le (show 0 ≤ cl.getD s 0 by omega)
        obtain ⟨s', hs', e1, _, e3⟩ := r.row v (by omega)
        rw [hv, ends_nat, e3]
        exact h.fin s s' hs hs' (by rw [hv, e1])
  · rcases hR with ⟨rfl, rfl⟩ | ⟨s, hs, rfl, rfl⟩
    · rw [lead_neg, lead_neg]
      exact Or.inl ⟨rfl, rfl⟩
    · have hlo := h.lo s hs
      have hhi := h.hi s hs
      have hR := R1.lead (cl := cl) hf hs hk
      by_cases e : cl.getD s 0 = -1
      · rw [e, lead_neg]
        rw [(h.dead s hs e).2 k hk] at hR
        exact hR
      · obtain ⟨v, hv⟩ := Int.eq_ofNat_of_zero_le (show 0 ≤ cl.getD s 0 by omega)
        obtain ⟨s', hs', e1, e2, _⟩ := r.row v (by omega)
        rw [hv, lead_nat sm, e2]
        have hkl : k < m.letters.toNat := by omega
        have : ((List.range m.letters.toNat).map (fun k : Nat => clL m cl s' k)).getD k 0 = clL m cl s' k := by simp [hkl]
        rw [this, h.st s' s hs' hs (by rw [hv, e1]) k hk]
        exact hR
theorem clL_in {m : Mac} {cl : List Int} {c : Nat} (hf : Fits m) (h : ClsOK m cl c) {s k : Nat} (hs : s < m.next.length) (hk : (k : Int) < m.letters) : -1 ≤ clL m cl s k ∧ clL m cl s k < c := by
  obtain ⟨i1, i2⟩ := lead_in hf hs hk
  unfold clL
  split
  · exact ⟨h.lo _ (by omega), h.hi _ (by omega)⟩
  · exact ⟨by omega, by omega⟩
theorem Reps.fits {m sm : Mac} {cl : List Int} {c : Nat} (hf : Fits m) (h : ClsOK m cl c) (r : Reps m cl c sm) (h0 : 0 ≤ m.start) (h1 : 0 ≤ cl.getD m.start.toNat 0) : Fits sm := by
  have hst := hf.start
  have hl := hf.letters
  have hh := h.hi m.start.toNat (by have := hst.2; omega)
  refine ⟨by rw [r.ll]; exact hl, by rw [r.ln, r.lf], ⟨by rw [r.st]; omega, by rw [r.st, r.ln]; exact hh⟩, fun e => by rw [r.st] at e; omega, fun row hr => ?_⟩
  obtain ⟨v, hv, rfl⟩ := List.getElem_of_mem hr
  obtain ⟨s, hs, _, e2, _⟩ := r.row v (by rw [← r.ln]; exact hv)
  have e : sm.next[v] = sm.next.getD v [] := by simp [hv]
  rw [e, e2]
  refine ⟨by rw [List.length_map, List.length_range, r.ll]; omega, fun x hx => ?_⟩
  obtain ⟨k, hk, rfl⟩ := List.mem_map.1 hx
  rw [List.mem_range] at hk
  obtain ⟨g1, g2⟩ := clL_in hf h hs (k := k) (by omega)
  exact ⟨g1, by rw [r.ln]; exact g2⟩
/-- The states of a machine are numbered anew. -/
def plL (m : Mac) (st : FS) (s k : Int) : Int := if 0 ≤ lead m s k then st.2.getD (lead m s k).toNat 0 else -1
structure Ren (m : Mac) (st : FS) (o : Mac) : Prop where
  ll : o.letters = m.letters
  so : o.start = 0
  ln : o.next.length = st.1.length
  lf : o.fin.length = st.1.length
  row : ∀ j (h : j < st.1.length), o.next.getD j [] = (List.range m.letters.toNat).map (fun k : Nat => plL m st st.1[j] k) ∧ o.fin.getD j false = m.fin.getD st.1[j].toNat false
def R2 (st : FS) (x y : Int) : Prop := (x = -1 ∧ y = -1) ∨ ∃ j, ∃ h : j < st.1.length, x = st.1[j] ∧ y = (j : Int)
theorem R2.lead {m : Mac} {st : FS} (hf : Fits m) (h : FOK m st.1.length st) {j k : Nat} (hj : j < st.1.length) (hk : (k : Int) < m.letters) : R2 st (lead m st.1[j] k) (plL m st st.1[j] k) := by
  obtain ⟨h1, h2, _⟩ := h.ord j hj
  obtain ⟨i1, i2⟩ := Fits.lead hf (s := st.1[j]) ⟨by omega, h2⟩ (show 0 ≤ (k : Int) by omega) hk
  have hc := h.cl j hj hj k hk
  unfold plL
  split
  · rename_i h0
    rcases h.plc (A.lead m st.1[j] k).toNat (by omega) with hp | ⟨j', hj', e1, e2⟩
    · rcases hc with hc | hc <;> omega
    · exact Or.inr ⟨j', hj', by rw [e2]; omega, e1⟩
  · exact Or.inl ⟨by omega, rfl⟩
theorem Ren.sim {m o : Mac} {st : FS} (hf : Fits m) (h : FOK m st.1.length st) (r : Ren m st o) (h0 : ∃ hp : 0 < st.1.length, st.1[0] = m.start) : Sim m o (R2 st) := by
  obtain ⟨hp, h0⟩ := h0
  refine ⟨r.ll.symm, Or.inr ⟨0, hp, h0.symm, r.so⟩, fun x y hR => ?_, fun x y hR k hk => ?_⟩
  · rcases hR with ⟨rfl, rfl⟩ | ⟨j, hj, rfl, rfl⟩
    · rw [ends_neg, ends_neg]
    · obtain ⟨h1, h2, _⟩ := h.ord j hj
      obtain ⟨s, hs⟩ := Int.eq_ofNat_of_zero_le h1
      have e := (r.row j hj).2
      rw [hs, Int.toNat_natCast] at e
      rw [hs, ends_nat, ends_nat, e]
  · rcases hR with ⟨rfl, rfl⟩ | ⟨j, hj, rfl, rfl⟩
    · rw [lead_neg, lead_neg]
      exact Or.inl ⟨rfl, rfl⟩
    · have hR := R2.lead hf h hj hk
      rw [lead_nat o, (r.row j hj).1]
      have hkl : k < m.letters.toNat := by omega
      have : ((List.range m.letters.toNat).map (fun k : Nat => plL m st st.1[j] k)).getD k 0 = plL m st st.1[j] k := by simp [hkl]
      rw [this]
      exact hR
theorem Ren.fits {m o : Mac} {st : FS} (hf : Fits m) (h : FOK m st.1.length st) (r : Ren m st o) (hp : 0 < st.1.length) : Fits o := by
  have hl := hf.letters
  refine ⟨by rw [r.ll]; exact hl, by rw [r.ln, r.lf], ⟨by rw [r.so]; omega, by rw [r.so, r.ln]; omega⟩, fun e => by rw [r.so] at e; omega, fun row hr => ?_⟩
  obtain ⟨j, hj, rfl⟩ := List.getElem_of_mem hr
  have hj' : j < st.1.length := by rw [← r.ln]; exact hj
  have e : o.next[j] = o.next.getD j [] := by simp [hj]
  rw [e, (r.row j hj').1]
  refine ⟨by rw [List.length_map, List.length_range, r.ll]; omega, fun x hx => ?_⟩
  obtain ⟨k, hk, rfl⟩ := List.mem_map.1 hx
  rw [List.mem_range] at hk
  rcases R2.lead hf h hj' (k := k) (by omega) with ⟨_, e2⟩ | ⟨j', hj2, _, e2⟩
  · rw [e2]; exact ⟨by omega, by omega⟩
  · rw [e2]; exact ⟨by omega, by rw [r.ln]; omega⟩
end A
end Go.Proofs.Ytmoniecknimmdaa
end
section
namespace Go.Proofs.Ytmoniecknimmdaa
open Go.RowKit
namespace A
def LeastO (f : Nat) (m : Mac) : Option (Mac × Int) := if valid m = 0 then (match leastO f m with
  | none => none
  | some r => some (r, 0)) else some (⟨0, 0, [], []⟩, 1)
end A
theorem Ints.mono {w : World} {P Q : Nat → Prop} {v : Value} {l : List Int} (h : Ints w P v l) (hPQ : ∀ b, P b → Q b) : Ints w Q v l := by
  obtain ⟨A0, c, e, h⟩ := h
  exact ⟨A0, c, e, fun k hk => by obtain ⟨g, o, h1, h2, h3⟩ := h k hk; exact ⟨g, o, h1, hPQ g h2, h3⟩⟩
theorem Rows2.mono {w : World} {P Q : Nat → Prop} {v : Value} {l : List (List Int)} (h : Rows2 w P v l) (hPQ : ∀ b, P b → Q b) : Rows2 w Q v l := by
  obtain ⟨A0, c, e, h⟩ := h
  exact ⟨A0, c, e, fun k hk => by obtain ⟨g, o, rv, h1, h2, h3, h4⟩ := h k hk; exact ⟨g, o, rv, h1, hPQ g h2, h3, h4.mono hPQ⟩⟩
theorem Bools.mono {w : World} {P Q : Nat → Prop} {v : Value} {l : List Bool} (h : Bools w P v l) (hPQ : ∀ b, P b → Q b) : Bools w Q v l := by
  obtain ⟨A0, c, e, h⟩ := h
  exact ⟨A0, c, e, fun k hk => by obtain ⟨g, o, h1, h2, h3⟩ := h k hk; exact ⟨g, o, h1, hPQ g h2, h3⟩⟩
theorem MachAt.mono {w : World} {P Q : Nat → Prop} {v : Value} {m : A.Mac} (h : MachAt w P v m) (hPQ : ∀ b, P b → Q b) : MachAt w Q v m := by
  obtain ⟨nv, ev, e, h1, h2⟩ := h
  exact ⟨nv, ev, e, h1.mono hPQ, h2.mono hPQ⟩
set_option maxRecDepth 100000 in
set_option maxHeartbeats 8000000 in
theorem Least_any {w : World} {P : Nat → Prop} {v : Value} {m m2 : A.Mac} {f : Nat} {c : Int} (h : MachAt w P v m) (hsz : Sized m) (hfl : f ≤ 100000) (hr : A.LeastO f m = some (m2, c)) :
    Calls Try.prog 8 #[v] w fun e w' => ∃ r, e = .returned (.tuple #[r, .int .i64 c]) ∧ MachAt w' (fun b => w.heap.size ≤ b) r m2 ∧ Frm (fun _ => False) w w' := by
  obtain ⟨A1, c1, A2, c2, rfl⟩ := h.form
  have HRS := Lib.hid hr
  have HSZ := Lib.hid hsz
  have HB0 : Hid (Blk ((w.alloc (.cells #[.int .i64 m.letters, .int .i64 m.start, .slice A1 m.next.length c1, .slice A2 m.fin.length c2] 25)).alloc (.cells #[.int .i64 0, .int .i64 0, .slice none 0 0, .slice none 0 0] 25)) w.heap.size 25 #[.int .i64 m.letters, .int .i64 m.start, .slice A1 m.next.length c1, .slice A2 m.fin.length c2]) := (Blk.new w _ _).alloc _
  have HR0 : Hid (Blk ((w.alloc (.cells #[.int .i64 m.letters, .int .i64 m.start, .slice A1 m.next.length c1, .slice A2 m.fin.length c2] 25)).alloc (.cells #[.int .i64 0, .int .i64 0, .slice none 0 0, .slice none 0 0] 25)) (w.heap.size + 1) 25 #[.int .i64 0, .int .i64 0, .slice none 0 0, .slice none 0 0]) := blk_at (by simp)
  have F0 : Frm (fun _ => False) w ((w.alloc (.cells #[.int .i64 m.letters, .int .i64 m.start, .slice A1 m.next.length c1, .slice A2 m.fin.length c2] 25)).alloc (.cells #[.int .i64 0, .int .i64 0, .slice none 0 0, .slice none 0 0] 25)) := ((Frm.refl _ w).alloc _).alloc _
  have HM := Lib.hid (h.keep0 F0)
  have HF0 := Lib.hid F0
  have HS0 : Hid (w.heap.size + 2 ≤ ((w.alloc (.cells #[.int .i64 m.letters, .int .i64 m.start, .slice A1 m.next.length c1, .slice A2 m.fin.length c2] 25)).alloc (.cells #[.int .i64 0, .int .i64 0, .slice none 0 0, .slice none 0 0] 25)).heap.size) := show _ ≤ _ by simp
  clear F0 h hr hsz
  go_enter Try.func8, Try.ntmps8
  go_wp2_with fail
  refine (valid_any HM.out HSZ.out).mono ?_
  rintro _ w1 ⟨rfl, f1⟩
  have HB1 := Lib.hid (f1.blk HB0.out id)
  have HR1 := Lib.hid (f1.blk HR0.out id)
  have HM1 := Lib.hid (HM.out.keep0 f1)
  have HF1 := Lib.hid (HF0.out.trans f1)
  have HS1 : Hid (w.heap.size + 2 ≤ w1.heap.size) := Nat.le_trans HS0.out f1.1
  clear f1 HB0 HR0 HM HF0 HS0
  have x0 := HB1.out.cell 0
  have x1 := HB1.out.cell 1
  have x2 := HB1.out.cell 2
  have x3 := HB1.out.cell 3
  have r0 := HR1.out.cell 0
  have r1 := HR1.out.cell 1
  have r2 := HR1.out.cell 2
  have r3 := HR1.out.cell 3
  have q0 := HR1.out.frozen 0
  have q1 := HR1.out.frozen 1
  have q2 := HR1.out.frozen 2
  have q3 := HR1.out.frozen 3
  have hrs := HRS.out
  unfold A.LeastO at hrs
  by_cases hv : A.valid m = 0
  · rw [if_pos hv] at hrs
    split at hrs
    · cases hrs
    rename_i r hl
    injection hrs with hrs
    obtain ⟨rfl, rfl⟩ : m2 = r ∧ c = 0 := ⟨(congrArg Prod.fst hrs).symm, (congrArg Prod.snd hrs).symm⟩
    obtain ⟨hfit, hl3, hn⟩ := A.valid_fits hv
    have HL := Lib.hid hl
    have HFI := Lib.hid hfit
    have HLN : Hid (m.next.length ≤ 100000 ∧ m.letters ≤ 300) := ⟨by omega, hl3⟩
    rw [hv]
    clear hrs hl hfit hl3 hn hv HRS
    go_wp2_with fail
    refine (least_any HM1.out HFI.out HLN.out.1 HLN.out.2 hfl HL.out).mono ?_
    rintro _ w2 ⟨r, rfl, m2', f2⟩
    obtain ⟨B1, d1, B2, d2, rfl⟩ := m2'.form
    have HM2 := Lib.hid m2'
    have HR2 := Lib.hid (f2.blk HR1.out id)
    have HF2 := Lib.hid (HF1.out.trans f2)
    have HS2 : Hid (w.heap.size + 2 ≤ w2.heap.size) := Nat.le_trans HS1.out f2.1
    clear f2 m2' x0 x1 x2 x3 r0 r1 r2 r3 q0 q1 q2 q3
    have r0 := HR2.out.cell 0
    have r1 := HR2.out.cell 1
    have r2 := HR2.out.cell 2
    have r3 := HR2.out.cell 3
    have q0 := HR2.out.frozen 0
    have q1 := HR2.out.frozen 1
    have q2 := HR2.out.frozen 2
    have q3 := HR2.out.frozen 3
    go_wp2_with fail
    have h4 := put4_blk (l := .int .i64 m2.letters) (s := .int .i64 m2.start) (n := .slice B1 m2.next.length d1) (e := .slice B2 m2.fin.length d2) HR2.out
    have h5 := put4_frm1 (w := w2) (b := w.heap.size + 1) (l := .int .i64 m2.letters) (s := .int .i64 m2.start) (n := .slice B1 m2.next.length d1) (e := .slice B2 m2.fin.length d2)
    refine bodyPost_ret (w := put4 w2 (w.heap.size + 1) (.int .i64 m2.letters) (.int .i64 m2.start) (.slice B1 m2.next.length d1) (.slice B2 m2.fin.length d2)) (v := .tuple #[.agg #[.int .i64 m2.letters, .int .i64 m2.start, .slice B1 m2.next.length d1, .slice B2 m2.fin.length d2], .int .i64 0]) ?_ rfl ⟨_, rfl, ?_, put4_frm HF2.out (by omega)⟩
    · generalize put4 w2 (w.heap.size + 1) (.int .i64 m2.letters) (.int .i64 m2.start) (.slice B1 m2.next.length d1) (.slice B2 m2.fin.length d2) = w4 at *
      have y0 := h4.cell 0
      have y1 := h4.cell 1
      have y2 := h4.cell 2
      have y3 := h4.cell 3
      simp [results, Try.results8, go_sem, y0, y1, y2, y3]
    · have := HS1.out
      exact (HM2.out.keep h5 fun b hb e => by omega).mono fun b hb => by omega
  · rw [if_neg hv] at hrs
    injection hrs with hrs
    obtain ⟨rfl, rfl⟩ : m2 = ⟨0, 0, [], []⟩ ∧ c = 1 := ⟨(congrArg Prod.fst hrs).symm, (congrArg Prod.snd hrs).symm⟩
    have hv' : (A.valid m != 0) = true := by rw [bne_iff_ne]; exact hv
    clear hv hrs HRS x0 x1 x2 x3
    go_wp2_with fail
    refine bodyPost_ret (w := put4 w1 (w.heap.size + 1) (.int .i64 0) (.int .i64 0) (.slice none 0 0) (.slice none 0 0)) (v := .tuple #[.agg #[.int .i64 0, .int .i64 0, .slice none 0 0, .slice none 0 0], .int .i64 1]) ?_ rfl ⟨_, rfl, ⟨_, _, rfl, ⟨none, 0, rfl, fun k hk => absurd hk (Nat.not_lt_zero _)⟩, ⟨none, 0, rfl, fun k hk => absurd hk (Nat.not_lt_zero _)⟩⟩, put4_frm HF1.out (by omega)⟩
    have h4 := put4_blk (l := .int .i64 0) (s := .int .i64 0) (n := .slice none 0 0) (e := .slice none 0 0) HR1.out
    generalize put4 w1 (w.heap.size + 1) (.int .i64 0) (.int .i64 0) (.slice none 0 0) (.slice none 0 0) = w4 at *
    have y0 := h4.cell 0
    have y1 := h4.cell 1
    have y2 := h4.cell 2
    have y3 := h4.cell 3
    simp [results, Try.results8, go_sem, y0, y1, y2, y3]
end Go.Proofs.Ytmoniecknimmdaa
end
section
namespace Go.Proofs.Ytmoniecknimmdaa
open Go.RowKit
namespace A
instance : DecidableEq Mac := fun ⟨l, s, n, f⟩ ⟨l', s', n', f'⟩ =>
  if h : l = l' ∧ s = s' ∧ n = n' ∧ f = f' then isTrue (by obtain ⟨rfl, rfl, rfl, rfl⟩ := h; rfl) else isFalse fun e => h (by injection e with a b c d; exact ⟨a, b, c, d⟩)
def evenM : Mac := ⟨1, 0, [[1], [2], [1]], [true, false, true]⟩
def oneM : Mac := ⟨1, 0, [[0]], [true]⟩
theorem least_even : LeastO 20 evenM = some (⟨1, 0, [[1], [0]], [true, false]⟩, 0) := by decide +kernel
theorem diff_even : diffO 20 evenM oneM = some (some ([0], (1, 0))) := by decide +kernel
theorem same_even : diffO 20 evenM ⟨1, 0, [[1], [0]], [true, false]⟩ = some none := by decide +kernel
theorem search_even : searchO (nxtP evenM ⟨1, 0, [[1], [0]], [true, false]⟩) 20 (0, 0) (-1, -1) 1 20000 = some ([(0, 0), (1, 1), (2, 0)], [[1], [2], [1]]) := by decide +kernel
end A
set_option maxRecDepth 100000 in
set_option maxHeartbeats 4000000 in
theorem even_any (w : World) : Calls Try.prog 16 #[] w fun e w' => ∃ r, e = .returned r ∧ MachAt w' (fun b => w.heap.size ≤ b) r A.evenM ∧ Frm (fun _ => False) w w' := by
  go_enter Try.func16, Try.ntmps16
  go_wp2_with fail
  obtain ⟨W, hW⟩ : ∃ W, W = (((((w.alloc (.cells #[.int .i64 1, .int .i64 0, .slice (some ⟨w.heap.size + 1 + 1 + 1 + 1, 0, none⟩) 3 3, .slice (some ⟨w.heap.size + 1 + 1 + 1 + 1 + 1, 0, none⟩) 3 3] 25)).alloc (.cells #[.int .i64 1] 3)).alloc (.cells #[.int .i64 2] 3)).alloc (.cells #[.int .i64 1] 3)).alloc (.cells #[.slice (some ⟨w.heap.size + 1, 0, none⟩) 1 1, .slice (some ⟨w.heap.size + 1 + 1, 0, none⟩) 1 1, .slice (some ⟨w.heap.size + 1 + 1 + 1, 0, none⟩) 1 1] 35)).alloc (.cells #[.bool true, .bool false, .bool true] 4) := ⟨_, rfl⟩
  have b0 : Blk W w.heap.size 25 #[.int .i64 1, .int .i64 0, .slice (some ⟨w.heap.size + 1 + 1 + 1 + 1, 0, none⟩) 3 3, .slice (some ⟨w.heap.size + 1 + 1 + 1 + 1 + 1, 0, none⟩) 3 3] := by rw [hW]; exact (((((Blk.new w _ _).alloc _).alloc _).alloc _).alloc _).alloc _
  have b1 : Blk W (w.heap.size + 1) 3 #[.int .i64 1] := by rw [hW]; exact ((((blk_at (by simp)).alloc _).alloc _).alloc _).alloc _
  have b2 : Blk W (w.heap.size + 1 + 1) 3 #[.int .i64 2] := by rw [hW]; exact (((blk_at (by simp)).alloc _).alloc _).alloc _
  have b3 : Blk W (w.heap.size + 1 + 1 + 1) 3 #[.int .i64 1] := by rw [hW]; exact ((blk_at (by simp)).alloc _).alloc _
  have b4 : Blk W (w.heap.size + 1 + 1 + 1 + 1) 35 #[.slice (some ⟨w.heap.size + 1, 0, none⟩) 1 1, .slice (some ⟨w.heap.size + 1 + 1, 0, none⟩) 1 1, .slice (some ⟨w.heap.size + 1 + 1 + 1, 0, none⟩) 1 1] := by rw [hW]; exact (blk_at (by simp)).alloc _
  have b5 : Blk W (w.heap.size + 1 + 1 + 1 + 1 + 1) 4 #[.bool true, .bool false, .bool true] := by rw [hW]; exact blk_at (by simp)
  have F : Frm (fun _ => False) w W := by rw [hW]; exact ((((((Frm.refl _ w).alloc _).alloc _).alloc _).alloc _).alloc _).alloc _
  rw [← hW]
  clear hW
  have y0 := b0.cell 0
  have y1 := b0.cell 1
  have y2 := b0.cell 2
  have y3 := b0.cell 3
  refine bodyPost_ret (v := .agg #[.int .i64 1, .int .i64 0, .slice (some ⟨w.heap.size + 1 + 1 + 1 + 1, 0, none⟩) 3 3, .slice (some ⟨w.heap.size + 1 + 1 + 1 + 1 + 1, 0, none⟩) 3 3]) (by simp [results, Try.results16, go_sem, y0, y1, y2, y3]) rfl ⟨_, rfl, ⟨_, _, rfl, ⟨_, _, rfl, fun k hk => ?_⟩, ⟨_, _, rfl, fun k hk => ?_⟩⟩, F⟩
  · match k, hk with
    | 0, _ => exact ⟨_, 0, _, rfl, by omega, b4.cell 0, _, _, rfl, fun j hj => by match j, hj with | 0, _ => exact ⟨_, 0, rfl, by omega, b1.cell 0⟩⟩
    | 1, _ => exact ⟨_, 0, _, rfl, by omega, b4.cell 1, _, _, rfl, fun j hj => by match j, hj with | 0, _ => exact ⟨_, 0, rfl, by omega, b2.cell 0⟩⟩
    | 2, _ => exact ⟨_, 0, _, rfl, by omega, b4.cell 2, _, _, rfl, fun j hj => by match j, hj with | 0, _ => exact ⟨_, 0, rfl, by omega, b3.cell 0⟩⟩
  · match k, hk with
    | 0, _ => exact ⟨_, 0, rfl, by omega, b5.cell 0⟩
    | 1, _ => exact ⟨_, 0, rfl, by omega, b5.cell 1⟩
    | 2, _ => exact ⟨_, 0, rfl, by omega, b5.cell 2⟩
end Go.Proofs.Ytmoniecknimmdaa
end
section
namespace Go.Proofs.Ytmoniecknimmdaa
open Go.RowKit
def lessM : A.Mac := ⟨1, 0, [[1], [0]], [true, false]⟩
theorem sized_even : Sized A.evenM := by unfold Sized; decide
theorem sized_less : Sized lessM := by unfold Sized; decide
theorem sized_one : Sized A.oneM := by unfold Sized; decide
theorem less_form {w : World} {P : Nat → Prop} {r : Value} (h : MachAt w P r lessM) : ∃ A1 c1 A2 c2, r = .agg #[.int .i64 1, .int .i64 0, .slice A1 2 c1, .slice A2 2 c2] := h.form
theorem differ_even {w : World} {P Q : Nat → Prop} {v v' : Value} (h : MachAt w P v A.evenM) (h' : MachAt w Q v' A.oneM) : Calls Try.prog 13 #[v, v'] w fun e w' => ∃ u, e = .returned (.tuple #[u, .bool false, .int .i64 0]) ∧ Ints w' (fun b => w.heap.size ≤ b) u [0] ∧ Frm (fun _ => False) w w' := by
  refine (differ_any h h' sized_even sized_one (f := 20) (r := some ([0], (1, 0))) (fun _ => ⟨A.diff_even, fun l q h => ?_⟩) (by decide)).mono ?_
  · injection h with h
    injection h with h1 h2
    subst h2
    unfold A.InP A.In
    decide
  · rintro e w' ⟨F, hd⟩
    rw [if_pos (by decide +kernel)] at hd
    obtain ⟨u, rfl, hu⟩ := hd
    exact ⟨u, rfl, hu, F⟩
theorem two_even : A.Two A.evenM lessM := A.fit_two (by decide +kernel)
def zs3 : List DP := [⟨(0, 0), by unfold BPr; decide⟩, ⟨(1, 1), by unfold BPr; decide⟩, ⟨(2, 0), by unfold BPr; decide⟩]
theorem relate_even {w : World} {P Q : Nat → Prop} {v v' : Value} (h : MachAt w P v A.evenM) (h' : MachAt w Q v' lessM) : Calls Try.prog 14 #[v, v'] w fun e w' => ∃ u, ∃ zs' : List DP, e = .returned (.tuple #[u, .int .i64 0]) ∧ zs'.Perm zs3 ∧ zs'.Pairwise (fun x y => ltOf cfP y x = false) ∧ w'.ownsRow w.heap.size 50 2 u 3 (zs'.flatMap encP) ∧ Frm (fun _ => False) w w' :=
  relate_yes (f := 20) (zs := zs3) (rows := [[1], [2], [1]]) h h' sized_even sized_less (by decide +kernel) two_even A.same_even (by decide) (by decide) A.search_even (by decide) (by decide)
theorem sort3 {zs' : List DP} (hp : zs'.Perm zs3) (hs : zs'.Pairwise (fun x y => ltOf cfP y x = false)) : zs' = zs3 := by
  have hl : zs'.length = 3 := hp.length_eq
  match zs', hl with
  | [a, b, c], _ =>
    have ha : a ∈ zs3 := hp.mem_iff.1 (by simp)
    have hb : b ∈ zs3 := hp.mem_iff.1 (by simp)
    have hc : c ∈ zs3 := hp.mem_iff.1 (by simp)
    simp only [zs3, List.mem_cons, List.not_mem_nil, or_false] at ha hb hc
    rcases ha with rfl | rfl | rfl <;> rcases hb with rfl | rfl | rfl <;> rcases hc with rfl | rfl | rfl <;> first | rfl | (exfalso; revert hs; decide +kernel) | (exfalso; revert hp; decide +kernel)
theorem ints_form1 {w : World} {P : Nat → Prop} {u : Value} (h : Ints w P u [0]) : ∃ A4 c4, u = .slice A4 1 c4 := by
  obtain ⟨A4, c4, e, _⟩ := h
  exact ⟨A4, c4, e⟩
theorem acc_two {w : World} {P : Nat → Prop} {v : Value} {g : Nat} (h : MachAt w P v A.evenM) (hb : Blk w g 3 #[.int .i64 0, .int .i64 0]) : Calls Try.prog 18 #[v, .slice (some ⟨g, 0, none⟩) 2 2] w fun e w' => e = .returned (.bool true) ∧ Frm (fun _ => False) w w' := by
  have := accepts_any (l := [0, 0]) (Q := fun _ => True) (vw := .slice (some ⟨g, 0, none⟩) 2 2) h sized_even ⟨_, _, rfl, fun k hk => by
    match k, hk with
    | 0, _ => exact ⟨_, 0, rfl, trivial, hb.cell 0⟩
    | 1, _ => exact ⟨_, 0, rfl, trivial, hb.cell 1⟩⟩ (by decide)
  rw [show A.accepts A.evenM [0, 0] = true by decide +kernel] at this
  exact this
theorem acc_one {w : World} {P : Nat → Prop} {v : Value} {g : Nat} (h : MachAt w P v A.evenM) (hb : Blk w g 3 #[.int .i64 0]) : Calls Try.prog 18 #[v, .slice (some ⟨g, 0, none⟩) 1 1] w fun e w' => e = .returned (.bool false) ∧ Frm (fun _ => False) w w' := by
  have := accepts_any (l := [0]) (Q := fun _ => True) (vw := .slice (some ⟨g, 0, none⟩) 1 1) h sized_even ⟨_, _, rfl, fun k hk => by
    match k, hk with
    | 0, _ => exact ⟨_, 0, rfl, trivial, hb.cell 0⟩⟩ (by decide)
  rw [show A.accepts A.evenM [0] = false by decide +kernel] at this
  exact this
theorem own_prs {w : World} {base g c n : Nat} {zs : List DP} (h : w.ownsRow base 50 2 (.slice (some ⟨g, 0, none⟩) n c) n (zs.flatMap encP)) (hn : n = zs.length) {k : Nat} (hk : k ≤ n) : Prs2 w (fun _ => True) (.slice (some ⟨g, 0, none⟩) k c) ((zs.map (·.1)).take k) := by
  subst hn
  refine ⟨some ⟨g, 0, none⟩, c, by simp; omega, fun j hj => ?_⟩
  have hj' : j < zs.length := by simp at hj; omega
  have hc := @World.ownsRow.cells _ _ _ _ _ _ _ h g rfl
  have e0 := hc (j * 2) _ (flatP_at zs (j * 2) (by omega))
  have e1 := hc (j * 2 + 1) _ (flatP_at zs (j * 2 + 1) (by omega))
  rw [add_zero_off] at e0 e1
  rw [show j * 2 / 2 = j by omega, show j * 2 % 2 = 0 by omega, getElem!_pos zs j hj'] at e0
  rw [show (j * 2 + 1) / 2 = j by omega, show (j * 2 + 1) % 2 = 1 by omega, getElem!_pos zs j hj'] at e1
  refine ⟨g, 0, rfl, trivial, ?_, ?_⟩
  · rw [Nat.zero_add, e0]; simp [encP, pairC]
  · rw [Nat.zero_add, e1]; simp [encP, pairC]
theorem chk_all {w : World} {P Q : Nat → Prop} {v v' : Value} {base g c : Nat} (h : MachAt w P v A.evenM) (h' : MachAt w Q v' lessM) (ho : w.ownsRow base 50 2 (.slice (some ⟨g, 0, none⟩) 3 c) 3 (zs3.flatMap encP)) : Calls Try.prog 15 #[v, v', .slice (some ⟨g, 0, none⟩) 3 c] w fun e w' => e = .returned (.int .i64 0) ∧ Frm (fun _ => False) w w' := by
  have := check_any h h' (own_prs ho rfl (k := 3) (by decide)) sized_even sized_less (by decide)
  rw [show A.check A.evenM lessM ((zs3.map (·.1)).take 3) = 0 by decide +kernel] at this
  exact this
theorem chk_two {w : World} {P Q : Nat → Prop} {v v' : Value} {base g c : Nat} (h : MachAt w P v A.evenM) (h' : MachAt w Q v' lessM) (ho : w.ownsRow base 50 2 (.slice (some ⟨g, 0, none⟩) 3 c) 3 (zs3.flatMap encP)) : Calls Try.prog 15 #[v, v', .slice (some ⟨g, 0, none⟩) 2 c] w fun e w' => e = .returned (.int .i64 8) ∧ Frm (fun _ => False) w w' := by
  have := check_any h h' (own_prs ho rfl (k := 2) (by decide)) sized_even sized_less (by decide)
  rw [show A.check A.evenM lessM ((zs3.map (·.1)).take 2) = 8 by decide +kernel] at this
  exact this
def mE (v : Value) (w : World) : Prop := MachAt w (fun _ => True) v A.evenM
def sB (n : Nat) (cs : Array Value) (v : Value) (w : World) : Prop := ∃ b, v = .slice (some ⟨b, 0, none⟩) n n ∧ Blk w b 3 cs
def vV (x v : Value) (_ : World) : Prop := v = x
/-- What awake's last statement's operations leave behind. -/
def lastL (A1 A2 : Option Addr) (c1 c2 g c : Nat) : List (Value → World → Prop) :=
  [mE, sB 2 #[.int .i64 0, .int .i64 0], vV (.bool true), vV (.bool true), mE, sB 1 #[.int .i64 0], vV (.bool false), vV (.bool true), vV (.bool true), vV (.bool true),
   mE, vV (.agg #[.int .i64 1, .int .i64 0, .slice A1 2 c1, .slice A2 2 c2]), vV (.slice (some ⟨g, 0, none⟩) 3 c), vV (.int .i64 0), vV (.bool true), vV (.bool true), vV (.bool true),
   mE, vV (.agg #[.int .i64 1, .int .i64 0, .slice A1 2 c1, .slice A2 2 c2]), vV (.slice (some ⟨g, 0, none⟩) 3 c), vV (.slice (some ⟨g, 0, none⟩) 2 c), vV (.int .i64 8), vV (.bool true), vV (.bool true), vV (.bool true)]
theorem lastL_keep {A1 A2 : Option Addr} {c1 c2 g c : Nat} : ∀ f ∈ lastL A1 A2 c1 c2 g c, ∀ (v : Value) (w w' : World), f v w → Frm (fun _ => False) w w' → f v w' := by
  intro f hf v w w' h F
  have hm : ∀ v, mE v w → mE v w' := fun v h => MachAt.keep0 h F
  have hs : ∀ n cs v, sB n cs v w → sB n cs v w' := fun n cs v ⟨b, e, hb⟩ => ⟨b, e, F.blk hb id⟩
  have hv : ∀ x v, vV x v w → vV x v w' := fun x v h => h
  simp only [lastL, List.mem_cons, List.not_mem_nil, or_false] at hf
  rcases hf with rfl | rfl | rfl | rfl | rfl | rfl | rfl | rfl | rfl | rfl | rfl | rfl | rfl | rfl | rfl | rfl | rfl | rfl | rfl | rfl | rfl | rfl | rfl | rfl | rfl <;> first | exact hm v h | exact hs _ _ v h | exact hv _ v h
set_option maxRecDepth 100000 in
set_option maxHeartbeats 16000000 in
theorem awake_any (w : World) : Calls Try.prog 6 #[] w fun e w' => e = .returned (.bool true) ∧ Frm (fun _ => False) w w' := by
  go_enter Try.func6, Try.ntmps6
  go_wp2_with fail
  refine (even_any w).mono ?_
  rintro _ w1 ⟨r1, rfl, m1, f1⟩
  have HF1 := Lib.hid f1
  have HM1 := Lib.hid m1
  clear f1 m1
  go_wp2_with fail
  refine (Least_any HM1.out sized_even (f := 20) (by decide) A.least_even).mono ?_
  rintro _ w2 ⟨r2, rfl, m2, f2⟩
  obtain ⟨A1, c1, A2, c2, rfl⟩ := less_form m2
  have HF2 := Lib.hid (HF1.out.trans f2)
  have HM2 := Lib.hid m2
  clear f2 m2
  go_wp2_with fail
  obtain ⟨W, hW⟩ : ∃ W, W = ((((w2.alloc (.cells #[.int .i64 1, .int .i64 0, .slice A1 2 c1, .slice A2 2 c2] 25)).alloc (.cells #[.int .i64 0] 3)).alloc (.cells #[.slice (some ⟨w2.heap.size + 1, 0, none⟩) 1 1] 35)).alloc (.cells #[.bool true] 4)).alloc (.cells #[.int .i64 1, .int .i64 0, .slice (some ⟨w2.heap.size + 1 + 1, 0, none⟩) 1 1, .slice (some ⟨w2.heap.size + 1 + 1 + 1, 0, none⟩) 1 1] 25) := ⟨_, rfl⟩
  have b0 : Blk W w2.heap.size 25 #[.int .i64 1, .int .i64 0, .slice A1 2 c1, .slice A2 2 c2] := by rw [hW]; exact ((((Blk.new w2 _ _).alloc _).alloc _).alloc _).alloc _
  have b1 : Blk W (w2.heap.size + 1) 3 #[.int .i64 0] := by rw [hW]; exact (((blk_at (by simp)).alloc _).alloc _).alloc _
  have b2 : Blk W (w2.heap.size + 1 + 1) 35 #[.slice (some ⟨w2.heap.size + 1, 0, none⟩) 1 1] := by rw [hW]; exact ((blk_at (by simp)).alloc _).alloc _
  have b3 : Blk W (w2.heap.size + 1 + 1 + 1) 4 #[.bool true] := by rw [hW]; exact (blk_at (by simp)).alloc _
  have b4 : Blk W (w2.heap.size + 1 + 1 + 1 + 1) 25 #[.int .i64 1, .int .i64 0, .slice (some ⟨w2.heap.size + 1 + 1, 0, none⟩) 1 1, .slice (some ⟨w2.heap.size + 1 + 1 + 1, 0, none⟩) 1 1] := by rw [hW]; exact blk_at (by simp)
  have F : Frm (fun _ => False) w2 W := by rw [hW]; exact (((((Frm.refl _ w2).alloc _).alloc _).alloc _).alloc _).alloc _
  have HMO : Hid (MachAt W (fun _ => True) (.agg #[.int .i64 1, .int .i64 0, .slice (some ⟨w2.heap.size + 1 + 1, 0, none⟩) 1 1, .slice (some ⟨w2.heap.size + 1 + 1 + 1, 0, none⟩) 1 1]) A.oneM) := by
    refine ⟨_, _, rfl, ⟨_, _, rfl, fun k hk => ?_⟩, ⟨_, _, rfl, fun k hk => ?_⟩⟩
    · match k, hk with
      | 0, _ => exact ⟨_, 0, _, rfl, trivial, b2.cell 0, _, _, rfl, fun j hj => by match j, hj with | 0, _ => exact ⟨_, 0, rfl, trivial, b1.cell 0⟩⟩
    · match k, hk with
      | 0, _ => exact ⟨_, 0, rfl, trivial, b3.cell 0⟩
  have HML : Hid (MachAt W (fun _ => True) (.agg #[.int .i64 1, .int .i64 0, .slice A1 2 c1, .slice A2 2 c2]) lessM) := (MachAt.keep0 (m := lessM) HM2.out F).mono fun _ _ => trivial
  have HFW := Lib.hid (HF2.out.trans F)
  have HB0 := Lib.hid b0
  have x0 : W.cell? ⟨w2.heap.size + 1 + 1 + 1 + 1, 0, none⟩ = some (.int .i64 1) := b4.cell 0
  have x1 : W.cell? ⟨w2.heap.size + 1 + 1 + 1 + 1, 1, none⟩ = some (.int .i64 0) := b4.cell 1
  have x2 : W.cell? ⟨w2.heap.size + 1 + 1 + 1 + 1, 2, none⟩ = some (.slice (some ⟨w2.heap.size + 1 + 1, 0, none⟩) 1 1) := b4.cell 2
  have x3 : W.cell? ⟨w2.heap.size + 1 + 1 + 1 + 1, 3, none⟩ = some (.slice (some ⟨w2.heap.size + 1 + 1 + 1, 0, none⟩) 1 1) := b4.cell 3
  have HKK : Hid (∀ V, Frm (fun _ => False) W V → _) := fun V hV => (⟨hV.cell id x0, hV.cell id x1, hV.cell id x2, hV.cell id x3, hV⟩ : V.cell? ⟨w2.heap.size + 1 + 1 + 1 + 1, 0, none⟩ = some (.int .i64 1) ∧ V.cell? ⟨w2.heap.size + 1 + 1 + 1 + 1, 1, none⟩ = some (.int .i64 0) ∧ V.cell? ⟨w2.heap.size + 1 + 1 + 1 + 1, 2, none⟩ = some (.slice (some ⟨w2.heap.size + 1 + 1, 0, none⟩) 1 1) ∧ V.cell? ⟨w2.heap.size + 1 + 1 + 1 + 1, 3, none⟩ = some (.slice (some ⟨w2.heap.size + 1 + 1 + 1, 0, none⟩) 1 1) ∧ Frm (fun _ => False) W V)
  rw [← hW]
  clear hW b0 b1 b2 b3 b4 F HM1 HF1 HM2 HF2
  go_region_held3 (fun w' => w'.cell? ⟨w2.heap.size + 1 + 1 + 1 + 1, 0, none⟩ = some (.int .i64 1) ∧ w'.cell? ⟨w2.heap.size + 1 + 1 + 1 + 1, 1, none⟩ = some (.int .i64 0) ∧ w'.cell? ⟨w2.heap.size + 1 + 1 + 1 + 1, 2, none⟩ = some (.slice (some ⟨w2.heap.size + 1 + 1, 0, none⟩) 1 1) ∧ w'.cell? ⟨w2.heap.size + 1 + 1 + 1 + 1, 3, none⟩ = some (.slice (some ⟨w2.heap.size + 1 + 1 + 1, 0, none⟩) 1 1) ∧ Frm (fun _ => False) W w')
    (first | exact HKK.out _ (Frm.refl _ _) | exact HKK.out _ (Frm.refl _ _).drew | exact HKK.out _ (Frm.trans (E := fun _ => False) (w := W) f5 f6) | exact HKK.out _ f5)
    (first | (go_at_call 16; refine (even_any _).mono ?_; rintro e w5 ⟨r3, rfl, m3, f5⟩) | (go_at_call 13; refine (differ_even m3 (HMO.out.keep0 (w := W) f5)).mono ?_; rintro e w6 ⟨u4, rfl, hu4, f6⟩))
  have F6 := Frm.trans (E := fun _ => False) (w := W) f5 f6
  obtain ⟨A4, c4, rfl⟩ := ints_form1 hu4
  have HF6 := Lib.hid (HFW.out.trans F6)
  have HB6 := Lib.hid (F6.blk HB0.out id)
  have HML6 := Lib.hid (HML.out.keep0 F6)
  clear F6 f5 f6 m3 hu4 HKK x0 x1 x2 x3 HMO HML HFW HB0
  clear ‹_ ∧ _ ∧ _ ∧ _ ∧ Frm (fun _ => False) W _›
  go_wp2_with fail
  have y0 : w6.cell? ⟨w2.heap.size, 0, none⟩ = some (.int .i64 1) := HB6.out.cell 0
  have y1 : w6.cell? ⟨w2.heap.size, 1, none⟩ = some (.int .i64 0) := HB6.out.cell 1
  have y2 : w6.cell? ⟨w2.heap.size, 2, none⟩ = some (.slice A1 2 c1) := HB6.out.cell 2
  have y3 : w6.cell? ⟨w2.heap.size, 3, none⟩ = some (.slice A2 2 c2) := HB6.out.cell 3
  have HKK : Hid (∀ V, Frm (fun _ => False) w6 V → _) := fun V hV => (⟨hV.cell id y0, hV.cell id y1, hV.cell id y2, hV.cell id y3, hV⟩ : V.cell? ⟨w2.heap.size, 0, none⟩ = some (.int .i64 1) ∧ V.cell? ⟨w2.heap.size, 1, none⟩ = some (.int .i64 0) ∧ V.cell? ⟨w2.heap.size, 2, none⟩ = some (.slice A1 2 c1) ∧ V.cell? ⟨w2.heap.size, 3, none⟩ = some (.slice A2 2 c2) ∧ Frm (fun _ => False) w6 V)
  go_region_held3 (fun w' => w'.cell? ⟨w2.heap.size, 0, none⟩ = some (.int .i64 1) ∧ w'.cell? ⟨w2.heap.size, 1, none⟩ = some (.int .i64 0) ∧ w'.cell? ⟨w2.heap.size, 2, none⟩ = some (.slice A1 2 c1) ∧ w'.cell? ⟨w2.heap.size, 3, none⟩ = some (.slice A2 2 c2) ∧ Frm (fun _ => False) w6 w')
    (first | exact HKK.out _ (Frm.refl _ _) | exact HKK.out _ (Frm.refl _ _).drew | exact HKK.out _ (Frm.trans (E := fun _ => False) (w := w6) f7 f8) | exact HKK.out _ f7)
    (first | (go_at_call 16; refine (even_any _).mono ?_; rintro e w7 ⟨r5, rfl, m5, f7⟩) | (go_at_call 14; refine (relate_even m5 (HML6.out.keep0 (w := w6) f7)).mono ?_; rintro e w8 ⟨u7, zs', rfl, hp, hs, ho, f8⟩))
  have F8 := Frm.trans (E := fun _ => False) (w := w6) f7 f8
  have HF8 := Lib.hid (HF6.out.trans F8)
  have HB8 := Lib.hid (F8.blk HB6.out id)
  have HML8 := Lib.hid (HML6.out.keep0 F8)
  obtain ⟨g7, c7, rfl, hg7⟩ := own_some ho (by decide)
  have HO8 := Lib.hid ho
  have HP := Lib.hid hp
  have HS := Lib.hid hs
  clear F8 f7 f8 m5 ho hp hs HKK y0 y1 y2 y3 HF6 HB6 HML6 hg7
  clear ‹_ ∧ _ ∧ _ ∧ _ ∧ Frm (fun _ => False) w6 _›
  go_wp2_with fail
  refine (even_any _).mono ?_
  rintro _ w9 ⟨r9, rfl, m9, f9⟩
  have HF9 := Lib.hid (HF8.out.trans f9)
  have HB9 := Lib.hid (f9.blk HB8.out id)
  have HML9 := Lib.hid (HML8.out.keep0 f9)
  have HO9 := Lib.hid (f9.row HO8.out (fun _ _ => id) (Nat.le_refl _))
  have HM9 := Lib.hid m9
  clear f9 m9 HF8 HB8 HML8 HO8
  go_wp2_with fail
  refine (count_any (n := 4) HM9.out sized_even).mono ?_
  rintro _ w10 ⟨rfl, f10⟩
  have HF10 := Lib.hid (HF9.out.trans f10)
  have HB10 := Lib.hid (f10.blk HB9.out id)
  have HML10 := Lib.hid (HML9.out.keep0 f10)
  have HO10 := Lib.hid (f10.row HO9.out (fun _ _ => id) (Nat.le_refl _))
  rw [show (A.count A.evenM 4).1 = 1 by decide +kernel, show (A.count A.evenM 4).2 = 0 by decide +kernel]
  clear f10 HF9 HB9 HML9 HO9 HM9
  have y2 : w10.cell? ⟨w2.heap.size, 2, none⟩ = some (.slice A1 2 c1) := HB10.out.cell 2
  go_wp2_with fail
  have hz : zs' = zs3 := sort3 HP.out HS.out
  subst hz
  have h7 : 3 ≤ c7 := by
    rcases HO10.out.2 with ⟨hv, _⟩ | ⟨_, _, _, hv, _, _, h3, _⟩
    · cases hv
    · injection hv with _ _ hv; omega
  clear HP HS y2
  refine wp_region_list [75, 76, 77, 78, 79, 80, 81, 82, 83, 84, 85, 86, 87, 88, 89, 90, 91, 92, 93, 94, 95, 96, 97, 98, 0] (lastL A1 A2 c1 c2 g7 c7) (Frm (fun _ => False)) [(3, true), (9, true), (16, true)] [(1, .pointer (some ⟨w2.heap.size, 0, none⟩)), (7, .slice (some ⟨g7, 0, none⟩) 3 c7)] (by kernel_rfl) (by kernel_rfl) (fun _ _ _ => Frm.trans) lastL_keep ?_ (Frm.refl _ _).drew ?_ ?_ ?_
  · intro g hg v w hv
    simp only [List.mem_cons, List.not_mem_nil, or_false] at hg
    rcases hg with rfl | rfl | rfl <;> exact hv
  · intro x hx
    simp only [List.mem_cons, List.not_mem_nil, or_false] at hx
    rcases hx with rfl | rfl <;> exact ⟨by simp, rfl⟩
  · have HW : Hid (w10 = w10) := rfl
    refine ⟨?_, ?_, ?_, ?_, ?_, ?_, ?_, ?_, ?_, ?_, ?_, ?_, ?_, ?_, ?_, ?_, ?_, ?_, ?_, ?_, ?_, ?_, ?_, ?_, ?_, trivial⟩
    · intro Q tm df V hR hu hd
      clear hu hd
      go_simp
      refine (even_any _).mono ?_
      rintro e w' ⟨r, rfl, m, f⟩
      exact ⟨r, rfl, MachAt.mono m (fun _ _ => trivial), f⟩
    · intro Q tm df V hR hu hd
      clear hu hd
      go_simp
      exact ⟨_, rfl, ⟨V.heap.size, rfl, Blk.new _ _ _⟩, (Frm.refl _ V).alloc _⟩
    · intro Q tm df V hR hu hd
      have d0 : mE (tm[75]?.getD undef) V := hd 0 (by simp)
      obtain ⟨b, e1, hb⟩ : sB 2 #[.int .i64 0, .int .i64 0] (tm[76]?.getD undef) V := hd 1 (by simp)
      clear hu hd
      go_simp
      refine (acc_two d0 hb).mono ?_
      rintro e w' ⟨rfl, f⟩
      exact ⟨_, rfl, rfl, f⟩
    · intro Q tm df V hR hu hd
      have e0 : tm[77]?.getD undef = .bool true := hd 2 (by simp)
      clear hu hd
      go_simp
      exact ⟨_, rfl, rfl, Frm.refl _ V⟩
    · intro Q tm df V hR hu hd
      clear hu hd
      go_simp
      refine (even_any _).mono ?_
      rintro e w' ⟨r, rfl, m, f⟩
      exact ⟨r, rfl, MachAt.mono m (fun _ _ => trivial), f⟩
    · intro Q tm df V hR hu hd
      clear hu hd
      go_simp
      exact ⟨_, rfl, ⟨V.heap.size, rfl, Blk.new _ _ _⟩, (Frm.refl _ V).alloc _⟩
    · intro Q tm df V hR hu hd
      have d0 : mE (tm[79]?.getD undef) V := hd 4 (by simp)
      obtain ⟨b, e1, hb⟩ : sB 1 #[.int .i64 0] (tm[80]?.getD undef) V := hd 5 (by simp)
      clear hu hd
      go_simp
      refine (acc_one d0 hb).mono ?_
      rintro e w' ⟨rfl, f⟩
      exact ⟨_, rfl, rfl, f⟩
    · intro Q tm df V hR hu hd
      have e0 : tm[81]?.getD undef = .bool false := hd 6 (by simp)
      clear hu hd
      go_simp
      exact ⟨_, rfl, rfl, Frm.refl _ V⟩
    · intro Q tm df V hR hu hd
      have e0 : tm[78]?.getD undef = .bool true := hd 3 (by simp)
      have e1 : tm[82]?.getD undef = .bool true := hd 7 (by simp)
      clear hu hd
      go_simp
      exact ⟨_, rfl, rfl, Frm.refl _ V⟩
    · intro Q tm df V hR hu hd
      have e0 : tm[83]?.getD undef = .bool true := hd 8 (by simp)
      clear hu hd
      go_simp
      exact ⟨_, rfl, rfl, Frm.refl _ V⟩
    · intro Q tm df V hR hu hd
      clear hu hd
      go_simp
      refine (even_any _).mono ?_
      rintro e w' ⟨r, rfl, m, f⟩
      exact ⟨r, rfl, MachAt.mono m (fun _ _ => trivial), f⟩
    · intro Q tm df V hR hu hd
      have u1 : tm[1]?.getD undef = .pointer (some ⟨w2.heap.size, 0, none⟩) := hu (1, _) (by simp)
      have hb := hR.blk HB10.out id
      have y0 := hb.cell 0
      have y1 := hb.cell 1
      have y2 := hb.cell 2
      have y3 := hb.cell 3
      clear hu hd hb
      go_simp
      exact ⟨_, rfl, rfl, Frm.refl _ V⟩
    · intro Q tm df V hR hu hd
      have u1 : tm[7]?.getD undef = .slice (some ⟨g7, 0, none⟩) 3 c7 := hu (7, _) (by simp)
      clear hu hd
      go_simp
      exact ⟨_, rfl, rfl, Frm.refl _ V⟩
    · intro Q tm df V hR hu hd
      have d0 : mE (tm[85]?.getD undef) V := hd 10 (by simp)
      have e1 : tm[86]?.getD undef = .agg #[.int .i64 1, .int .i64 0, .slice A1 2 c1, .slice A2 2 c2] := hd 11 (by simp)
      have e2 : tm[87]?.getD undef = .slice (some ⟨g7, 0, none⟩) 3 c7 := hd 12 (by simp)
      clear hu hd
      go_simp
      refine (chk_all d0 (HML10.out.keep0 hR) (hR.row HO10.out (fun _ _ => id) (Nat.le_refl _))).mono ?_
      rintro e w' ⟨rfl, f⟩
      exact ⟨_, rfl, rfl, f⟩
    · intro Q tm df V hR hu hd
      have e0 : tm[88]?.getD undef = .int .i64 0 := hd 13 (by simp)
      clear hu hd
      go_simp
      exact ⟨_, rfl, rfl, Frm.refl _ V⟩
    · intro Q tm df V hR hu hd
      have e0 : tm[84]?.getD undef = .bool true := hd 9 (by simp)
      have e1 : tm[89]?.getD undef = .bool true := hd 14 (by simp)
      clear hu hd
      go_simp
      exact ⟨_, rfl, rfl, Frm.refl _ V⟩
    · intro Q tm df V hR hu hd
      have e0 : tm[90]?.getD undef = .bool true := hd 15 (by simp)
      clear hu hd
      go_simp
      exact ⟨_, rfl, rfl, Frm.refl _ V⟩
    · intro Q tm df V hR hu hd
      clear hu hd
      go_simp
      refine (even_any _).mono ?_
      rintro e w' ⟨r, rfl, m, f⟩
      exact ⟨r, rfl, MachAt.mono m (fun _ _ => trivial), f⟩
    · intro Q tm df V hR hu hd
      have u1 : tm[1]?.getD undef = .pointer (some ⟨w2.heap.size, 0, none⟩) := hu (1, _) (by simp)
      have hb := hR.blk HB10.out id
      have y0 := hb.cell 0
      have y1 := hb.cell 1
      have y2 := hb.cell 2
      have y3 := hb.cell 3
      clear hu hd hb
      go_simp
      exact ⟨_, rfl, rfl, Frm.refl _ V⟩
    · intro Q tm df V hR hu hd
      have u1 : tm[7]?.getD undef = .slice (some ⟨g7, 0, none⟩) 3 c7 := hu (7, _) (by simp)
      clear hu hd
      go_simp
      exact ⟨_, rfl, rfl, Frm.refl _ V⟩
    · intro Q tm df V hR hu hd
      have e1 : tm[94]?.getD undef = .slice (some ⟨g7, 0, none⟩) 3 c7 := hd 19 (by simp)
      have h2 : (2 : Int) ≤ (c7 : Int) := by omega
      clear hu hd
      go_simp
      exact ⟨_, rfl, rfl, Frm.refl _ V⟩
    · intro Q tm df V hR hu hd
      have d0 : mE (tm[92]?.getD undef) V := hd 17 (by simp)
      have e1 : tm[93]?.getD undef = .agg #[.int .i64 1, .int .i64 0, .slice A1 2 c1, .slice A2 2 c2] := hd 18 (by simp)
      have e2 : tm[95]?.getD undef = .slice (some ⟨g7, 0, none⟩) 2 c7 := hd 20 (by simp)
      clear hu hd
      go_simp
      refine (chk_two d0 (HML10.out.keep0 hR) (hR.row HO10.out (fun _ _ => id) (Nat.le_refl _))).mono ?_
      rintro e w' ⟨rfl, f⟩
      exact ⟨_, rfl, rfl, f⟩
    · intro Q tm df V hR hu hd
      have e0 : tm[96]?.getD undef = .int .i64 8 := hd 21 (by simp)
      clear hu hd
      go_simp
      exact ⟨_, rfl, rfl, Frm.refl _ V⟩
    · intro Q tm df V hR hu hd
      have e0 : tm[91]?.getD undef = .bool true := hd 16 (by simp)
      have e1 : tm[97]?.getD undef = .bool true := hd 22 (by simp)
      clear hu hd
      go_simp
      exact ⟨_, rfl, rfl, Frm.refl _ V⟩
    · intro Q tm df V hR hu hd
      have e0 : tm[98]?.getD undef = .bool true := hd 23 (by simp)
      clear hu hd
      go_simp
      exact ⟨_, rfl, rfl, Frm.refl _ V⟩
  · intro vs V hR hf
    have e24 : vs 24 = .bool true := hf 24 (by decide)
    clear hf
    clear HB10 HML10 HO10
    simp only [putAll, List.size_toArray, List.length_cons, List.length_nil, Nat.zero_add, Nat.reduceAdd, show List.range 25 = [0, 1, 2, 3, 4, 5, 6, 7, 8, 9, 10, 11, 12, 13, 14, 15, 16, 17, 18, 19, 20, 21, 22, 23, 24] from rfl, List.foldl_cons, List.foldl_nil, List.getD_cons_zero, List.getD_cons_succ, List.setIfInBounds_toArray, List.set_cons_zero, List.set_cons_succ, e24]
    go_wp2_with fail
    go_ret
    exact ⟨rfl, HF10.out.trans hR⟩
end Go.Proofs.Ytmoniecknimmdaa
end
