/- arrivals. living. The partition: words; one, mark. The partition: add. The partition: split. The partition: divide. Contracts of the program's functions, with no condition beyond what each theorem states. -/
import Derived.Test.YtmoniecknimmdaaC03
import Derived.RegionTactic
import Derived.BigRegion
section
namespace Go.Proofs.Ytmoniecknimmdaa
open Go.RowKit
namespace A
abbrev Ar := Int × Int
/-- The ways out of the state s by the letters from k on, each put into its state's list. -/
def addAr (s : Int) : Int → List Int → List (List Ar) → List (List Ar)
  | _, [], acc => acc
  | k, x :: r, acc => addAr s (k + 1) r (if x = -1 then acc else acc.set x.toNat (acc.getD x.toNat [] ++ [(s, k)]))
def addRows : Int → List (List Int) → List (List Ar) → List (List Ar)
  | _, [], acc => acc
  | s, row :: r, acc => addRows (s + 1) r (addAr s 0 row acc)
def arrive (m : Mac) : List (List Ar) := addRows 0 m.next (List.replicate m.next.length [])
end A
def arC (a : A.Ar) : List Value := [.int .i64 a.1, .int .i64 a.2]
def arT : GT := ⟨99, 101, 2⟩
def lnOf {α : Type} (acc : List (List α)) (i : Nat) : Nat := (acc.getD i []).length
def cfOf {α : Type} (f : α → List Value) (acc : List (List α)) (i : Nat) : List Value := (acc.getD i []).flatMap f
theorem lnOf_set {α : Type} (acc : List (List α)) {i : Nat} (hi : i < acc.length) (l : List α) : lnOf (acc.set i l) = updF (lnOf acc) i l.length := by
  funext k
  unfold lnOf updF
  by_cases h : k = i
  · subst h; simp [hi]
  · have h' : ¬ i = k := fun e => h e.symm
    simp [h, h']
theorem cfOf_set {α : Type} (f : α → List Value) (acc : List (List α)) {i : Nat} (hi : i < acc.length) (l : List α) : cfOf f (acc.set i l) = updF (cfOf f acc) i (l.flatMap f) := by
  funext k
  unfold cfOf updF
  by_cases h : k = i
  · subst h; simp [hi]
  · have h' : ¬ i = k := fun e => h e.symm
    simp [h, h']
/-- The arrivals in memory. -/
def Rws {α : Type} (T : GT) (f : α → List Value) (w : World) (S : Nat → Prop) (ob : Nat) (acc : List (List α)) : Prop := ∃ vf, Grp T w S ob acc.length vf (lnOf acc) (cfOf f acc)
def Ars (w : World) (S : Nat → Prop) (ob : Nat) (acc : List (List A.Ar)) : Prop := Rws arT arC w S ob acc
theorem Grp.rws0 {α : Type} {T : GT} {f : α → List Value} {w : World} {S : Nat → Prop} {ob k : Nat} {vf : Nat → Value} (h : Grp T w S ob k vf (fun _ => 0) (fun _ => [])) : Rws T f w S ob (List.replicate k []) := by
  refine ⟨vf, ?_⟩
  rw [List.length_replicate]
  have e : ∀ i, (List.replicate k ([] : List α)).getD i [] = [] := fun i => by simp only [List.getD_eq_getElem?_getD, List.getElem?_replicate]; split <;> rfl
  exact h.congr (fun i _ => by unfold lnOf; rw [e]; rfl) (fun i _ => by unfold cfOf; rw [e]; rfl)
theorem Grp.add {α : Type} {T : GT} {f : α → List Value} {w w1 : World} {S : Nat → Prop} {ob : Nat} {vf : Nat → Value} {acc : List (List α)} (h : Grp T w S ob acc.length vf (lnOf acc) (cfOf f acc)) {q : Nat} (hq : q < acc.length) {v' : Value} (x : α) (hg : w.grownBy w1 (vf q).ownBlock) (ho : w1.ownsRow 0 T.e T.sz v' (lnOf acc q + 1) (cfOf f acc q ++ f x)) (hl : v'.ownBlock = (vf q).ownBlock ∨ ∀ g, v'.ownBlock = some g → w.heap.size ≤ g) :
    Rws T f (w1.setCell ⟨ob, q, none⟩ v') (fun b => S b ∨ w.heap.size ≤ b) ob (acc.set q (acc.getD q [] ++ [x])) := by
  refine ⟨updF vf q v', ?_⟩
  rw [List.length_set, lnOf_set acc hq, cfOf_set f acc hq]
  have := h.put hq hg ho hl
  refine this.congr (fun i _ => ?_) (fun i _ => ?_)
  · rw [List.length_append]; rfl
  · rw [List.flatMap_append, show [x].flatMap f = f x by simp]; rfl
theorem Rws.mono {α : Type} {T : GT} {f : α → List Value} {w : World} {S S' : Nat → Prop} {ob : Nat} {acc : List (List α)} (h : Rws T f w S ob acc) (hS : ∀ b, b < w.heap.size → S b → S' b) : Rws T f w S' ob acc := by
  obtain ⟨vf, h⟩ := h
  exact ⟨vf, h.mono hS⟩
theorem Rws.frm {α : Type} {T : GT} {f : α → List Value} {w w' : World} {S E : Nat → Prop} {ob : Nat} {acc : List (List α)} (h : Rws T f w S ob acc) (F : Frm E w w') (hE : ∀ b, b < w.heap.size → S b → ¬ E b) : Rws T f w' S ob acc := by
  obtain ⟨vf, h⟩ := h
  exact ⟨vf, h.frm F hE⟩
theorem info_arS : (Try.prog.info? 99).map (fun i => (i.zero, i.size, i.bytes)) = some (some (.slice none 0 0), 1, 24) := by kernel_rfl
theorem info_ar : (Try.prog.info? 101).map (fun i => (i.zero, i.size, i.bytes)) = some (some (.agg #[.int .i64 0, .int .i64 0]), 2, 16) := by kernel_rfl
theorem cell_two_at {w : World} {u v : Value} {e : TypeId} {n : Nat} (hn : w.heap.size = n) : ∀ (j : Nat) (z : Value), [u, v][j]? = some z → (w.alloc (.cells #[u, v] e)).cell? ((⟨n, 0, none⟩ : Addr).add j) = some z := by
  subst hn
  intro j z hz
  rw [add_zero_off, (Blk.new w e #[u, v]).cell j]
  simpa using hz
theorem cellsOf_made (n : Nat) (z : Value) : madeCells #[z] n = cellsOf n (fun _ => z) := by
  apply Array.toList_inj.1
  rw [toList_madeCells_one]
  simp only [cellsOf]
  apply List.ext_getElem <;> simp
/-- A new outer block of nil slices. -/
theorem Grp.made (T : GT) (w : World) (n : Nat) : Grp T (w.alloc (.cells (madeCells #[.slice none 0 0] n) T.oty)) (fun b => w.heap.size ≤ b) w.heap.size n (fun _ => .slice none 0 0) (fun _ => 0) (fun _ => []) :=
  ⟨by rw [cellsOf_made]; exact Blk.new w _ _, Nat.le_refl _, fun _ _ => World.ownsRow_nil _ _ _ _, fun _ _ _ h => (by cases h), fun _ _ _ _ _ _ h => (by cases h)⟩
def Cnts (wr : World) (g n B : Nat) (cs : List Int) : Prop := Blk wr g 3 (intCs cs) ∧ cs.length = n ∧ ∀ x ∈ cs, 0 ≤ x ∧ x ≤ B
theorem Cnts.at_ {wr : World} {g n B : Nat} {cs : List Int} (h : Cnts wr g n B cs) {k : Nat} (hk : k < n) : wr.cell? ⟨g, k, none⟩ = some (.int .i64 (cs.getD k 0)) ∧ wr.frozen? ⟨g, k, none⟩ = false ∧ 0 ≤ cs.getD k 0 ∧ cs.getD k 0 ≤ B := by
  have hk' : k < cs.length := by rw [h.2.1]; exact hk
  have hm := h.2.2 _ (List.getElem_mem hk')
  have e : cs.getD k 0 = cs[k] := by simp [hk']
  exact ⟨(h.1.cell k).trans (intCs_getD hk'), h.1.frozen k, by rw [e]; exact hm.1, by rw [e]; exact hm.2⟩
theorem Cnts.inc {wr : World} {g n B : Nat} {cs : List Int} (h : Cnts wr g n B cs) {k : Nat} (hk : k < n) : Cnts (wr.setCell ⟨g, k, none⟩ (.int .i64 (cs.getD k 0 + 1))) g n (B + 1) (cs.set k (cs.getD k 0 + 1)) := by
  have hq := h.at_ hk
  refine ⟨by rw [← intCs_set]; exact h.1.set_ k _, by rw [List.length_set]; exact h.2.1, fun x hx => ?_⟩
  rcases List.mem_or_eq_of_mem_set hx with hx | hx
  · have := h.2.2 x hx; omega
  · omega
theorem Cnts.wide {wr : World} {g n B B' : Nat} {cs : List Int} (h : Cnts wr g n B cs) (hB : B ≤ B') : Cnts wr g n B' cs := ⟨h.1, h.2.1, fun x hx => by have := h.2.2 x hx; omega⟩
theorem Cnts.frm {E : Nat → Prop} {wr w' : World} {g n B : Nat} {cs : List Int} (h : Cnts wr g n B cs) (F : Frm E wr w') (hE : ¬ E g) : Cnts w' g n B cs := ⟨F.blk h.1 hE, h.2⟩
namespace A
/-- Each list has at most n elements. -/
def Short {α : Type} (acc : List (List α)) (n : Nat) : Prop := ∀ i, (acc.getD i []).length ≤ n
theorem Short.mono {α : Type} {acc : List (List α)} {n n' : Nat} (h : Short acc n) (hn : n ≤ n') : Short acc n' := fun i => Nat.le_trans (h i) hn
theorem Short.add {α : Type} {acc : List (List α)} {n : Nat} (h : Short acc n) (q : Nat) (x : α) : Short (acc.set q (acc.getD q [] ++ [x])) (n + 1) := fun i => by
  have hi := h i
  have hq := h q
  simp only [List.getD_eq_getElem?_getD, List.getElem?_set] at *
  by_cases e : q = i
  · subst e
    by_cases hl : q < acc.length
    · simp [hl] at *; omega
    · simp [hl]
  · simp [e] at *; omega
end A
set_option maxRecDepth 100000 in
set_option maxHeartbeats 4000000 in
theorem arrivals_any {w : World} {P : Nat → Prop} {v : Value} {m : A.Mac} (h : MachAt w P v m) (hf : A.Fits m) (hn : m.next.length ≤ 100000) (hlt3 : m.letters ≤ 300) :
    Calls Try.prog 41 #[v] w fun e w' => ∃ ob, e = .returned (.slice (some ⟨ob, 0, none⟩) m.next.length m.next.length) ∧ Ars w' (fun b => w.heap.size ≤ b) ob (A.arrive m) ∧ Frm (fun _ => False) w w' := by
  obtain ⟨A1, c1, A2, c2, rfl⟩ := h.form
  obtain ⟨N, hN⟩ : ∃ N, N = m.next.length := ⟨_, rfl⟩
  have HB0 : Hid (Blk (w.alloc (.cells #[.int .i64 m.letters, .int .i64 m.start, .slice A1 m.next.length c1, .slice A2 m.fin.length c2] 25)) w.heap.size 25 #[.int .i64 m.letters, .int .i64 m.start, .slice A1 m.next.length c1, .slice A2 m.fin.length c2]) := Blk.new w _ _
  have HF0 : Hid (Frm (fun _ => False) w (w.alloc (.cells #[.int .i64 m.letters, .int .i64 m.start, .slice A1 m.next.length c1, .slice A2 m.fin.length c2] 25))) := (Frm.refl _ w).alloc _
  have HM := Lib.hid h
  have HFI := Lib.hid hf
  rw [← hN] at hn HB0 HF0 ⊢
  have HN := Lib.hid hN
  clear h hf hN
  have hmk := run_make_row' (P := Try.prog) 35 3 (.int .i64 0) 8 Try.underlying35 info_int rfl .i64 .i64 N (by omega) (by omega)
  have x2 := HB0.out.cell 2
  go_enter Try.func41, Try.ntmps41
  go_wp2_with fail
  have HC1 : Hid (Cnts ((w.alloc (.cells #[.int .i64 m.letters, .int .i64 m.start, .slice A1 N c1, .slice A2 m.fin.length c2] 25)).alloc (.cells (madeCells #[.int .i64 0] N) 3)) (w.heap.size + 1) N 0 (List.replicate N 0)) := by
    refine ⟨by rw [intCs_made]; exact blk_at (by simp), by simp, fun x hx => ?_⟩
    rw [List.mem_replicate] at hx; omega
  have HB1 := Lib.hid (HB0.out.alloc (.cells (madeCells #[.int .i64 0] N) 3))
  have HF1 := Lib.hid (HF0.out.alloc (.cells (madeCells #[.int .i64 0] N) 3))
  clear hmk x2
  have x2 := HB1.out.cell 2
  go_wp2_with fail
  go_loopg [22] (N + 1) (fun n i wr => ∃ (k : Nat) (cs : List Int), k ≤ N ∧ n = N + 1 - k ∧ i = .int .i64 (k : Int) ∧ Hid (Cnts wr (w.heap.size + 1) N (300 * k) cs) ∧ Hid (Blk wr w.heap.size 25 #[.int .i64 m.letters, .int .i64 m.start, .slice A1 N c1, .slice A2 m.fin.length c2]) ∧ Hid (Frm (fun _ => False) w wr))
  case atStart => exact ⟨0, _, Nat.zero_le _, rfl, rfl, HC1, HB1, HF1⟩
  case round =>
    obtain ⟨k, cs, hk, rfl, rfl, C, X, F⟩ := hrel
    by_cases hlt : k < N
    · have hlt' : (k : Int) < (N : Int) := by omega
      have hltm : k < m.next.length := by rw [← HN.out]; exact hlt
      obtain ⟨g, o, A3, c3, hA, hc, hrow⟩ := HM.out.next_at hltm
      subst hA
      have c0 := F.out.cell id hc
      have HIN := Lib.hid (HFI.out.rows _ (List.getElem_mem hltm)).2
      have hrl : (m.next[k]'hltm).length ≤ 300 := by have := (HFI.out.rows _ (List.getElem_mem hltm)).1; omega
      have HROW := Lib.hid hrow
      generalize m.next[k]'hltm = row at *
      clear hc hrow hltm
      go_wp2_with fail
      go_loopg [28] (row.length + 1) (fun n i wr' => ∃ (j : Nat) (cs : List Int), j ≤ row.length ∧ n = row.length + 1 - j ∧ i = .int .i64 (j : Int) ∧ Hid (Cnts wr' (w.heap.size + 1) N (300 * k + j) cs) ∧ Hid (Blk wr' w.heap.size 25 #[.int .i64 m.letters, .int .i64 m.start, .slice (some ⟨g, o, none⟩) N c1, .slice A2 m.fin.length c2]) ∧ Hid (Frm (fun _ => False) w wr'))
      case atStart => exact ⟨0, cs, Nat.zero_le _, rfl, rfl, C, X, F⟩
      case round =>
        clear C X F c0
        obtain ⟨j, cs, hj, rfl, rfl, C, X, F⟩ := hrel
        by_cases hltj : j < row.length
        · have hltj' : (j : Int) < (row.length : Int) := by omega
          obtain ⟨g3, o3, hA3, _, hcj⟩ := HROW.out j hltj
          subst hA3
          have c1 := F.out.cell id hcj
          have HX := Lib.hid (HIN.out _ (List.getElem_mem hltj))
          generalize row[j]'hltj = x at *
          obtain ⟨hx1, hx2⟩ := HX.out
          clear hcj
          by_cases hx : x = -1
          · subst hx
            have HC2 := Lib.hid (C.out.wide (B' := 300 * k + (j + 1)) (by omega))
            go_wp2_with fail
            go_roundg (row.length + 1 - (j + 1))
            case measure => omega
            case rel => exact ⟨j + 1, cs, by omega, rfl, by go_num, HC2, X, F⟩
          · have hb : (x != -1) = true := by rw [bne_iff_ne]; exact hx
            obtain ⟨q, rfl⟩ : ∃ q : Nat, x = (q : Int) := ⟨x.toNat, by omega⟩
            have hqN : q < N := by rw [HN.out]; omega
            have hqN' : (q : Int) < (N : Int) := by omega
            obtain ⟨d0, df, hd0, hd1⟩ := C.out.at_ hqN
            have HC2 := Lib.hid (C.out.inc hqN)
            generalize cs.getD q 0 = y at *
            have hd2 : y ≤ 60000000 := by omega
            clear hx
            go_wp2_with fail
            go_roundg (row.length + 1 - (j + 1))
            case measure => omega
            case rel => exact ⟨j + 1, _, by omega, rfl, by go_num, HC2, X.out.far (by dsimp only; omega) _, F.out.set_ (fun h => by dsimp only at h; omega) _⟩
        · have hltj' : ¬ (j : Int) < (row.length : Int) := by omega
          have HC2 := Lib.hid (C.out.wide (B' := 300 * (k + 1)) (by omega))
          go_wp2_with fail
          go_roundg (N + 1 - (k + 1))
          case measure => omega
          case rel => exact ⟨k + 1, cs, by omega, rfl, by go_num, HC2, X, F⟩
    · have hlt' : ¬ (k : Int) < (N : Int) := by omega
      obtain rfl : k = N := by omega
      have x2 := X.out.cell 2
      have hmk := run_make_row' (P := Try.prog) 70 99 (.slice none 0 0) 24 Try.underlying70 info_arS rfl .i64 .i64 k (by omega) (by omega)
      have HG1 := Lib.hid (Grp.made arT wr k)
      go_wp2_with fail
      have HLW : Hid (w.heap.size + 2 ≤ wr.heap.size) := by have := C.out.1.lt; show _ ≤ _; omega
      have HC3 := Lib.hid (C.out.frm ((Frm.refl (fun _ => False) wr).alloc (.cells (madeCells #[.slice none 0 0] k) 99)) id)
      have HX3 := Lib.hid (X.out.alloc (.cells (madeCells #[.slice none 0 0] k) 99))
      have HF3 := Lib.hid (F.out.alloc (.cells (madeCells #[.slice none 0 0] k) 99))
      have HG3 := Lib.hid (HG1.out.mono (S' := fun b => w.heap.size + 2 ≤ b) fun b _ hb => Nat.le_trans HLW.out hb)
      obtain ⟨ob, hob⟩ : ∃ ob, ob = wr.heap.size := ⟨_, rfl⟩
      obtain ⟨i0, hi0, hz0, hz1, hz2⟩ := info_parts info_ar
      have HMK : Hid (∀ (y : Int) (W : World), 0 ≤ y → y ≤ 300 * k → (Instr.makeSlice 99 (.int .i64 0) (.int .i64 y)).run Try.prog W = .ok (.slice (some ⟨W.heap.size, 0, none⟩) 0 y.toNat) (W.alloc (.cells (madeCells #[.int .i64 0, .int .i64 0] (y.toNat * 2)) 101))) := fun y W h0 h1 => by
        have := run_make (P := Try.prog) W 99 101 i0 (.agg #[.int .i64 0, .int .i64 0]) Try.underlying99 hi0 hz0 .i64 .i64 0 y (Int.le_refl _) h0 (by rw [hz2]; omega) (by omega)
        rw [hz1] at this
        exact this
      have HB300 : Hid (300 * k ≤ 30000000) := show _ ≤ _ by omega
      rw [← hob] at HG3 ⊢
      clear C X F x2 hmk HG1 HC1 HB1 HF1 HB0 HF0 hlt' hlt hk hob hi0 hz0 hz1 hz2
      go_loopg [48] (k + 1) (fun n i wr' => ∃ (j : Nat) (vf : Nat → Value), j ≤ k ∧ n = k + 1 - j ∧ i = .int .i64 (j : Int) ∧ Hid (Grp arT wr' (fun b => w.heap.size + 2 ≤ b) ob k vf (fun _ => 0) (fun _ => [])) ∧ Hid (∀ i, j ≤ i → vf i = .slice none 0 0) ∧ Hid (Cnts wr' (w.heap.size + 1) k (300 * k) cs) ∧ Hid (Blk wr' w.heap.size 25 #[.int .i64 m.letters, .int .i64 m.start, .slice A1 k c1, .slice A2 m.fin.length c2]) ∧ Hid (Frm (fun _ => False) w wr'))
      case atStart => exact ⟨0, _, Nat.zero_le _, rfl, rfl, HG3, fun _ _ => rfl, HC3, HX3, HF3⟩
      case round =>
        clear HG3 HC3 HX3 HF3
        obtain ⟨j, vf, hj, rfl, rfl, G, V, C, X, F⟩ := hrel
        by_cases hlt : j < k
        · have hlt' : (j : Int) < (k : Int) := by omega
          obtain ⟨d0, df, hd0, hd1⟩ := C.out.at_ hlt
          obtain ⟨A4, c4, e4, o4, f4, _, _⟩ := G.out.slot hlt
          have o4' := fun o => ((Frm.refl (fun _ => False) wr).alloc o).cell id o4
          have f4' := fun o => (G.out.out.alloc o).frozen j
          generalize cs.getD j 0 = y at *
          have hmk := HMK.out y wr hd0 (by omega)
          have HD : Hid (0 ≤ y ∧ y ≤ 300 * k) := ⟨hd0, by omega⟩
          clear e4 hd0 hd1
          go_wp2_with fail
          have hv0 := V.out j (Nat.le_refl _)
          have hp := G.out.put hlt (w1 := wr.alloc (.cells (madeCells #[.int .i64 0, .int .i64 0] (y.toNat * 2)) 101)) (v' := .slice (some ⟨wr.heap.size, 0, none⟩) 0 y.toNat) (m := 0) (xs := []) (World.grownBy_alloc _ _ _) (World.ownsRow_made _ _ _ (Nat.zero_le _) (by have := HD.out; have := HB300.out; unfold maxLen; omega) (by simp [arT, madeCells])) (.inr fun g hg => by simp only [Value.ownBlock, Option.some.injEq] at hg; omega)
          have HFS : Hid (Frm (fun _ => False) w ((wr.alloc (.cells (madeCells #[.int .i64 0, .int .i64 0] (y.toNat * 2)) 101)).setCell ⟨ob, j, none⟩ (.slice (some ⟨wr.heap.size, 0, none⟩) 0 y.toNat))) := (F.out.alloc _).set_ (fun h => by have := G.out.so; dsimp only at h this; omega) _
          have HP := Lib.hid hp
          clear hp hmk d0 df o4 f4 o4' f4'
          go_roundg (k + 1 - (j + 1))
          case measure => omega
          case rel =>
            have hob := G.out.so
            have FO : Frm (fun b => b = ob) wr ((wr.alloc (.cells (madeCells #[.int .i64 0, .int .i64 0] (y.toNat * 2)) 101)).setCell ⟨ob, j, none⟩ (.slice (some ⟨wr.heap.size, 0, none⟩) 0 y.toNat)) := Frm.set_ (E := fun b => b = ob) (p := ⟨ob, j, none⟩) ((Frm.refl _ wr).alloc _) (fun _ => rfl) _
            refine ⟨j + 1, updF vf j (.slice (some ⟨wr.heap.size, 0, none⟩) 0 y.toNat), by omega, rfl, by go_num, show Grp _ _ _ _ _ _ _ _ from ?_, show ∀ i, _ from fun i hi => ?_, show Cnts _ _ _ _ _ from C.out.frm FO (by omega), show Blk _ _ _ _ from FO.blk X.out (by omega), HFS⟩
            · exact (HP.out.mono fun b _ hb => by have := F.out.1; have := HLW.out; have := G.out.out.lt; rcases hb with hb | hb <;> omega).congr (fun i hi => by unfold updF; split <;> rfl) (fun i hi => by unfold updF; split <;> rfl)
            · rw [updF_other _ _ (by omega)]; exact V.out i (by omega)
        · have hlt' : ¬ (j : Int) < (k : Int) := by omega
          obtain rfl : j = k := by omega
          have HA0 : Hid (Ars wr (fun b => w.heap.size + 2 ≤ b) ob (List.replicate j [])) := Grp.rws0 G.out
          have HAR : Hid (A.arrive m = A.addRows 0 (m.next.drop 0) (List.replicate j [])) := show _ = _ by rw [HN.out]; rfl
          have HS0 : Hid (A.Short (List.replicate j ([] : List A.Ar)) (300 * 0)) := fun i => by simp only [List.getD_eq_getElem?_getD, List.getElem?_replicate]; split <;> simp
          have x2 := X.out.cell 2
          go_wp2_with fail
          clear G V C hj hlt hlt' HMK x2
          go_loopg [62] (j + 1) (fun n i wr => ∃ (r : Nat) (acc : List (List A.Ar)), r ≤ j ∧ n = j + 1 - r ∧ i = .int .i64 (r : Int) ∧ acc.length = j ∧ Hid (A.arrive m = A.addRows r (m.next.drop r) acc) ∧ Hid (A.Short acc (300 * r)) ∧ Hid (Ars wr (fun b => w.heap.size + 2 ≤ b) ob acc) ∧ Hid (Blk wr w.heap.size 25 #[.int .i64 m.letters, .int .i64 m.start, .slice A1 j c1, .slice A2 m.fin.length c2]) ∧ Hid (Frm (fun _ => False) w wr))
          case atStart => exact ⟨0, _, Nat.zero_le _, rfl, rfl, by simp, HAR, HS0, HA0, X, F⟩
          case round =>
            clear HAR HS0 HA0 X F
            obtain ⟨r, acc, hr, rfl, rfl, hacc, HAR, HS, HA, X, F⟩ := hrel
            by_cases hlt : r < j
            · have hlt' : (r : Int) < (j : Int) := by omega
              have hltm : r < m.next.length := by rw [← HN.out]; exact hlt
              obtain ⟨g, o, A3, c3, hA, hc, hrow⟩ := HM.out.next_at hltm
              subst hA
              have c0 := F.out.cell id hc
              have HIN := Lib.hid (HFI.out.rows _ (List.getElem_mem hltm)).2
              have hrl : (m.next[r]'hltm).length ≤ 300 := by have := (HFI.out.rows _ (List.getElem_mem hltm)).1; omega
              have HROW := Lib.hid hrow
              have HA1 : Hid (A.arrive m = A.addRows (r + 1) (m.next.drop (r + 1)) (A.addAr r ((0 : Nat) : Int) ((m.next[r]'hltm).drop 0) acc)) := show _ = _ by rw [HAR.out, List.drop_eq_getElem_cons hltm]; rfl
              generalize m.next[r]'hltm = row at *
              clear hc hrow hltm HAR
              go_wp2_with fail
              go_loopg [69] (row.length + 1) (fun n i wr => ∃ (q : Nat) (acc : List (List A.Ar)), q ≤ row.length ∧ n = row.length + 1 - q ∧ i = .int .i64 (q : Int) ∧ acc.length = j ∧ Hid (A.arrive m = A.addRows (r + 1) (m.next.drop (r + 1)) (A.addAr r (q : Int) (row.drop q) acc)) ∧ Hid (A.Short acc (300 * r + q)) ∧ Hid (Ars wr (fun b => w.heap.size + 2 ≤ b) ob acc) ∧ Hid (Blk wr w.heap.size 25 #[.int .i64 m.letters, .int .i64 m.start, .slice (some ⟨g, o, none⟩) j c1, .slice A2 m.fin.length c2]) ∧ Hid (Frm (fun _ => False) w wr))
              case atStart => exact ⟨0, _, Nat.zero_le _, rfl, rfl, hacc, HA1, HS, HA, X, F⟩
              case round =>
                clear HA1 HS HA X F c0
                obtain ⟨q, acc, hq, rfl, rfl, hacc, HA1, HS, HA, X, F⟩ := hrel
                by_cases hltq : q < row.length
                · have hltq' : (q : Int) < (row.length : Int) := by omega
                  obtain ⟨g3, o3, hA3, _, hcj⟩ := HROW.out q hltq
                  subst hA3
                  have cq := F.out.cell id hcj
                  have HX := Lib.hid (HIN.out _ (List.getElem_mem hltq))
                  have HA2 : Hid (A.arrive m = A.addRows (r + 1) (m.next.drop (r + 1)) (A.addAr r ((q + 1 : Nat) : Int) (row.drop (q + 1)) (if row[q]'hltq = -1 then acc else acc.set (row[q]'hltq).toNat (acc.getD (row[q]'hltq).toNat [] ++ [((r : Int), (q : Int))])))) := show _ = _ by rw [HA1.out, List.drop_eq_getElem_cons hltq]; rfl
                  generalize row[q]'hltq = x at *
                  obtain ⟨hx1, hx2⟩ := HX.out
                  clear hcj HA1
                  by_cases hx : x = -1
                  · subst hx
                    have HA3 := HA2.out
                    rw [if_pos rfl] at HA3
                    have HA4 := Lib.hid HA3
                    clear HA3
                    go_wp2_with fail
                    go_roundg (row.length + 1 - (q + 1))
                    case measure => omega
                    case rel => exact ⟨q + 1, acc, by omega, rfl, by go_num, hacc, HA4, HS.out.mono (by omega), HA, X, F⟩
                  · have hb : (x != -1) = true := by rw [bne_iff_ne]; exact hx
                    have HA3 := HA2.out
                    rw [if_neg hx] at HA3
                    obtain ⟨t, rfl⟩ : ∃ t : Nat, x = (t : Int) := ⟨x.toNat, by omega⟩
                    rw [Int.toNat_natCast] at HA3
                    have HA4 := Lib.hid HA3
                    clear HA3 HA2
                    have htN : t < acc.length := by rw [hacc, HN.out]; omega
                    have htN' : (t : Int) < (j : Int) := by omega
                    obtain ⟨vf, hG⟩ := HA.out
                    have HG := Lib.hid hG
                    obtain ⟨A4, c4, e4, o4, f4, _, _⟩ := hG.slot htN
                    have HE4 := Lib.hid e4
                    have HOW := hG.own t htN
                    rw [e4] at HOW
                    have HOW' := Lib.hid HOW
                    have hs := HS.out t
                    have HLN : Hid (lnOf acc t ≤ 300 * r + q) := hs
                    generalize hln : lnOf acc t = ln at *
                    obtain ⟨i0, hi0, hz0, hz1, hz2⟩ := info_parts info_ar
                    clear hx hG HOW hs e4
                    go_wp2_with (at_builtin; refine wpList_append_own_at _ rfl _ _ 99 rfl 0 101 i0 (.agg #[.int .i64 0, .int .i64 0]) 2 16 Try.underlying99 hi0 hz0 hz1 hz2 rfl (by decide) _ _ _ rfl (HOW'.out.alloc _) ⟨wr.heap.size, 0, none⟩ 1 1 [.int .i64 (r : Int), .int .i64 (q : Int)] rfl rfl ?y1 ?y2 ?y3 ?y4 ?y5 ?_)
                    case y1 => exact cell_two_at rfl
                    case y2 => simp [Value.oneCell']
                    case y3 => have := HLN.out; have := HB300.out; unfold maxLen; omega
                    case y4 => have := HLN.out; have := HB300.out; omega
                    case y5 => exact Nat.zero_le _
                    intro v' w1 hown1 hgrow _ hat
                    obtain ⟨A9, c9, rfl⟩ := own_form hown1
                    have hall : wr.grownBy w1 (vf t).ownBlock := by rw [HE4.out]; exact (World.grownBy_alloc wr _ _).trans hgrow
                    have hloc : (Value.slice A9 (ln + 1) c9).ownBlock = (vf t).ownBlock ∨ ∀ g, (Value.slice A9 (ln + 1) c9).ownBlock = some g → wr.heap.size ≤ g := by
                      rw [HE4.out]
                      exact hat.imp id fun h g hg => by rw [h] at hg; simp at hg; omega
                    have hadd := HG.out.add htN ((r : Int), (q : Int)) hall (by rw [hln]; exact hown1) hloc
                    have HFS : Hid (Frm (fun _ => False) w (w1.setCell ⟨ob, t, none⟩ (.slice A9 (ln + 1) c9))) := Frm.mono (E := fun b => w.heap.size + 2 ≤ b) ((F.out.mono fun _ _ h => h.elim).trans (HG.out.put_frm htN hall)) fun b hb h => by omega
                    have HX1 : Hid (Blk (w1.setCell ⟨ob, t, none⟩ (.slice A9 (ln + 1) c9)) w.heap.size 25 #[.int .i64 m.letters, .int .i64 m.start, .slice (some ⟨g, o, none⟩) j c1, .slice A2 m.fin.length c2]) := (HG.out.put_frm htN hall).blk X.out (by omega)
                    have HA5 : Hid (Ars (w1.setCell ⟨ob, t, none⟩ (.slice A9 (ln + 1) c9)) (fun b => w.heap.size + 2 ≤ b) ob (acc.set t (acc.getD t [] ++ [((r : Int), (q : Int))]))) := hadd.mono fun b _ hb => by have := HG.out.out.lt; have := HG.out.so; have := X.out.lt; rcases hb with hb | hb <;> omega
                    have o5 : w1.frozen? ⟨ob, t, none⟩ = false := (HG.out.out.grown hall fun e => (HG.out.lie t htN ob e.symm).2 rfl).frozen t
                    have c5 := (HG.out.out.grown hall fun e => (HG.out.lie t htN ob e.symm).2 rfl).cell t
                    rw [cellsOf_get _ htN, HE4.out] at c5
                    clear hadd hall hloc hat hgrow hown1 hi0 hz0 hz1 hz2 o4 f4
                    go_wp2_with fail
                    go_roundg (row.length + 1 - (q + 1))
                    case measure => omega
                    case rel => exact ⟨q + 1, _, by omega, rfl, by go_num, by rw [List.length_set]; exact hacc, HA4, (HS.out.add t _).mono (by omega), HA5, HX1, HFS⟩
                · have hltq' : ¬ (q : Int) < (row.length : Int) := by omega
                  obtain rfl : q = row.length := by omega
                  have HA2 := HA1.out
                  rw [List.drop_length] at HA2
                  have HA3 := Lib.hid HA2
                  clear HA2
                  go_wp2_with fail
                  go_roundg (j + 1 - (r + 1))
                  case measure => omega
                  case rel => exact ⟨r + 1, acc, by omega, rfl, by go_num, hacc, HA3, HS.out.mono (by omega), HA, X, F⟩
            · have hlt' : ¬ (r : Int) < (j : Int) := by omega
              obtain rfl : r = j := by omega
              have HA2 := HAR.out
              rw [List.drop_of_length_le (by rw [HN.out]; exact Nat.le_refl _)] at HA2
              have HA3 : Hid (A.arrive m = acc) := HA2
              clear HA2
              go_wp2_with fail
              go_ret
              refine ⟨ob, rfl, ?_, F.out⟩
              rw [HA3.out]
              exact Rws.mono HA.out fun b _ h => by omega
end Go.Proofs.Ytmoniecknimmdaa
end
section
namespace Go.Proofs.Ytmoniecknimmdaa
open Go.RowKit
def boolCs (l : List Bool) : Array Value := (l.map fun x => Value.bool x).toArray
theorem boolCs_made (n : Nat) : madeCells #[.bool false] n = boolCs (List.replicate n false) := by
  apply Array.toList_inj.1
  rw [toList_madeCells_one]
  simp [boolCs]
theorem boolCs_getD {l : List Bool} {i : Nat} (hi : i < l.length) : (boolCs l)[i]? = some (.bool (l.getD i false)) := by simp [boolCs, hi]
theorem boolCs_set (l : List Bool) (i : Nat) (x : Bool) : (boolCs l).setIfInBounds i (.bool x) = boolCs (l.set i x) := by
  apply Array.toList_inj.1
  simp [boolCs]
theorem info_boolE : (Try.prog.info? 4).map (fun i => (i.zero, i.size, i.bytes)) = some (some (.bool false), 1, 1) := by kernel_rfl
/-- A row of ints of one's own. -/
def OwnInts (w : World) (base : Nat) (v : Value) (l : List Int) : Prop := w.ownsRow base 3 1 v l.length (l.map fun x => Value.int .i64 x)
theorem OwnInts.at_ {w : World} {base c : Nat} {A0 : Option Addr} {l : List Int} (h : OwnInts w base (.slice A0 l.length c) l) {k : Nat} (hk : k < l.length) : ∃ g, A0 = some ⟨g, 0, none⟩ ∧ base ≤ g ∧ w.cell? ⟨g, k, none⟩ = some (.int .i64 (l.getD k 0)) := by
  rcases h.2 with ⟨_, hn⟩ | ⟨g, cap, cur, e, hb, _⟩
  · omega
  · injection e with e1 e2 e3
    subst e1
    have hc := @World.ownsRow.cells _ _ _ _ _ _ _ h g rfl k (.int .i64 (l.getD k 0)) (by simp [hk])
    rw [add_zero_off] at hc
    exact ⟨g, rfl, hb, hc⟩
theorem OwnInts.frm {E : Nat → Prop} {w w' : World} {base : Nat} {v : Value} {l : List Int} (h : OwnInts w base v l) (F : Frm E w w') (hE : ∀ g, base ≤ g → ¬ E g) : OwnInts w' base v l := F.row h (fun g hg => hE g (own_ge h g hg)) (Nat.le_refl _)
theorem arC_get {acc : List (List A.Ar)} {q j : Nat} (hj : j < (acc.getD q []).length) : (cfOf arC acc q)[j * 2]? = some (.int .i64 ((acc.getD q [])[j]'hj).1) ∧ (cfOf arC acc q)[j * 2 + 1]? = some (.int .i64 ((acc.getD q [])[j]'hj).2) := by
  have key : ∀ (l : List A.Ar) (j : Nat) (hj : j < l.length), (l.flatMap arC)[j * 2]? = some (.int .i64 l[j].1) ∧ (l.flatMap arC)[j * 2 + 1]? = some (.int .i64 l[j].2) := by
    intro l
    induction l with
    | nil => intro j hj; simp at hj
    | cons a l ih =>
      intro j hj
      rw [List.flatMap_cons]
      cases j with
      | zero => exact ⟨rfl, rfl⟩
      | succ j =>
        have := ih j (by simpa using hj)
        have e : (j + 1) * 2 = (arC a).length + j * 2 := by simp [arC]; omega
        rw [List.getElem?_append_right (by rw [e]; omega), List.getElem?_append_right (by rw [e]; omega), e, Nat.add_sub_cancel_left, show (arC a).length + j * 2 + 1 - (arC a).length = j * 2 + 1 by omega]
        exact this
  exact key _ j hj
theorem cell_one_at {w : World} {u : Value} {e : TypeId} {n : Nat} (hn : w.heap.size = n) : ∀ (j : Nat) (z : Value), [u][j]? = some z → (w.alloc (.cells #[u] e)).cell? ((⟨n, 0, none⟩ : Addr).add j) = some z := by
  subst hn
  intro j z hz
  rw [add_zero_off, (Blk.new w e #[u]).cell j]
  simpa using hz
theorem Frm.one {w : World} (g i : Nat) (u : Value) : Frm (fun b => b = g) w (w.setCell ⟨g, i, none⟩ u) := Frm.set_ (E := fun b => b = g) (p := ⟨g, i, none⟩) (Frm.refl _ w) (fun _ => rfl) u
theorem OwnInts.grown {w1 : World} {base n : Nat} {v' : Value} {l : List Int} {x : Int} (hn : n = l.length) (h : w1.ownsRow base 3 1 v' (n + 1) (l.map (fun x => Value.int .i64 x) ++ [.int .i64 x])) : OwnInts w1 base v' (l ++ [x]) := by
  subst hn
  unfold OwnInts
  rw [List.length_append, List.map_append]
  exact h
namespace A
def boolTo (l : List Bool) (k : Nat) : List Bool := l.take k ++ List.replicate (l.length - k) false
theorem boolTo_len (l : List Bool) {k : Nat} (hk : k ≤ l.length) : (boolTo l k).length = l.length := by simp [boolTo]; omega
theorem boolTo_set (l : List Bool) {k : Nat} (hk : k < l.length) : (boolTo l k).set k l[k] = boolTo l (k + 1) := by
  unfold boolTo
  rw [List.set_append_right _ _ (by simp; omega), List.take_succ_eq_append_getElem hk]
  have e : k - (l.take k).length = 0 := by simp; omega
  rw [e, show l.length - k = (l.length - (k + 1)) + 1 by omega, List.replicate_succ, List.set_cons_zero, List.append_assoc]
  rfl
theorem boolTo_skip (l : List Bool) {k : Nat} (hk : k < l.length) (h : l[k] = false) : boolTo l k = boolTo l (k + 1) := by
  unfold boolTo
  rw [List.take_succ_eq_append_getElem hk, h, show l.length - k = (l.length - (k + 1)) + 1 by omega, List.replicate_succ, List.append_assoc]
  rfl
theorem boolTo_end (l : List Bool) : boolTo l l.length = l := by simp [boolTo]
def trues (l : List Bool) : Nat → List Int
  | 0 => []
  | k + 1 => if l.getD k false then trues l k ++ [(k : Int)] else trues l k
theorem trues_len (l : List Bool) : ∀ k, (trues l k).length ≤ k
  | 0 => Nat.le_refl _
  | k + 1 => by
    have := trues_len l k
    unfold trues
    split
    · simp; omega
    · omega
theorem trues_in (l : List Bool) : ∀ k, ∀ x ∈ trues l k, 0 ≤ x ∧ x < k
  | 0, x, h => by simp [trues] at h
  | k + 1, x, h => by
    unfold trues at h
    split at h
    · rw [List.mem_append, List.mem_singleton] at h
      rcases h with h | h
      · have := trues_in l k x h; omega
      · omega
    · have := trues_in l k x h; omega
def reach1 (s : List Bool × List Int) (a : Ar) : List Bool × List Int := if s.1.getD a.1.toNat false then s else (s.1.set a.1.toNat true, s.2 ++ [a.1])
def livO (into : List (List Ar)) : Nat → Nat → List Bool → List Int → Option (List Bool)
  | f, at_, al, kn => if h : at_ < kn.length then (match f with
    | 0 => none
    | n + 1 => livO into n (at_ + 1) ((into.getD kn[at_].toNat []).foldl reach1 (al, kn)).1 ((into.getD kn[at_].toNat []).foldl reach1 (al, kn)).2) else some al
/-- All ways come from states. -/
def FromIn (acc : List (List Ar)) (n : Nat) : Prop := ∀ q, ∀ a ∈ acc.getD q [], 0 ≤ a.1 ∧ a.1 < n
end A
set_option maxRecDepth 100000 in
set_option maxHeartbeats 4000000 in
theorem living_any {w : World} {P S : Nat → Prop} {v : Value} {m : A.Mac} {ob f : Nat} {acc : List (List A.Ar)} {al : List Bool} (h : MachAt w P v m) (hf : A.Fits m) (hn : m.next.length ≤ 100000) (hin : Ars w S ob acc) (hacc : acc.length = m.next.length) (hs : A.Short acc 30000000) (hfr : A.FromIn acc m.next.length) (hl : A.livO acc f 0 m.fin (A.trues m.fin m.next.length) = some al) (hfl : f ≤ 100000) :
    Calls Try.prog 42 #[v, .slice (some ⟨ob, 0, none⟩) m.next.length m.next.length] w fun e w' => ∃ ga, e = .returned (.slice (some ⟨ga, 0, none⟩) m.next.length m.next.length) ∧ w.heap.size ≤ ga ∧ Blk w' ga 4 (boolCs al) ∧ al.length = m.next.length ∧ Frm (fun _ => False) w w' := by
  obtain ⟨A1, c1, A2, c2, rfl⟩ := h.form
  obtain ⟨N, hN⟩ : ∃ N, N = m.next.length := ⟨_, rfl⟩
  have hNf : N = m.fin.length := by rw [hN]; exact hf.fin
  have HB0 : Hid (Blk (w.alloc (.cells #[.int .i64 m.letters, .int .i64 m.start, .slice A1 m.next.length c1, .slice A2 m.fin.length c2] 25)) w.heap.size 25 #[.int .i64 m.letters, .int .i64 m.start, .slice A1 m.next.length c1, .slice A2 m.fin.length c2]) := Blk.new w _ _
  have HF0 : Hid (Frm (fun _ => False) w (w.alloc (.cells #[.int .i64 m.letters, .int .i64 m.start, .slice A1 m.next.length c1, .slice A2 m.fin.length c2] 25))) := (Frm.refl _ w).alloc _
  have HM := Lib.hid h
  have HFI := Lib.hid hf
  have HIN := Lib.hid hin
  have HFR := Lib.hid hfr
  have HS := Lib.hid hs
  have HL := Lib.hid hl
  rw [← hNf, ← hN] at HB0 HF0
  rw [← hN] at hn hacc HL HFR ⊢
  have HN := Lib.hid hN
  have HNF := Lib.hid hNf
  clear h hf hN hNf hin hs hfr hl
  have hmk := run_make_row' (P := Try.prog) 23 4 (.bool false) 1 Try.underlying23 info_boolE rfl .i64 .i64 N (by omega) (by omega)
  have x2 := HB0.out.cell 2
  rw [← HNF.out]
  go_enter Try.func42, Try.ntmps42
  go_wp2_with fail
  have HA1 : Hid (Blk ((w.alloc (.cells #[.int .i64 m.letters, .int .i64 m.start, .slice A1 N c1, .slice A2 N c2] 25)).alloc (.cells (madeCells #[.bool false] N) 4)) (w.heap.size + 1) 4 (boolCs (A.boolTo m.fin 0))) := by
    have e : A.boolTo m.fin 0 = List.replicate N false := by unfold A.boolTo; rw [← HNF.out]; simp
    rw [e, ← boolCs_made]
    exact blk_at (by simp)
  have HF1 := Lib.hid (HF0.out.alloc (.cells (madeCells #[.bool false] N) 4))
  have HLW : Hid (w.heap.size + 2 ≤ ((w.alloc (.cells #[.int .i64 m.letters, .int .i64 m.start, .slice A1 N c1, .slice A2 N c2] 25)).alloc (.cells (madeCells #[.bool false] N) 4)).heap.size) := by show _ ≤ _; simp
  generalize (w.alloc (.cells #[.int .i64 m.letters, .int .i64 m.start, .slice A1 N c1, .slice A2 N c2] 25)).alloc (.cells (madeCells #[.bool false] N) 4) = W1 at HA1 HF1 HLW ⊢
  clear hmk x2 HB0 HF0
  obtain ⟨i0, hi0, hz0, hz1, hz2⟩ := info_parts info_int
  go_loopg [6, 19] (N + 1) (fun n u i wr => ∃ k : Nat, k ≤ N ∧ n = N + 1 - k ∧ i = .int .i64 (k : Int) ∧ Hid (OwnInts wr (w.heap.size + 2) u (A.trues m.fin k)) ∧ Hid (Blk wr (w.heap.size + 1) 4 (boolCs (A.boolTo m.fin k))) ∧ Hid (Frm (fun _ => False) w wr) ∧ Hid (w.heap.size + 2 ≤ wr.heap.size))
  case atStart => exact ⟨0, Nat.zero_le _, rfl, rfl, World.ownsRow_nil _ _ _ _, HA1, HF1, HLW⟩
  case round =>
    clear HA1 HF1 HLW
    obtain ⟨k, hk, rfl, rfl, HO, HA, HF, HLW⟩ := hrel
    by_cases hlt : k < N
    · have hlt' : (k : Int) < (N : Int) := by omega
      have hltf : k < m.fin.length := by rw [← HNF.out]; exact hlt
      obtain ⟨g, o, hA, hc⟩ := HM.out.fin_at hltf
      subst hA
      have c0 := HF.out.cell id hc
      have hget : m.fin.getD k false = m.fin[k]'hltf := by simp [hltf]
      have HT : Hid (A.trues m.fin (k + 1) = if m.fin[k]'hltf then A.trues m.fin k ++ [(k : Int)] else A.trues m.fin k) := show _ = _ by rw [← hget]; rfl
      have HK : Hid ((A.boolTo m.fin k).set k (m.fin[k]'hltf) = A.boolTo m.fin (k + 1)) := A.boolTo_set m.fin hltf
      have HK0 : Hid (m.fin[k]'hltf = false → A.boolTo m.fin k = A.boolTo m.fin (k + 1)) := A.boolTo_skip m.fin hltf
      have y0 := (HA.out.cell k).trans (boolCs_getD (by rw [A.boolTo_len m.fin (Nat.le_of_lt hltf)]; exact hltf))
      have yf := HA.out.frozen k
      have HTL := Lib.hid (A.trues_len m.fin k)
      generalize (A.boolTo m.fin k).getD k false = y at y0
      generalize m.fin[k]'hltf = b at *
      obtain ⟨A6, c6, rfl⟩ := own_form HO.out
      clear hc hget
      cases b with
      | false =>
        have HO2 : Hid (OwnInts wr (w.heap.size + 2) (.slice A6 (A.trues m.fin k).length c6) (A.trues m.fin (k + 1))) := by
          have e := HT.out; simp only [Bool.false_eq_true, if_false] at e; rw [e]; exact HO.out
        have HA2 : Hid (Blk wr (w.heap.size + 1) 4 (boolCs (A.boolTo m.fin (k + 1)))) := by rw [← HK0.out rfl]; exact HA.out
        go_wp2_with fail
        go_roundg (N + 1 - (k + 1))
        case measure => omega
        case rel => exact ⟨k + 1, by omega, rfl, by go_num, HO2, HA2, HF, HLW⟩
      | true =>
        have HA2 : Hid (Blk (wr.setCell ⟨w.heap.size + 1, k, none⟩ (.bool true)) (w.heap.size + 1) 4 (boolCs (A.boolTo m.fin (k + 1)))) := by rw [← HK.out, ← boolCs_set]; exact HA.out.set_ k _
        have HFS : Hid (Frm (fun _ => False) w (wr.setCell ⟨w.heap.size + 1, k, none⟩ (.bool true))) := HF.out.set_ (fun h => by dsimp only at h; omega) _
        have HO2 : Hid (OwnInts (wr.setCell ⟨w.heap.size + 1, k, none⟩ (.bool true)) (w.heap.size + 2) (.slice A6 (A.trues m.fin k).length c6) (A.trues m.fin k)) := HO.out.frm (E := fun b => b = w.heap.size + 1) (Frm.one _ _ _) fun g hg => by omega
        have HLW2 : Hid (w.heap.size + 2 ≤ (wr.setCell ⟨w.heap.size + 1, k, none⟩ (.bool true)).heap.size) := by show _ ≤ _; simpa using HLW.out
        go_wp2_with (at_builtin; refine wpList_append_own _ rfl _ _ 35 rfl (w.heap.size + 2) 3 i0 (.int .i64 0) 1 8 Try.underlying35 hi0 hz0 hz1 hz2 rfl (by decide) _ _ _ rfl (HO2.out.alloc _) ⟨wr.heap.size, 0, none⟩ 1 1 [.int .i64 (k : Int)] rfl rfl ?y1 ?y2 ?y3 ?y4 ?y5 ?_)
        case y2 => simp [Value.oneCell']
        case y3 => have := HTL.out; unfold maxLen; omega
        case y4 => have := HTL.out; omega
        case y5 => have := HLW2.out; simp at this ⊢; omega
        intro v' w1 hown1 hgrow _
        obtain ⟨A9, c9, rfl⟩ := own_form hown1
        have HF1 : Hid (Frm (fun _ => False) w w1) := (HFS.out.alloc _).grown hgrow fun g hg _ => by have := own_ge HO2.out g hg.symm.symm; omega
        have HO3 : Hid (OwnInts w1 (w.heap.size + 2) (.slice A9 ((A.trues m.fin k).length + 1) c9) (A.trues m.fin (k + 1))) := by
          have e := HT.out
          simp only [if_true] at e
          rw [e]
          exact OwnInts.grown rfl hown1
        have HA3 : Hid (Blk w1 (w.heap.size + 1) 4 (boolCs (A.boolTo m.fin (k + 1)))) := (HA2.out.alloc _).grown hgrow fun e => by have := own_ge HO2.out _ e.symm; omega
        have HLW3 : Hid (w.heap.size + 2 ≤ w1.heap.size) := Nat.le_trans (by have h := HLW2.out; simp at h ⊢; omega) hgrow.size
        clear hown1 hgrow HO2 HFS HA2 HLW2 yf y0 c0
        go_wp2_with fail
        go_roundg (N + 1 - (k + 1))
        case measure => omega
        case rel => exact ⟨k + 1, by omega, rfl, by go_num, HO3, HA3, HF1, HLW3⟩
    · have hlt' : ¬ (k : Int) < (N : Int) := by omega
      obtain rfl : k = N := by omega
      have HA1 : Hid (Blk wr (w.heap.size + 1) 4 (boolCs m.fin)) := by
        have h := HA.out
        rw [HNF.out, A.boolTo_end] at h
        exact h
      have HKB : Hid (∀ x ∈ A.trues m.fin k, 0 ≤ x ∧ x < k) := A.trues_in m.fin k
      have htl := A.trues_len m.fin k
      generalize A.trues m.fin k = kn0 at *
      clear HA hk hlt hlt'
      go_wp2_with fail
      go_loopg [6, 9] f (fun n u i wr => ∃ (at_ : Nat) (av : List Bool) (kn : List Int), i = .int .i64 (at_ : Int) ∧ kn.length + 30000000 * n ≤ k + 30000000 * f ∧ av.length = k ∧ Hid (A.livO acc n at_ av kn = some al) ∧ Hid (∀ x ∈ kn, 0 ≤ x ∧ x < k) ∧ Hid (OwnInts wr (w.heap.size + 2) u kn) ∧ Hid (Blk wr (w.heap.size + 1) 4 (boolCs av)) ∧ Hid (Frm (fun _ => False) w wr) ∧ Hid (w.heap.size + 2 ≤ wr.heap.size))
      case atStart => exact ⟨0, m.fin, kn0, rfl, by omega, HNF.out.symm, HL, HKB, HO, HA1, HF, HLW⟩
      case round =>
        clear HL HKB HO HA1 HF HLW htl
        obtain ⟨at_, av, kn, rfl, hkn, hav, HL, HKB, HO, HA, HF, HLW⟩ := hrel
        obtain ⟨A6, c6, rfl⟩ := own_form HO.out
        have hl := HL.out
        unfold A.livO at hl
        by_cases hlt : at_ < kn.length
        · have hlt' : (at_ : Int) < (kn.length : Int) := by omega
          rw [dif_pos hlt] at hl
          cases gk with
          | zero => cases hl
          | succ n =>
          dsimp only at hl
          obtain ⟨g6, rfl, hg6, d0⟩ := OwnInts.at_ (l := kn) HO.out hlt
          have hkb := HKB.out _ (List.getElem_mem hlt)
          have hge : kn.getD at_ 0 = kn[at_]'hlt := by simp [hlt]
          rw [← hge] at hkb hl
          generalize kn.getD at_ 0 = x at *
          obtain ⟨q, rfl⟩ : ∃ q : Nat, x = (q : Int) := ⟨x.toNat, by omega⟩
          rw [Int.toNat_natCast] at hl
          have hq : q < acc.length := by omega
          have hq' : (q : Int) < (k : Int) := hkb.2
          obtain ⟨vf, hG⟩ := HIN.out
          obtain ⟨A7, c7, e7, o7, f7, n7, _⟩ := hG.slot hq
          have o7' := HF.out.cell id o7
          have HQ : Hid (∀ a ∈ acc.getD q [], 0 ≤ a.1 ∧ a.1 < k) := HFR.out q
          have HGC : Hid (∀ j (hj : j < (acc.getD q []).length), ∃ g, A7 = some ⟨g, 0, none⟩ ∧ w.cell? ⟨g, j * 2, none⟩ = some (.int .i64 ((acc.getD q [])[j]'hj).1) ∧ w.cell? ⟨g, j * 2 + 1, none⟩ = some (.int .i64 ((acc.getD q [])[j]'hj).2)) := fun j hj => by
            obtain ⟨g, rfl⟩ := n7 (Nat.lt_of_le_of_lt (Nat.zero_le _) hj)
            obtain ⟨h1, h2⟩ := arC_get hj
            exact ⟨g, rfl, (hG.cell hq e7 h1).1, (hG.cell hq e7 h2).1⟩
          have hln : lnOf acc q = (acc.getD q []).length := rfl
          have HSQ : Hid ((acc.getD q []).length ≤ 30000000) := HS.out q
          rw [hln] at o7'
          have hl0 : A.livO acc n (at_ + 1) (((acc.getD q []).drop 0).foldl A.reach1 (av, kn)).1 (((acc.getD q []).drop 0).foldl A.reach1 (av, kn)).2 = some al := hl
          generalize acc.getD q [] = ws at *
          have HL0 := Lib.hid hl0
          have hwl := HSQ.out
          clear hl hl0 hG o7 f7 e7 n7 hln hge HL
          go_wp2_with fail
          go_loopg [6, 47] (ws.length + 1) (fun nn u i wr => ∃ (j : Nat) (av : List Bool) (kn' : List Int), j ≤ ws.length ∧ nn = ws.length + 1 - j ∧ i = .int .i64 (j : Int) ∧ kn'.length ≤ kn.length + j ∧ av.length = k ∧ Hid (A.livO acc n (at_ + 1) ((ws.drop j).foldl A.reach1 (av, kn')).1 ((ws.drop j).foldl A.reach1 (av, kn')).2 = some al) ∧ Hid (∀ x ∈ kn', 0 ≤ x ∧ x < k) ∧ Hid (OwnInts wr (w.heap.size + 2) u kn') ∧ Hid (Blk wr (w.heap.size + 1) 4 (boolCs av)) ∧ Hid (Frm (fun _ => False) w wr) ∧ Hid (w.heap.size + 2 ≤ wr.heap.size))
          case atStart => exact ⟨0, av, kn, Nat.zero_le _, rfl, rfl, Nat.le_refl _, hav, HL0, HKB, HO, HA, HF, HLW⟩
          case round =>
            clear HL0 HKB HO HA HF HLW hav
            obtain ⟨j, av, kn', hj, rfl, rfl, hkl, hav, HL, HKB, HO, HA, HF, HLW⟩ := hrel
            obtain ⟨A6', c6', rfl⟩ := own_form HO.out
            by_cases hltj : j < ws.length
            · have hltj' : (j : Int) < (ws.length : Int) := by omega
              obtain ⟨g, rfl, e0, e1⟩ := HGC.out j hltj
              have e0' := HF.out.cell id e0
              have e1' := HF.out.cell id e1
              have hqa := HQ.out _ (List.getElem_mem hltj)
              have hl := HL.out
              rw [List.drop_eq_getElem_cons hltj, List.foldl_cons] at hl
              generalize ws[j]'hltj = a at *
              obtain ⟨a1, a2⟩ := a
              dsimp only at hqa e0' e1' hl e0 e1
              obtain ⟨t, rfl⟩ : ∃ t : Nat, a1 = (t : Int) := ⟨a1.toNat, by omega⟩
              have htk : t < av.length := by omega
              have htk' : (t : Int) < (k : Int) := hqa.2
              have hr : A.reach1 (av, kn') ((t : Int), a2) = if av.getD t false then (av, kn') else (av.set t true, kn' ++ [(t : Int)]) := rfl
              rw [hr] at hl
              have y0 := (HA.out.cell t).trans (boolCs_getD htk)
              have yf := HA.out.frozen t
              have y0' := fun o => ((Frm.refl (fun _ => False) wr).alloc o).cell id y0
              have yf' := fun o => (HA.out.alloc o).frozen t
              generalize av.getD t false = b at *
              have HL2 := Lib.hid hl
              clear hl hr e0 e1 HL
              have hkn' : kn'.length ≤ 100000 + 30000000 * 100000 + 30000000 := by have := HSQ.out; omega
              cases b with
              | true =>
                have HL3 : Hid (A.livO acc n (at_ + 1) ((ws.drop (j + 1)).foldl A.reach1 (av, kn')).1 ((ws.drop (j + 1)).foldl A.reach1 (av, kn')).2 = some al) := by
                  have h := HL2.out
                  simp only [if_true] at h
                  exact h
                have HFA := Lib.hid (HF.out.alloc (.cells #[.int .i64 (t : Int), .int .i64 a2] 101))
                have HAA := Lib.hid (HA.out.alloc (.cells #[.int .i64 (t : Int), .int .i64 a2] 101))
                have HOA := Lib.hid (HO.out.alloc (.cells #[.int .i64 (t : Int), .int .i64 a2] 101))
                have HLA : Hid (w.heap.size + 2 ≤ (wr.alloc (.cells #[.int .i64 (t : Int), .int .i64 a2] 101)).heap.size) := Nat.le_trans HLW.out (by simp)
                go_wp2_with fail
                go_roundg (ws.length + 1 - (j + 1))
                case measure => omega
                case rel => exact ⟨j + 1, av, kn', by omega, rfl, by go_num, by omega, hav, HL3, HKB, HOA, HAA, HFA, HLA⟩
              | false =>
                have HL3 : Hid (A.livO acc n (at_ + 1) ((ws.drop (j + 1)).foldl A.reach1 (av.set t true, kn' ++ [(t : Int)])).1 ((ws.drop (j + 1)).foldl A.reach1 (av.set t true, kn' ++ [(t : Int)])).2 = some al) := by
                  have h := HL2.out
                  simp only [Bool.false_eq_true, if_false] at h
                  exact h
                have HKB2 : Hid (∀ x ∈ kn' ++ [(t : Int)], 0 ≤ x ∧ x < k) := fun x hx => by
                  rw [List.mem_append, List.mem_singleton] at hx
                  rcases hx with hx | hx
                  · exact HKB.out x hx
                  · omega
                have FW : Frm (fun b => b = w.heap.size + 1) wr ((wr.alloc (.cells #[.int .i64 (t : Int), .int .i64 a2] 101)).setCell ⟨w.heap.size + 1, t, none⟩ (.bool true)) := Frm.set_ (E := fun b => b = w.heap.size + 1) (p := ⟨w.heap.size + 1, t, none⟩) ((Frm.refl _ wr).alloc _) (fun _ => rfl) _
                have HA2 : Hid (Blk ((wr.alloc (.cells #[.int .i64 (t : Int), .int .i64 a2] 101)).setCell ⟨w.heap.size + 1, t, none⟩ (.bool true)) (w.heap.size + 1) 4 (boolCs (av.set t true))) := by rw [← boolCs_set]; exact (HA.out.alloc _).set_ t _
                have HFS : Hid (Frm (fun _ => False) w ((wr.alloc (.cells #[.int .i64 (t : Int), .int .i64 a2] 101)).setCell ⟨w.heap.size + 1, t, none⟩ (.bool true))) := Frm.mono (E := fun b => b = w.heap.size + 1) ((HF.out.mono fun _ _ h => h.elim).trans FW) fun b hb h => by omega
                have HO2 : Hid (OwnInts ((wr.alloc (.cells #[.int .i64 (t : Int), .int .i64 a2] 101)).setCell ⟨w.heap.size + 1, t, none⟩ (.bool true)) (w.heap.size + 2) (.slice A6' kn'.length c6') kn') := HO.out.frm FW fun g hg => by omega
                have HLW2 : Hid (w.heap.size + 2 ≤ ((wr.alloc (.cells #[.int .i64 (t : Int), .int .i64 a2] 101)).setCell ⟨w.heap.size + 1, t, none⟩ (.bool true)).heap.size) := Nat.le_trans HLW.out FW.1
                have q0 := ((Blk.new wr 101 #[.int .i64 (t : Int), .int .i64 a2]).far (p := ⟨w.heap.size + 1, t, none⟩) (by have := HLW.out; dsimp only; omega) (.bool true)).cell 0
                have HKN := Lib.hid hkn'
                have HKL := Lib.hid hkl
                have HFLX := Lib.hid hfl
                have HNX := Lib.hid hn
                clear FW hkn' hkl hkn hfl hn
                go_wp2_with (at_builtin; refine wpList_append_own _ rfl _ _ 35 rfl (w.heap.size + 2) 3 i0 (.int .i64 0) 1 8 Try.underlying35 hi0 hz0 hz1 hz2 rfl (by decide) _ _ _ rfl (HO2.out.alloc _) ⟨wr.heap.size + 1, 0, none⟩ 1 1 [.int .i64 (t : Int)] rfl rfl ?z1 ?z2 ?z3 ?z4 ?z5 ?_)
                case z1 => exact cell_one_at (by simp)
                case z2 => simp [Value.oneCell']
                case z3 => have := HKN.out; unfold maxLen; omega
                case z4 => have := HKN.out; omega
                case z5 => have := HLW2.out; simp at this ⊢; omega
                intro v' w1 hown1 hgrow _
                obtain ⟨A9, c9, rfl⟩ := own_form hown1
                have HF1 : Hid (Frm (fun _ => False) w w1) := (HFS.out.alloc _).grown hgrow fun g hg _ => by have := own_ge HO2.out g hg.symm.symm; omega
                have HO3 : Hid (OwnInts w1 (w.heap.size + 2) (.slice A9 (kn'.length + 1) c9) (kn' ++ [(t : Int)])) := OwnInts.grown rfl hown1
                have HA3 : Hid (Blk w1 (w.heap.size + 1) 4 (boolCs (av.set t true))) := (HA2.out.alloc _).grown hgrow fun e => by have := own_ge HO2.out _ e.symm; omega
                have HLW3 : Hid (w.heap.size + 2 ≤ w1.heap.size) := Nat.le_trans (by have h := HLW2.out; simp at h ⊢; omega) hgrow.size
                clear hown1 hgrow HO2 HFS HA2 HLW2 yf y0 y0' yf' q0
                go_wp2_with fail
                go_roundg (ws.length + 1 - (j + 1))
                case measure => omega
                case rel => exact ⟨j + 1, _, _, by omega, rfl, by go_num, by have := HKL.out; simp only [List.length_append, List.length_cons, List.length_nil]; omega, by rw [List.length_set]; exact hav, HL3, HKB2, HO3, HA3, HF1, HLW3⟩
            · have hltj' : ¬ (j : Int) < (ws.length : Int) := by omega
              have hl := HL.out
              rw [List.drop_of_length_le (by omega)] at hl
              have HL2 : Hid (A.livO acc n (at_ + 1) av kn' = some al) := hl
              have HSW := HSQ.out
              clear hl
              go_wp2_with fail
              go_roundg n
              case measure => omega
              case rel => exact ⟨at_ + 1, av, kn', by go_num, by omega, hav, HL2, HKB, HO, HA, HF, HLW⟩
        · have hlt' : ¬ (at_ : Int) < (kn.length : Int) := by omega
          rw [dif_neg hlt] at hl
          obtain rfl : av = al := by simpa using hl
          have HAV := Lib.hid hav
          clear hl hav
          go_wp2_with fail
          go_ret
          exact ⟨_, rfl, by omega, HA.out, HAV.out, HF.out⟩
end Go.Proofs.Ytmoniecknimmdaa
end
section
namespace Go.Proofs.Ytmoniecknimmdaa
open Go.RowKit
namespace A
structure Pd where
  row : List Int
  place : List Int
  cls : List Int
  beg : List Int
  fin : List Int
  mkd : List Int
def Pd.f (d : Pd) : Nat → List Int
  | 0 => d.row
  | 1 => d.place
  | 2 => d.cls
  | 3 => d.beg
  | 4 => d.fin
  | 5 => d.mkd
  | _ => []
def Pd.upd (d : Pd) (i : Nat) (l : List Int) : Pd := match i with
  | 0 => { d with row := l }
  | 1 => { d with place := l }
  | 2 => { d with cls := l }
  | 3 => { d with beg := l }
  | 4 => { d with fin := l }
  | 5 => { d with mkd := l }
  | _ => d
theorem Pd.f_upd (d : Pd) {i : Nat} (hi : i < 6) (l : List Int) : (d.upd i l).f = updF d.f i l := by
  funext k
  match i, hi with
  | 0, _ => match k with | 0 | 1 | 2 | 3 | 4 | 5 | _ + 6 => rfl
  | 1, _ => match k with | 0 | 1 | 2 | 3 | 4 | 5 | _ + 6 => rfl
  | 2, _ => match k with | 0 | 1 | 2 | 3 | 4 | 5 | _ + 6 => rfl
  | 3, _ => match k with | 0 | 1 | 2 | 3 | 4 | 5 | _ + 6 => rfl
  | 4, _ => match k with | 0 | 1 | 2 | 3 | 4 | 5 | _ + 6 => rfl
  | 5, _ => match k with | 0 | 1 | 2 | 3 | 4 | 5 | _ + 6 => rfl
end A
def ptT : GT := ⟨78, 3, 1⟩
/-- The partition d in the block pb, its slices vf; all lie in S. -/
def PtV (w : World) (S : Nat → Prop) (pb : Nat) (vf : Nat → Value) (d : A.Pd) : Prop := Grp ptT w S pb 6 vf (fun i => (d.f i).length) (fun i => (d.f i).map (Value.int .i64))
def Pt (w : World) (S : Nat → Prop) (pb : Nat) (d : A.Pd) : Prop := ∃ vf, PtV w S pb vf d
section
variable {w w' : World} {S S' E : Nat → Prop} {pb : Nat} {vf : Nat → Value} {d : A.Pd}
theorem PtV.slot (h : PtV w S pb vf d) {i : Nat} (hi : i < 6) : ∃ A0 c, vf i = .slice A0 (d.f i).length c ∧ w.cell? ⟨pb, i, none⟩ = some (.slice A0 (d.f i).length c) ∧ w.frozen? ⟨pb, i, none⟩ = false ∧ (d.f i).length ≤ c := by
  obtain ⟨A0, c, e, h1, h2, _, h4⟩ := Grp.slot h hi
  exact ⟨A0, c, e, h1, h2, h4⟩
theorem PtV.at_ (h : PtV w S pb vf d) {i j : Nat} (hi : i < 6) (hj : j < (d.f i).length) : ∃ g c, vf i = .slice (some ⟨g, 0, none⟩) (d.f i).length c ∧ w.cell? ⟨pb, i, none⟩ = some (.slice (some ⟨g, 0, none⟩) (d.f i).length c) ∧ w.frozen? ⟨pb, i, none⟩ = false ∧ w.cell? ⟨g, j, none⟩ = some (.int .i64 ((d.f i).getD j 0)) ∧ w.frozen? ⟨g, j, none⟩ = false ∧ S g ∧ g ≠ pb ∧ g < w.heap.size := by
  obtain ⟨A0, c, e, h1, h2, h3, _⟩ := Grp.slot h hi
  obtain ⟨g, rfl⟩ := h3 (Nat.lt_of_le_of_lt (Nat.zero_le _) hj)
  obtain ⟨k1, k2, k3, k4, k5⟩ := Grp.cell h hi e (j := j) (u := .int .i64 ((d.f i).getD j 0)) (by simp [hj])
  exact ⟨g, c, e, h1, h2, k1, k2, k3, k4, k5⟩
/-- A cell of a row whose slice is known. -/
theorem PtV.get (h : PtV w S pb vf d) {i j g c n : Nat} (hi : i < 6) (e : vf i = .slice (some ⟨g, 0, none⟩) n c) (hj : j < (d.f i).length) : w.cell? ⟨g, j, none⟩ = some (.int .i64 ((d.f i).getD j 0)) ∧ w.frozen? ⟨g, j, none⟩ = false := by
  obtain ⟨A0, c', e', _⟩ := h.slot hi
  have hn : n = (d.f i).length := by rw [e'] at e; injection e with _ e2 _; exact e2.symm
  subst hn
  obtain ⟨k1, k2, _⟩ := Grp.cell h hi e (j := j) (u := .int .i64 ((d.f i).getD j 0)) (by simp [hj])
  exact ⟨k1, k2⟩
theorem PtV.slot_at (h : PtV w S pb vf d) {i g c n : Nat} (hi : i < 6) (e : vf i = .slice (some ⟨g, 0, none⟩) n c) : w.cell? ⟨pb, i, none⟩ = some (.slice (some ⟨g, 0, none⟩) n c) ∧ w.frozen? ⟨pb, i, none⟩ = false := by
  obtain ⟨A0, c', e', h1, h2, _⟩ := h.slot hi
  rw [← e', e] at h1
  exact ⟨h1, h2⟩
theorem PtV.set_ (h : PtV w S pb vf d) {i j g c n : Nat} (hi : i < 6) (e : vf i = .slice (some ⟨g, 0, none⟩) n c) (hj : j < (d.f i).length) (u : Int) : PtV (w.setCell ⟨g, j, none⟩ (.int .i64 u)) S pb vf (d.upd i ((d.f i).set j u)) := by
  obtain ⟨A0, c', e', _⟩ := h.slot hi
  have hn : n = (d.f i).length := by rw [e'] at e; injection e with _ e2 _; exact e2.symm
  subst hn
  have := Grp.store h hi e (j := j) (by rw [List.length_map]; exact hj) (.int .i64 u)
  unfold PtV
  rw [A.Pd.f_upd d hi]
  refine this.congr (fun k _ => ?_) (fun k _ => ?_)
  · unfold updF; split
    · rename_i e; subst e; rw [List.length_set]
    · rfl
  · unfold updF; split
    · rename_i e; subst e; rw [List.map_set]
    · rfl
theorem PtV.set_frm (h : PtV w S pb vf d) {i g c n : Nat} (hi : i < 6) (e : vf i = .slice (some ⟨g, 0, none⟩) n c) (j : Nat) (u : Int) : Frm S w (w.setCell ⟨g, j, none⟩ (.int .i64 u)) :=
  (Frm.refl S w).set_ (fun _ => (Grp.lie h i hi g (by rw [e]; rfl)).1) _
theorem PtV.ne (h : PtV w S pb vf d) {i j g g' c c' n n' : Nat} (hi : i < 6) (hj : j < 6) (hne : i ≠ j) (e : vf i = .slice (some ⟨g, 0, none⟩) n c) (e' : vf j = .slice (some ⟨g', 0, none⟩) n' c') : g ≠ g' := fun h2 => Grp.dis h i j hi hj hne g (by rw [e]; rfl) (by rw [e', h2]; rfl)
theorem PtV.drew (h : PtV w S pb vf d) : PtV w.drew S pb vf d := Grp.drew h
theorem PtV.drewN (h : PtV w S pb vf d) (n : Nat) : PtV (w.drewN n) S pb vf d := ⟨(Grp.out h).drewN n, Grp.so h, Grp.own (w := w) h, Grp.lie h, Grp.dis h⟩
theorem Pt.frm (h : Pt w S pb d) (F : Frm E w w') (hE : ∀ b, b < w.heap.size → S b → ¬ E b) : Pt w' S pb d := by
  obtain ⟨vf, h⟩ := h
  exact ⟨vf, Grp.frm h F hE⟩
theorem PtV.frm (h : PtV w S pb vf d) (F : Frm E w w') (hE : ∀ b, b < w.heap.size → S b → ¬ E b) : PtV w' S pb vf d := Grp.frm h F hE
theorem Pt.mono (h : Pt w S pb d) (hS : ∀ b, b < w.heap.size → S b → S' b) : Pt w S' pb d := by
  obtain ⟨vf, h⟩ := h
  exact ⟨vf, Grp.mono h hS⟩
theorem PtV.lt (h : PtV w S pb vf d) : pb < w.heap.size := Grp.out h |>.lt
end
set_option maxRecDepth 100000 in
set_option maxHeartbeats 4000000 in
theorem one_any {w : World} {S : Nat → Prop} {pb : Nat} {d : A.Pd} {k b : Nat} (h : Pt w S pb d) (h1 : k < d.beg.length) (h2 : d.beg.getD k 0 = (b : Int)) (h3 : b < d.row.length) :
    Calls Try.prog 46 #[.pointer (some ⟨pb, 0, none⟩), .int .i64 k] w fun e w' => e = .returned (.int .i64 (d.row.getD b 0)) ∧ Frm (fun _ => False) w w' := by
  obtain ⟨vf, h⟩ := h
  obtain ⟨g3, c3, e3, o3, f3, k3, l3, _⟩ := h.at_ (i := 3) (j := k) (by decide) h1
  obtain ⟨g0, c0, e0, o0, f0, k0, l0, _⟩ := h.at_ (i := 0) (j := b) (by decide) h3
  have hk' : (k : Int) < ((d.f 3).length : Int) := by have : k < (d.f 3).length := h1; omega
  have hb' : (b : Int) < ((d.f 0).length : Int) := by have : b < (d.f 0).length := h3; omega
  rw [show (d.f 3).getD k 0 = (b : Int) from h2] at k3
  have HX : Hid ((d.f 0).getD b 0 = d.row.getD b 0) := rfl
  generalize (d.f 0).getD b 0 = x at *
  generalize (d.f 0).length = n0 at *
  generalize (d.f 3).length = n3 at *
  rw [← HX.out]
  clear h1 h2 h3 h e0 e3
  go_enter Try.func46, Try.ntmps46
  go_wp2_with fail
  go_quiet (fail)
  go_wp2_with fail
  go_ret
  exact ⟨rfl, (Frm.refl _ w).drewN nq⟩
namespace A
/-- What marking the state st does: its class c, its place fr, the class's begin b, its m marked ones, the state ot at the place b + m. -/
def Pd.marked (d : Pd) (st c fr b m ot : Nat) : Pd :=
  let d1 : Pd := { d with row := d.row.set fr (ot : Int), place := d.place.set ot (fr : Int) }
  let d2 : Pd := { d1 with row := d1.row.set (b + m) (st : Int), place := d1.place.set st ((b : Int) + (m : Int)) }
  { d2 with mkd := d2.mkd.set c ((m : Int) + 1) }
/-- The numbers that marking meets. -/
structure Mk (d : Pd) (st c fr b m ot : Nat) : Prop where
  h1 : st < d.cls.length
  h2 : d.cls.getD st 0 = (c : Int)
  h3 : st < d.place.length
  h4 : d.place.getD st 0 = (fr : Int)
  h5 : c < d.beg.length
  h6 : d.beg.getD c 0 = (b : Int)
  h7 : c < d.mkd.length
  h8 : d.mkd.getD c 0 = (m : Int)
  h9 : b + m < d.row.length
  h10 : d.row.getD (b + m) 0 = (ot : Int)
  h11 : fr < d.row.length
  h12 : ot < d.place.length
  h13 : d.row.length ≤ 1000000000
end A
set_option maxRecDepth 100000 in
set_option maxHeartbeats 4000000 in
theorem mark_any {w : World} {S : Nat → Prop} {pb : Nat} {d : A.Pd} {st c fr b m ot : Nat} (h : Pt w S pb d) (hm : A.Mk d st c fr b m ot) :
    Calls Try.prog 74 #[.pointer (some ⟨pb, 0, none⟩), .int .i64 st] w fun e w' => e = .returned (.bool (decide (m = 0))) ∧ Pt w' S pb (d.marked st c fr b m ot) ∧ Frm S w w' := by
  obtain ⟨vf, h⟩ := h
  obtain ⟨h1, h2, h3, h4, h5, h6, h7, h8, h9, h10, h11, h12, h13⟩ := hm
  obtain ⟨g2, c2, e2, o2, f2, k2, l2, _⟩ := h.at_ (i := 2) (j := st) (by decide) h1
  obtain ⟨g1, c1, e1, o1, f1, k1, l1, _⟩ := h.at_ (i := 1) (j := st) (by decide) h3
  obtain ⟨g3, c3, e3, o3, f3, k3, l3, _⟩ := h.at_ (i := 3) (j := c) (by decide) h5
  obtain ⟨g5, c5, e5, o5, f5, k5, l5, _⟩ := h.at_ (i := 5) (j := c) (by decide) h7
  obtain ⟨g0, c0, e0, o0, f0, k0, l0, _⟩ := h.at_ (i := 0) (j := b + m) (by decide) h9
  obtain ⟨_, y0⟩ := h.get (i := 0) (j := fr) (by decide) e0 h11
  obtain ⟨_, y1⟩ := h.get (i := 1) (j := ot) (by decide) e1 h12
  rw [show (d.f 2).getD st 0 = (c : Int) from h2] at k2
  rw [show (d.f 1).getD st 0 = (fr : Int) from h4] at k1
  rw [show (d.f 3).getD c 0 = (b : Int) from h6] at k3
  rw [show (d.f 5).getD c 0 = (m : Int) from h8] at k5
  rw [show (d.f 0).getD (b + m) 0 = (ot : Int) from h10] at k0
  have n01 := h.ne (i := 0) (j := 1) (by decide) (by decide) (by decide) e0 e1
  have n05 := h.ne (i := 0) (j := 5) (by decide) (by decide) (by decide) e0 e5
  have n15 := h.ne (i := 1) (j := 5) (by decide) (by decide) (by decide) e1 e5
  have np0 : pb ≠ g0 := fun e => (Grp.lie h 0 (by decide) g0 (by rw [e0]; rfl)).2 e.symm
  have np1 : pb ≠ g1 := fun e => (Grp.lie h 1 (by decide) g1 (by rw [e1]; rfl)).2 e.symm
  have np5 : pb ≠ g5 := fun e => (Grp.lie h 5 (by decide) g5 (by rw [e5]; rfl)).2 e.symm
  obtain ⟨N0, hN0⟩ : ∃ N0, N0 = (d.f 0).length := ⟨_, rfl⟩
  obtain ⟨N1, hN1⟩ : ∃ N1, N1 = (d.f 1).length := ⟨_, rfl⟩
  obtain ⟨N2, hN2⟩ : ∃ N2, N2 = (d.f 2).length := ⟨_, rfl⟩
  obtain ⟨N3, hN3⟩ : ∃ N3, N3 = (d.f 3).length := ⟨_, rfl⟩
  obtain ⟨N5, hN5⟩ : ∃ N5, N5 = (d.f 5).length := ⟨_, rfl⟩
  have b1 : (st : Int) < (N2 : Int) := by rw [hN2]; have : st < (d.f 2).length := h1; omega
  have b2 : (st : Int) < (N1 : Int) := by rw [hN1]; have : st < (d.f 1).length := h3; omega
  have b3 : (c : Int) < (N3 : Int) := by rw [hN3]; have : c < (d.f 3).length := h5; omega
  have b4 : (c : Int) < (N5 : Int) := by rw [hN5]; have : c < (d.f 5).length := h7; omega
  have b5 : (b : Int) + (m : Int) < (N0 : Int) := by rw [hN0]; have : b + m < (d.f 0).length := h9; omega
  have b6 : (fr : Int) < (N0 : Int) := by rw [hN0]; have : fr < (d.f 0).length := h11; omega
  have b7 : (ot : Int) < (N1 : Int) := by rw [hN1]; have : ot < (d.f 1).length := h12; omega
  have b8 : (N0 : Int) ≤ 1000000000 := by rw [hN0]; have : (d.f 0).length ≤ 1000000000 := h13; omega
  rw [← hN0] at o0 e0
  rw [← hN1] at o1 e1
  rw [← hN2] at o2 e2
  rw [← hN3] at o3 e3
  rw [← hN5] at o5 e5
  have HP := Lib.hid h
  have HE0 := Lib.hid e0
  have HE1 := Lib.hid e1
  have HE5 := Lib.hid e5
  have H9 := Lib.hid h9
  have H11 := Lib.hid h11
  have H12 := Lib.hid h12
  have H3 := Lib.hid h3
  have H7 := Lib.hid h7
  have H8 := Lib.hid h8
  clear h1 h2 h3 h4 h5 h6 h7 h8 h9 h10 h11 h12 h13 e0 e1 e2 e3 e5 h hN0 hN1 hN2 hN3 hN5
  go_enter Try.func74, Try.ntmps74
  go_wp2_with fail
  go_quiet (fail)
  go_wp2_with fail
  go_region
  have P1 : PtV (((w.drewN (nq + 1)).setCell ⟨g0, fr, none⟩ (.int .i64 (ot : Int))).setCell ⟨g1, ot, none⟩ (.int .i64 (fr : Int))) S pb vf _ := ((HP.out.drewN (nq + 1)).set_ (i := 0) (by decide) HE0.out H11.out ot).set_ (i := 1) (by decide) HE1.out H12.out fr
  have F1 : Frm S w (((w.drewN (nq + 1)).setCell ⟨g0, fr, none⟩ (.int .i64 (ot : Int))).setCell ⟨g1, ot, none⟩ (.int .i64 (fr : Int))) := (((Frm.refl S w).drewN (nq + 1)).trans ((HP.out.drewN (nq + 1)).set_frm (i := 0) (by decide) HE0.out fr ot)).trans (((HP.out.drewN (nq + 1)).set_ (i := 0) (by decide) HE0.out H11.out ot).set_frm (i := 1) (by decide) HE1.out ot fr)
  generalize ((w.drewN (nq + 1)).setCell ⟨g0, fr, none⟩ (.int .i64 (ot : Int))).setCell ⟨g1, ot, none⟩ (.int .i64 (fr : Int)) = W1 at P1 F1 ⊢
  have HP1 := Lib.hid P1
  have HF1 := Lib.hid F1
  have l9 : b + m < ((d.row.set fr (ot : Int))).length := by rw [List.length_set]; exact H9.out
  have l3 : st < ((d.place.set ot (fr : Int))).length := by rw [List.length_set]; exact H3.out
  have HL9 := Lib.hid l9
  have HL3 := Lib.hid l3
  clear k0 k1 k2 k3 k5 o0 o1 o2 o3 o5 f0 f1 f2 f3 f5 y0 y1 l0 l1 l2 l5
  obtain ⟨o0, f0⟩ := P1.slot_at (i := 0) (by decide) HE0.out
  obtain ⟨o1, f1⟩ := P1.slot_at (i := 1) (by decide) HE1.out
  obtain ⟨_, y0⟩ := P1.get (i := 0) (j := b + m) (by decide) HE0.out l9
  obtain ⟨_, y1⟩ := P1.get (i := 1) (j := st) (by decide) HE1.out l3
  have b0 : (0 : Int) ≤ (b : Int) + (m : Int) := by omega
  clear P1 F1 l9 l3
  go_wp2_with fail
  go_region
  have P2 : PtV ((W1.setCell ⟨g0, b + m, none⟩ (.int .i64 (st : Int))).setCell ⟨g1, st, none⟩ (.int .i64 ((b : Int) + (m : Int)))).drew S pb vf _ := ((HP1.out.set_ (i := 0) (by decide) HE0.out HL9.out st).set_ (i := 1) (by decide) HE1.out HL3.out ((b : Int) + (m : Int))).drew
  have F2 : Frm S w ((W1.setCell ⟨g0, b + m, none⟩ (.int .i64 (st : Int))).setCell ⟨g1, st, none⟩ (.int .i64 ((b : Int) + (m : Int)))).drew := ((HF1.out.trans (HP1.out.set_frm (i := 0) (by decide) HE0.out (b + m) st)).trans ((HP1.out.set_ (i := 0) (by decide) HE0.out HL9.out st).set_frm (i := 1) (by decide) HE1.out st ((b : Int) + (m : Int)))).drew
  generalize ((W1.setCell ⟨g0, b + m, none⟩ (.int .i64 (st : Int))).setCell ⟨g1, st, none⟩ (.int .i64 ((b : Int) + (m : Int)))).drew = W2 at P2 F2 ⊢
  clear o0 o1 f0 f1 y0 y1
  have HP2 := Lib.hid P2
  have HF2 := Lib.hid F2
  obtain ⟨o5, f5⟩ := P2.slot_at (i := 5) (by decide) HE5.out
  obtain ⟨k5, l5⟩ := P2.get (i := 5) (j := c) (by decide) HE5.out H7.out
  have e5 : W2.cell? ⟨g5, c, none⟩ = some (.int .i64 (m : Int)) := by rw [k5]; exact congrArg (fun x => some (Value.int .i64 x)) H8.out
  have HP3 := Lib.hid (P2.set_ (i := 5) (j := c) (by decide) HE5.out H7.out ((m : Int) + 1))
  have HF3 := Lib.hid (F2.trans (P2.set_frm (i := 5) (by decide) HE5.out c ((m : Int) + 1)))
  have b9 : (m : Int) ≤ 1000000000 := by omega
  clear P2 F2 k5
  go_wp2_with fail
  go_ret
  refine ⟨ret_bool ?_, ⟨vf, HP3.out⟩, HF3.out⟩
  have : ((m : Int) + 1 = 1) ↔ m = 0 := by omega
  by_cases hm : m = 0 <;> simp [hm] <;> omega
end Go.Proofs.Ytmoniecknimmdaa
end
section
namespace Go.Proofs.Ytmoniecknimmdaa
open Go.RowKit
section
variable {w : World} {S : Nat → Prop} {pb : Nat} {vf : Nat → Value} {d : A.Pd}
theorem PtV.push (h : PtV w S pb vf d) {i : Nat} (hi : i < 6) {w1 : World} {v' : Value} {x : Int} (hg : w.grownBy w1 (vf i).ownBlock) (ho : w1.ownsRow 0 3 1 v' ((d.f i).length + 1) ((d.f i).map (Value.int .i64) ++ [.int .i64 x])) (hl : v'.ownBlock = (vf i).ownBlock ∨ ∀ g, v'.ownBlock = some g → w.heap.size ≤ g) : PtV (w1.setCell ⟨pb, i, none⟩ v') (fun b => S b ∨ w.heap.size ≤ b) pb (updF vf i v') (d.upd i (d.f i ++ [x])) := by
  have := Grp.put h hi hg ho hl
  unfold PtV
  rw [A.Pd.f_upd d hi]
  refine this.congr (fun k _ => ?_) (fun k _ => ?_)
  · unfold updF; split
    · rw [List.length_append]; rfl
    · rfl
  · unfold updF; split
    · rw [List.map_append]; rfl
    · rfl
theorem PtV.app (h : PtV w S pb vf d) {i : Nat} (hi : i < 6) {o : Obj} {w1 : World} {v' : Value} {x : Int} {A0 : Option Addr} {n c : Nat} (e : vf i = .slice A0 n c) (ho : w1.ownsRow 0 3 1 v' (n + 1) ((d.f i).map (Value.int .i64) ++ [.int .i64 x])) (hg : (w.alloc o).grownBy w1 (Value.slice A0 n c).ownBlock) {m : Nat} (hl : v'.ownBlock = (Value.slice A0 n c).ownBlock ∨ v'.ownBlock = some m) (hm : w.heap.size ≤ m) :
    PtV (w1.setCell ⟨pb, i, none⟩ v') (fun b => S b ∨ w.heap.size ≤ b) pb (updF vf i v') (d.upd i (d.f i ++ [x])) ∧ Frm S w (w1.setCell ⟨pb, i, none⟩ v') ∧ w1.cell? ⟨pb, i, none⟩ = some (.slice A0 n c) ∧ w1.frozen? ⟨pb, i, none⟩ = false := by
  obtain ⟨A1, c', e', _⟩ := h.slot hi
  have hn : n = (d.f i).length := by rw [e'] at e; injection e with _ e2 _; exact e2.symm
  subst hn
  have hall : w.grownBy w1 (vf i).ownBlock := by rw [e]; exact (World.grownBy_alloc w _ _).trans hg
  have hb : Blk w1 pb ptT.oty (cellsOf 6 vf) := (Grp.out h).grown hall fun e2 => (Grp.lie h i hi pb e2.symm).2 rfl
  refine ⟨h.push hi hall ho ?_, Grp.put_frm h hi hall, ?_, hb.frozen i⟩
  · rw [e]
    exact hl.imp id fun h g hg => by rw [h] at hg; simp only [Option.some.injEq] at hg; omega
  · rw [hb.cell i, cellsOf_get vf hi, e]
end
namespace A
/-- The classes when the first k states of the part are in the class n. -/
def clsTo (row : List Int) (b n k : Nat) (cls : List Int) : List Int := (List.range k).foldl (fun c i => c.set (row.getD (b + i) 0).toNat (n : Int)) cls
theorem clsTo_succ (row : List Int) (b n k : Nat) (cls : List Int) : clsTo row b n (k + 1) cls = (clsTo row b n k cls).set (row.getD (b + k) 0).toNat (n : Int) := by
  unfold clsTo; rw [List.range_succ, List.foldl_append]; rfl
theorem clsTo_len (row : List Int) (b n k : Nat) (cls : List Int) : (clsTo row b n k cls).length = cls.length := by
  induction k with
  | zero => rfl
  | succ k ih => rw [clsTo_succ, List.length_set, ih]
def Pd.added (d : Pd) (b e : Nat) : Pd := { d with cls := clsTo d.row b d.beg.length (e - b) d.cls, beg := d.beg ++ [(b : Int)], fin := d.fin ++ [(e : Int)], mkd := d.mkd ++ [0] }
structure Ad (d : Pd) (b e : Nat) : Prop where
  h1 : b < e
  h2 : e ≤ d.row.length
  h3 : ∀ i, b ≤ i → i < e → 0 ≤ d.row.getD i 0 ∧ d.row.getD i 0 < d.cls.length
  h4 : d.row.length ≤ 1000000000
  h5 : d.beg.length ≤ 1000000000
  h6 : d.fin.length ≤ 1000000000
  h7 : d.mkd.length ≤ 1000000000
end A
set_option maxRecDepth 100000 in
set_option maxHeartbeats 4000000 in
theorem add_any {w : World} {S : Nat → Prop} {pb : Nat} {d : A.Pd} {b e : Nat} (h : Pt w S pb d) (hm : A.Ad d b e) :
    Calls Try.prog 73 #[.pointer (some ⟨pb, 0, none⟩), .int .i64 b, .int .i64 e] w fun r w' => r = .returned (.tuple #[]) ∧ Pt w' (fun x => S x ∨ w.heap.size ≤ x) pb (d.added b e) ∧ Frm S w w' := by
  obtain ⟨vf, h⟩ := h
  obtain ⟨h1, h2, h3, h4, h5, h6, h7⟩ := hm
  obtain ⟨g0, c0, e0, o0, f0, k0, l0, _⟩ := h.at_ (i := 0) (j := b) (by decide) (show b < d.row.length by omega)
  obtain ⟨_, _, e0', -, -, hc0⟩ := h.slot (i := 0) (by decide)
  rw [e0] at e0'
  injection e0' with q1 _ q3
  subst q1 q3
  obtain ⟨N0, hN0⟩ : ∃ N0, N0 = (d.f 0).length := ⟨_, rfl⟩
  obtain ⟨N3, hN3⟩ : ∃ N3, N3 = (d.f 3).length := ⟨_, rfl⟩
  have b1 : (b : Int) ≤ (e : Int) := by omega
  have b2 : (e : Int) ≤ (c0 : Int) := by have : e ≤ (d.f 0).length := h2; omega
  have b3 : (b : Int) < (c0 : Int) := by omega
  have b4 : (0 : Int) < (e : Int) - (b : Int) := by omega
  have b5 : e - b ≤ 1000000000 := by omega
  rw [← hN0] at o0 e0
  have HP := Lib.hid h
  have HE0 := Lib.hid e0
  have H2 := Lib.hid h2
  have H3 := Lib.hid h3
  have H5 := Lib.hid h5
  have H6 := Lib.hid h6
  have H7 := Lib.hid h7
  have HN0 := Lib.hid hN0
  have HN3 := Lib.hid hN3
  have H1 := Lib.hid h1
  clear h2 h3 h4 h5 h6 h7 k0 l0 e0 h hc0 hN0 hN3
  go_enter Try.func73, Try.ntmps73
  go_wp2_with fail
  clear o0 f0
  go_loopg [16] (e - b + 1) (fun n i wr => ∃ k : Nat, k ≤ e - b ∧ n = e - b + 1 - k ∧ i = .int .i64 (k : Int) ∧ Hid (PtV wr S pb vf (d.upd 2 (A.clsTo d.row b d.beg.length k d.cls))) ∧ Hid (Frm S w wr))
  case atStart => exact ⟨0, Nat.zero_le _, rfl, rfl, HP, Frm.refl _ _⟩
  case round =>
    obtain ⟨k, hk, rfl, rfl, HQ, HF⟩ := hrel
    by_cases hlt : k < e - b
    · have hlt' : (k : Int) < ((e - b : Nat) : Int) := by omega
      have hb0 : b + k < d.row.length := by have := H2.out; omega
      obtain ⟨q1, q2⟩ := H3.out (b + k) (by omega) (by omega)
      obtain ⟨k0, l0⟩ := HQ.out.get (i := 0) (j := b + k) (by decide) HE0.out hb0
      have hrw : ((d.upd 2 (A.clsTo d.row b d.beg.length k d.cls)).f 0).getD (b + k) 0 = d.row.getD (b + k) 0 := rfl
      rw [hrw] at k0
      have HS : Hid (A.clsTo d.row b d.beg.length (k + 1) d.cls = (A.clsTo d.row b d.beg.length k d.cls).set (d.row.getD (b + k) 0).toNat (d.beg.length : Int)) := A.clsTo_succ _ _ _ _ _
      generalize d.row.getD (b + k) 0 = x at *
      obtain ⟨t, rfl⟩ : ∃ t : Nat, x = (t : Int) := ⟨x.toNat, by omega⟩
      have ht : t < (A.clsTo d.row b d.beg.length k d.cls).length := by rw [A.clsTo_len]; omega
      obtain ⟨g2, c2, e2, o2, f2, k2, l2, _⟩ := HQ.out.at_ (i := 2) (j := t) (by decide) ht
      obtain ⟨A3, c3, e3, o3, f3, _⟩ := HQ.out.slot (i := 3) (by decide)
      have h3l : ((d.upd 2 (A.clsTo d.row b d.beg.length k d.cls)).f 3).length = d.beg.length := rfl
      rw [h3l] at o3
      have HQ2 := Lib.hid (HQ.out.drew.set_ (i := 2) (j := t) (by decide) e2 ht (d.beg.length : Int))
      have HF2 := Lib.hid (HF.out.drew.trans (HQ.out.drew.set_frm (i := 2) (by decide) e2 t (d.beg.length : Int)))
      have ht' : (t : Int) < (((d.upd 2 (A.clsTo d.row b d.beg.length k d.cls)).f 2).length : Int) := by
        have h : ((d.upd 2 (A.clsTo d.row b d.beg.length k d.cls)).f 2).length = (A.clsTo d.row b d.beg.length k d.cls).length := rfl
        rw [h]; omega
      generalize ((d.upd 2 (A.clsTo d.row b d.beg.length k d.cls)).f 2).getD t 0 = z at k2
      clear hrw e2 e3 h3l ht
      generalize ((d.upd 2 (A.clsTo d.row b d.beg.length k d.cls)).f 2).length = N2 at *
      go_wp2_with fail
      go_region
      go_wp2_with fail
      go_roundg (e - b + 1 - (k + 1))
      case measure => omega
      case rel => exact ⟨k + 1, by omega, rfl, by go_num, by rw [HS.out]; first | exact HQ2 | exact HQ2.out.drew, by first | exact HF2 | exact HF2.out.drew⟩
    · have hlt' : ¬ (k : Int) < ((e - b : Nat) : Int) := by omega
      obtain rfl : k = e - b := by omega
      obtain ⟨A3, c3, e3, o3, f3, _⟩ := HQ.out.slot (i := 3) (by decide)
      have HL3 : Hid (((d.upd 2 (A.clsTo d.row b d.beg.length (e - b) d.cls)).f 3).length = d.beg.length) := rfl
      have hO3 := Grp.own HQ.out 3 (by decide)
      rw [e3] at hO3
      rw [HL3.out] at o3 hO3 e3
      have HO3 := Lib.hid hO3
      have HE3 := Lib.hid e3
      obtain ⟨i0, hi0, hz0, hz1, hz2⟩ := info_parts info_int
      clear hO3 e3
      go_wp2_with (at_builtin; refine wpList_append_own_at _ rfl _ _ 35 rfl 0 3 i0 (.int .i64 0) 1 8 Try.underlying35 hi0 hz0 hz1 hz2 rfl (by decide) _ _ _ rfl (HO3.out.alloc _) ⟨wr.heap.size, 0, none⟩ 1 1 [.int .i64 (b : Int)] rfl rfl ?y1 ?y2 ?y3 ?y4 ?y5 ?_)
      case y2 => simp [Value.oneCell']
      case y3 => have := H5.out; unfold maxLen; omega
      case y4 => have := H5.out; omega
      intro v' w1 hown1 hgrow _ hat
      obtain ⟨A9, c9, rfl⟩ := own_form hown1
      obtain ⟨Q1, F1, p1, r1⟩ := HQ.out.app (i := 3) (by decide) HE3.out hown1 hgrow hat (by simp)
      have HQ1 : Hid (PtV _ (fun x => S x ∨ w.heap.size ≤ x) pb _ _) := Grp.mono Q1 fun b _ hb => by have := HF.out.1; rcases hb with hb | hb; exact .inl hb; exact .inr (by omega)
      have HF1 := Lib.hid (HF.out.trans F1)
      obtain ⟨A4, c4, e4, o4, f4, _⟩ := HQ1.out.slot (i := 4) (by decide)
      have HL4 : Hid ((((d.upd 2 (A.clsTo d.row b d.beg.length (e - b) d.cls)).upd 3 ((d.upd 2 (A.clsTo d.row b d.beg.length (e - b) d.cls)).f 3 ++ [(b : Int)])).f 4).length = d.fin.length) := rfl
      have hO4 := Grp.own HQ1.out 4 (by decide)
      rw [e4] at hO4
      rw [HL4.out] at o4 hO4 e4
      have HO4 := Lib.hid hO4
      have HE4 := Lib.hid e4
      clear Q1 F1 hown1 hgrow hat hO4 e4
      go_wp2_with (at_builtin; refine wpList_append_own_at _ rfl _ _ 35 rfl 0 3 i0 (.int .i64 0) 1 8 Try.underlying35 hi0 hz0 hz1 hz2 rfl (by decide) _ _ _ rfl (HO4.out.alloc _) ⟨w1.heap.size, 0, none⟩ 1 1 [.int .i64 (e : Int)] rfl rfl ?z1 ?z2 ?z3 ?z4 ?z5 ?_)
      case z1 => exact cell_one_at (by simp)
      case z2 => simp [Value.oneCell']
      case z3 => have := H6.out; unfold maxLen; omega
      case z4 => have := H6.out; omega
      case z5 => exact Nat.zero_le _
      intro v' w2 hown1 hgrow _ hat
      obtain ⟨A10, c10, rfl⟩ := own_form hown1
      obtain ⟨Q2, F2, p2, r2⟩ := HQ1.out.app (i := 4) (by decide) HE4.out hown1 hgrow hat (by simp)
      have HQ2 : Hid (PtV _ (fun x => S x ∨ w.heap.size ≤ x) pb _ _) := Grp.mono Q2 fun b _ hb => by have := HF1.out.1; rcases hb with hb | hb; exact hb; exact .inr (by omega)
      have HF2 : Hid (Frm S w _) := Frm.mono (E := fun x => S x ∨ w.heap.size ≤ x) ((HF1.out.mono fun _ _ h => .inl h).trans F2) fun b hb h => h.resolve_right (by omega)
      obtain ⟨A5, c5, e5, o5, f5, _⟩ := HQ2.out.slot (i := 5) (by decide)
      have HL5 : Hid (((((d.upd 2 (A.clsTo d.row b d.beg.length (e - b) d.cls)).upd 3 ((d.upd 2 (A.clsTo d.row b d.beg.length (e - b) d.cls)).f 3 ++ [(b : Int)])).upd 4 (((d.upd 2 (A.clsTo d.row b d.beg.length (e - b) d.cls)).upd 3 ((d.upd 2 (A.clsTo d.row b d.beg.length (e - b) d.cls)).f 3 ++ [(b : Int)])).f 4 ++ [(e : Int)])).f 5).length = d.mkd.length) := rfl
      have hO5 := Grp.own HQ2.out 5 (by decide)
      rw [e5] at hO5
      rw [HL5.out] at o5 hO5 e5
      have HO5 := Lib.hid hO5
      have HE5 := Lib.hid e5
      clear Q2 F2 hown1 hgrow hat hO5 e5 o4 f4 p1 r1
      go_wp2_with (at_builtin; refine wpList_append_own_at _ rfl _ _ 35 rfl 0 3 i0 (.int .i64 0) 1 8 Try.underlying35 hi0 hz0 hz1 hz2 rfl (by decide) _ _ _ rfl (HO5.out.alloc _) ⟨w2.heap.size, 0, none⟩ 1 1 [.int .i64 0] rfl rfl ?x1 ?x2 ?x3 ?x4 ?x5 ?_)
      case x1 => exact cell_one_at (by simp)
      case x2 => simp [Value.oneCell']
      case x3 => have := H7.out; unfold maxLen; omega
      case x4 => have := H7.out; omega
      case x5 => exact Nat.zero_le _
      intro v' w3 hown1 hgrow _ hat
      obtain ⟨A11, c11, rfl⟩ := own_form hown1
      obtain ⟨Q3, F3, p3, r3⟩ := HQ2.out.app (i := 5) (by decide) HE5.out hown1 hgrow hat (by simp)
      have HQ3 : Hid (PtV _ (fun x => S x ∨ w.heap.size ≤ x) pb _ _) := Grp.mono Q3 fun b _ hb => by have := HF2.out.1; rcases hb with hb | hb; exact hb; exact .inr (by omega)
      have HF3 : Hid (Frm S w _) := Frm.mono (E := fun x => S x ∨ w.heap.size ≤ x) ((HF2.out.mono fun _ _ h => .inl h).trans F3) fun b hb h => h.resolve_right (by omega)
      clear Q3 F3 hown1 hgrow hat o5 f5 p2 r2
      go_wp2_with fail
      go_end0
      exact ⟨rfl, ⟨_, HQ3.out⟩, HF3.out⟩
end Go.Proofs.Ytmoniecknimmdaa
end
section
namespace Go.Proofs.Ytmoniecknimmdaa
open Go.RowKit
namespace A
def Pd.splitted (d : Pd) (k b e m : Nat) : Pd × Bool :=
  if b + m = e then ({ d with mkd := d.mkd.set k 0 }, false)
  else if m ≤ e - (b + m) then (({ d with mkd := d.mkd.set k 0, beg := d.beg.set k ((b : Int) + (m : Int)) } : Pd).added b (b + m), true)
  else (({ d with mkd := d.mkd.set k 0, fin := d.fin.set k ((b : Int) + (m : Int)) } : Pd).added (b + m) e, true)
structure Sp (d : Pd) (k b e m : Nat) : Prop where
  h1 : k < d.beg.length
  h2 : d.beg.getD k 0 = (b : Int)
  h3 : k < d.fin.length
  h4 : d.fin.getD k 0 = (e : Int)
  h5 : k < d.mkd.length
  h6 : d.mkd.getD k 0 = (m : Int)
  h7 : 0 < m
  h8 : b + m ≤ e
  h9 : e ≤ d.row.length
  h10 : ∀ i, b ≤ i → i < e → 0 ≤ d.row.getD i 0 ∧ d.row.getD i 0 < d.cls.length
  h11 : d.row.length ≤ 1000000000
  h12 : d.beg.length ≤ 1000000000
  h13 : d.fin.length ≤ 1000000000
  h14 : d.mkd.length ≤ 1000000000
end A
set_option maxRecDepth 100000 in
set_option maxHeartbeats 4000000 in
theorem split_any {w : World} {S : Nat → Prop} {pb : Nat} {d : A.Pd} {k b e m : Nat} (h : Pt w S pb d) (hm : A.Sp d k b e m) :
    Calls Try.prog 75 #[.pointer (some ⟨pb, 0, none⟩), .int .i64 k] w fun r w' => r = .returned (.bool (d.splitted k b e m).2) ∧ Pt w' (fun x => S x ∨ w.heap.size ≤ x) pb (d.splitted k b e m).1 ∧ Frm S w w' := by
  obtain ⟨vf, h⟩ := h
  obtain ⟨h1, h2, h3, h4, h5, h6, h7, h8, h9, h10, h11, h12, h13, h14⟩ := hm
  obtain ⟨g3, c3, e3, o3, f3, k3, l3, _⟩ := h.at_ (i := 3) (j := k) (by decide) h1
  obtain ⟨g4, c4, e4, o4, f4, k4, l4, _⟩ := h.at_ (i := 4) (j := k) (by decide) h3
  obtain ⟨g5, c5, e5, o5, f5, k5, l5, _⟩ := h.at_ (i := 5) (j := k) (by decide) h5
  rw [show (d.f 3).getD k 0 = (b : Int) from h2] at k3
  rw [show (d.f 4).getD k 0 = (e : Int) from h4] at k4
  rw [show (d.f 5).getD k 0 = (m : Int) from h6] at k5
  have b1 : (k : Int) < ((d.f 3).length : Int) := by have : k < (d.f 3).length := h1; omega
  have b2 : (k : Int) < ((d.f 4).length : Int) := by have : k < (d.f 4).length := h3; omega
  have b3 : (k : Int) < ((d.f 5).length : Int) := by have : k < (d.f 5).length := h5; omega
  have b4 : (e : Int) ≤ 1000000000 := by omega
  have b5 : (b : Int) + (m : Int) ≤ (e : Int) := by omega
  have HP := Lib.hid h
  have HE3 := Lib.hid e3
  have HE4 := Lib.hid e4
  have HE5 := Lib.hid e5
  have HP1 : Hid (∀ n, PtV ((w.drewN n).setCell ⟨g5, k, none⟩ (.int .i64 0)) S pb vf { d with mkd := d.mkd.set k 0 }) := fun n => (h.drewN n).set_ (i := 5) (j := k) (by decide) e5 h5 0
  have HF1 : Hid (∀ n, Frm S w ((w.drewN n).setCell ⟨g5, k, none⟩ (.int .i64 0))) := fun n => Frm.trans ((Frm.refl S w).drewN n) ((h.drewN n).set_frm (i := 5) (by decide) e5 k 0)
  have n35 := h.ne (i := 3) (j := 5) (by decide) (by decide) (by decide) e3 e5
  have n45 := h.ne (i := 4) (j := 5) (by decide) (by decide) (by decide) e4 e5
  have np5 : pb ≠ g5 := fun e => (Grp.lie h 5 (by decide) g5 (by rw [e5]; rfl)).2 e.symm
  have HH : Hid (A.Sp d k b e m) := ⟨h1, h2, h3, h4, h5, h6, h7, h8, h9, h10, h11, h12, h13, h14⟩
  generalize (d.f 3).length = n3 at *
  generalize (d.f 4).length = n4 at *
  generalize (d.f 5).length = n5 at *
  clear h h1 h2 h3 h4 h5 h6 h9 h10 h11 h12 h13 h14 e3 e4 e5
  by_cases hc : b + m = e
  · have hX : d.splitted k b e m = ({ d with mkd := d.mkd.set k 0 }, false) := by unfold A.Pd.splitted; rw [if_pos hc]
    rw [hX]
    have b6 : (b : Int) + (m : Int) = (e : Int) := by omega
    have HB6 := Lib.hid b6
    have hb : (((b : Int) + (m : Int)) == (e : Int)) = true := by rw [b6]; simp
    clear b6 hc hX
    go_enter Try.func75, Try.ntmps75
    go_wp2_with fail
    go_quiet (fail)
    go_wp2_with fail
    go_ret
    exact ⟨rfl, ⟨vf, Grp.mono (HP1.out nq) fun _ _ h => .inl h⟩, HF1.out nq⟩
  have b6 : ¬ (b : Int) + (m : Int) = (e : Int) := by omega
  have hb : (((b : Int) + (m : Int)) == (e : Int)) = false := by rw [beq_eq_false_iff_ne]; exact b6
  have HC := Lib.hid hc
  clear b6 hc
  by_cases hq : m ≤ e - (b + m)
  · have hX : d.splitted k b e m = (({ d with mkd := d.mkd.set k 0, beg := d.beg.set k ((b : Int) + (m : Int)) } : A.Pd).added b (b + m), true) := by unfold A.Pd.splitted; rw [if_neg HC.out, if_pos hq]
    rw [hX]
    have b7 : (b : Int) + (m : Int) - (b : Int) ≤ (e : Int) - ((b : Int) + (m : Int)) := by omega
    have HQ := Lib.hid hq
    have HP2 : Hid (∀ n, PtV (((w.drewN n).setCell ⟨g5, k, none⟩ (.int .i64 0)).setCell ⟨g3, k, none⟩ (.int .i64 ((b : Int) + (m : Int)))) S pb vf { d with mkd := d.mkd.set k 0, beg := d.beg.set k ((b : Int) + (m : Int)) }) := fun n => (HP1.out n).set_ (i := 3) (j := k) (by decide) HE3.out HH.out.h1 _
    have HF2 : Hid (∀ n, Frm S w (((w.drewN n).setCell ⟨g5, k, none⟩ (.int .i64 0)).setCell ⟨g3, k, none⟩ (.int .i64 ((b : Int) + (m : Int))))) := fun n => (HF1.out n).trans ((HP1.out n).set_frm (i := 3) (by decide) HE3.out k _)
    clear hq hX
    go_enter Try.func75, Try.ntmps75
    go_wp2_with fail
    go_quiet (fail)
    go_wp2_with fail
    have had := add_any (b := b) (e := b + m) ⟨vf, HP2.out nq⟩ ⟨by omega, by have := HH.out.h9; dsimp only; omega, fun i h1 h2 => HH.out.h10 i h1 (by omega), HH.out.h11, by dsimp only; rw [List.length_set]; exact HH.out.h12, HH.out.h13, by dsimp only; rw [List.length_set]; exact HH.out.h14⟩
    rw [Int.natCast_add] at had
    refine had.mono ?_
    rintro _ w2 ⟨rfl, ⟨vf2, q2⟩, f2⟩
    have HQ2 := Lib.hid q2
    have HF3 := Lib.hid ((HF2.out nq).trans f2)
    have HSZ := (HF2.out nq).1
    clear q2 f2 had o3 o4 o5 f3 f4 f5 k3 k4 k5 l3 l4 l5
    go_wp2_with fail
    go_ret
    exact ⟨rfl, ⟨vf2, Grp.mono HQ2.out fun b _ h => by rcases h with h | h; exact .inl h; exact .inr (by omega)⟩, HF3.out⟩
  · have hX : d.splitted k b e m = (({ d with mkd := d.mkd.set k 0, fin := d.fin.set k ((b : Int) + (m : Int)) } : A.Pd).added (b + m) e, true) := by unfold A.Pd.splitted; rw [if_neg HC.out, if_neg hq]
    rw [hX]
    have b7 : ¬ ((b : Int) + (m : Int) - (b : Int) ≤ (e : Int) - ((b : Int) + (m : Int))) := by have := HC.out; omega
    have HQ := Lib.hid hq
    have HP2 : Hid (∀ n, PtV (((w.drewN n).setCell ⟨g5, k, none⟩ (.int .i64 0)).setCell ⟨g4, k, none⟩ (.int .i64 ((b : Int) + (m : Int)))) S pb vf { d with mkd := d.mkd.set k 0, fin := d.fin.set k ((b : Int) + (m : Int)) }) := fun n => (HP1.out n).set_ (i := 4) (j := k) (by decide) HE4.out HH.out.h3 _
    have HF2 : Hid (∀ n, Frm S w (((w.drewN n).setCell ⟨g5, k, none⟩ (.int .i64 0)).setCell ⟨g4, k, none⟩ (.int .i64 ((b : Int) + (m : Int))))) := fun n => (HF1.out n).trans ((HP1.out n).set_frm (i := 4) (by decide) HE4.out k _)
    clear hq hX
    go_enter Try.func75, Try.ntmps75
    go_wp2_with fail
    go_quiet (fail)
    go_wp2_with fail
    have had := add_any (b := b + m) (e := e) ⟨vf, HP2.out nq⟩ ⟨by have := HC.out; omega, HH.out.h9, fun i h1 h2 => HH.out.h10 i (by omega) h2, HH.out.h11, HH.out.h12, by dsimp only; rw [List.length_set]; exact HH.out.h13, by dsimp only; rw [List.length_set]; exact HH.out.h14⟩
    rw [Int.natCast_add] at had
    refine had.mono ?_
    rintro _ w2 ⟨rfl, ⟨vf2, q2⟩, f2⟩
    have HQ2 := Lib.hid q2
    have HF3 := Lib.hid ((HF2.out nq).trans f2)
    have HSZ := (HF2.out nq).1
    clear q2 f2 had o3 o4 o5 f3 f4 f5 k3 k4 k5 l3 l4 l5
    go_wp2_with fail
    go_ret
    exact ⟨rfl, ⟨vf2, Grp.mono HQ2.out fun b _ h => by rcases h with h | h; exact .inl h; exact .inr (by omega)⟩, HF3.out⟩
end Go.Proofs.Ytmoniecknimmdaa
end
section
namespace Go.Proofs.Ytmoniecknimmdaa
open Go.RowKit
namespace A
def natO (l : List Int) (i : Nat) : Option Nat := if i < l.length ∧ 0 ≤ l.getD i 0 then some (l.getD i 0).toNat else none
theorem natO_some {l : List Int} {i n : Nat} (h : natO l i = some n) : i < l.length ∧ l.getD i 0 = (n : Int) := by
  unfold natO at h
  split at h
  · rename_i hc
    simp only [Option.some.injEq] at h
    exact ⟨hc.1, by omega⟩
  · cases h
def big : Nat := 1000000000
def markO (d : Pd) (st : Nat) : Option (Pd × Bool) :=
  (natO d.cls st).bind fun c => (natO d.place st).bind fun fr => (natO d.beg c).bind fun b => (natO d.mkd c).bind fun m => (natO d.row (b + m)).bind fun ot =>
    if fr < d.row.length ∧ ot < d.place.length ∧ d.row.length ≤ big then some (d.marked st c fr b m ot, decide (m = 0)) else none
theorem markO_inv {d d' : Pd} {st : Nat} {r : Bool} (h : markO d st = some (d', r)) : ∃ c fr b m ot, Mk d st c fr b m ot ∧ d' = d.marked st c fr b m ot ∧ r = decide (m = 0) := by
  unfold markO at h
  simp only [Option.bind_eq_some_iff] at h
  obtain ⟨c, h1, fr, h2, b, h3, m, h4, ot, h5, h6⟩ := h
  split at h6
  · rename_i hc
    simp only [Option.some.injEq, Prod.mk.injEq] at h6
    obtain ⟨rfl, rfl⟩ := h6
    exact ⟨c, fr, b, m, ot, ⟨(natO_some h1).1, (natO_some h1).2, (natO_some h2).1, (natO_some h2).2, (natO_some h3).1, (natO_some h3).2, (natO_some h4).1, (natO_some h4).2, (natO_some h5).1, (natO_some h5).2, hc.1, hc.2.1, hc.2.2⟩, rfl, rfl⟩
  · cases h6
def partOk (d : Pd) (b e : Nat) : Bool := (List.range e).all fun i => decide (i < b) || (decide (0 ≤ d.row.getD i 0) && decide (d.row.getD i 0 < d.cls.length))
theorem partOk_at {d : Pd} {b e : Nat} (h : partOk d b e = true) (i : Nat) (h1 : b ≤ i) (h2 : i < e) : 0 ≤ d.row.getD i 0 ∧ d.row.getD i 0 < d.cls.length := by
  have := List.all_eq_true.1 h i (List.mem_range.2 h2)
  simp only [Bool.or_eq_true, Bool.and_eq_true, decide_eq_true_eq] at this
  rcases this with h | h
  · omega
  · exact h
def splitO (d : Pd) (k : Nat) : Option (Pd × Bool) :=
  (natO d.beg k).bind fun b => (natO d.fin k).bind fun e => (natO d.mkd k).bind fun m =>
    if 0 < m ∧ b + m ≤ e ∧ e ≤ d.row.length ∧ partOk d b e = true ∧ d.row.length ≤ big ∧ d.beg.length ≤ big ∧ d.fin.length ≤ big ∧ d.mkd.length ≤ big then some (d.splitted k b e m) else none
theorem splitO_inv {d d' : Pd} {k : Nat} {r : Bool} (h : splitO d k = some (d', r)) : ∃ b e m, Sp d k b e m ∧ d' = (d.splitted k b e m).1 ∧ r = (d.splitted k b e m).2 := by
  unfold splitO at h
  simp only [Option.bind_eq_some_iff] at h
  obtain ⟨b, h1, e, h2, m, h3, h4⟩ := h
  split at h4
  · rename_i hc
    simp only [Option.some.injEq] at h4
    obtain ⟨k1, k2, k3, k4, k5, k6, k7, k8⟩ := hc
    exact ⟨b, e, m, ⟨(natO_some h1).1, (natO_some h1).2, (natO_some h2).1, (natO_some h2).2, (natO_some h3).1, (natO_some h3).2, k1, k2, k3, partOk_at k4, k5, k6, k7, k8⟩, by rw [h4], by rw [h4]⟩
  · cases h4
/-- Marks states, and tells the classes that are touched. -/
def touch : List Int → Pd → List Int → Option (Pd × List Int)
  | [], d, ts => some (d, ts)
  | s :: l, d, ts => if 0 ≤ s then (match markO d s.toNat with
    | none => none
    | some (d', true) => touch l d' (ts ++ [d'.cls.getD s.toNat 0])
    | some (d', false) => touch l d' ts) else none
/-- Splits classes, and tells the new ones. -/
def splits : List Int → Pd → List Int → Option (Pd × List Int)
  | [], d, fs => some (d, fs)
  | k :: l, d, fs => if 0 ≤ k then (match splitO d k.toNat with
    | none => none
    | some (d', true) => splits l d' (fs ++ [(d'.beg.length : Int) - 1])
    | some (d', false) => splits l d' fs) else none
def divideO (d : Pd) (ws : List Int) : Option (Pd × List Int) := match touch ws d [] with
  | none => none
  | some (d', ts) => splits ts d' []
theorem touch_len : ∀ {l : List Int} {d d' : Pd} {ts ts' : List Int}, touch l d ts = some (d', ts') → ts'.length ≤ ts.length + l.length
  | [], d, d', ts, ts', h => by simp only [touch, Option.some.injEq, Prod.mk.injEq] at h; rw [h.2]; simp
  | s :: l, d, d', ts, ts', h => by
    unfold touch at h
    split at h
    · split at h
      · cases h
      · have := touch_len h; simp at this ⊢; omega
      · have := touch_len h; simp at this ⊢; omega
    · cases h
theorem splitted_beg (d : Pd) (k b e m : Nat) : (d.splitted k b e m).1.beg.length ≤ d.beg.length + 1 := by
  unfold Pd.splitted
  split
  · dsimp only; omega
  · split
    · dsimp only [Pd.added]; rw [List.length_append, List.length_set]; simp
    · dsimp only [Pd.added]; rw [List.length_append]; simp
end A
theorem own_lt {w : World} {base : Nat} {v : Value} {l : List Int} (h : OwnInts w base v l) : ∀ g, v.ownBlock = some g → base ≤ g ∧ g < w.heap.size := fun g hg => World.ownsRow.lt h g hg
theorem marked_cls (d : A.Pd) (st c fr b m ot : Nat) : (d.marked st c fr b m ot).cls = d.cls := rfl
set_option maxRecDepth 100000 in
set_option maxHeartbeats 4000000 in
theorem divide_any {w : World} {S Q : Nat → Prop} {pb : Nat} {d d' : A.Pd} {v : Value} {ws fs : List Int} (h : Pt w S pb d) (hw : Ints w Q v ws) (hQ : ∀ b, Q b → ¬ S b) (hd : A.divideO d ws = some (d', fs)) (hl : ws.length ≤ 100000000) :
    Calls Try.prog 59 #[.pointer (some ⟨pb, 0, none⟩), v] w fun r w' => ∃ u, r = .returned u ∧ OwnInts w' w.heap.size u fs ∧ Pt w' (fun x => S x ∨ w.heap.size ≤ x) pb d' ∧ Frm S w w' := by
  obtain ⟨A0, c0, rfl, hw⟩ := hw
  have HW := Lib.hid hw
  have HQ := Lib.hid hQ
  obtain ⟨S0, hS0⟩ : ∃ S0 : Nat → Prop, ∀ b, S0 b ↔ S b ∧ b < w.heap.size := ⟨_, fun b => Iff.rfl⟩
  have HP : Hid (Pt w S0 pb d) := h.mono fun b hb hs => (hS0 b).2 ⟨hs, hb⟩
  have HS0 := Lib.hid hS0
  unfold A.divideO at hd
  split at hd
  · cases hd
  rename_i d1 ts ht
  have HTL : Hid (ts.length ≤ ws.length) := show _ ≤ _ by have := A.touch_len ht; simpa using this
  have HT : Hid (A.touch (ws.drop 0) d [] = some (d1, ts)) := ht
  have HD := Lib.hid hd
  obtain ⟨i0, hi0, hz0, hz1, hz2⟩ := info_parts info_int
  have HWL := Lib.hid hl
  clear h hw hQ hS0 hd ht
  go_enter Try.func59, Try.ntmps59
  go_wp2_with fail
  go_loopg [5, 13] (ws.length + 1) (fun n u i wr => ∃ (k : Nat) (dk : A.Pd) (tk : List Int), k ≤ ws.length ∧ n = ws.length + 1 - k ∧ i = .int .i64 (k : Int) ∧ tk.length ≤ k ∧ Hid (A.touch (ws.drop k) dk tk = some (d1, ts)) ∧ Hid (OwnInts wr w.heap.size u tk) ∧ Hid (Pt wr S0 pb dk) ∧ Hid (Frm S0 w wr))
  case atStart => exact ⟨0, d, [], Nat.zero_le _, rfl, rfl, Nat.le_refl _, HT, World.ownsRow_nil _ _ _ _, HP, Frm.refl _ _⟩
  case round =>
    clear HT HP
    obtain ⟨k, dk, tk, hk, rfl, rfl, htk, HT, HO, HP, HF⟩ := hrel
    obtain ⟨A5, c5, rfl⟩ := own_form HO.out
    by_cases hlt : k < ws.length
    · have hlt' : (k : Int) < (ws.length : Int) := by omega
      obtain ⟨g, o, rfl, hq, hc⟩ := HW.out k hlt
      have c1 := HF.out.cell (fun e => HQ.out g hq ((HS0.out g).1 e).1) hc
      have ht := HT.out
      rw [List.drop_eq_getElem_cons hlt] at ht
      unfold A.touch at ht
      generalize ws[k]'hlt = s at *
      split at ht
      case isFalse => cases ht
      rename_i hs0
      obtain ⟨st, rfl⟩ : ∃ st : Nat, s = (st : Int) := ⟨s.toNat, by omega⟩
      rw [Int.toNat_natCast] at ht
      cases hm : A.markO dk st with
      | none => rw [hm] at ht; cases ht
      | some res =>
      obtain ⟨d2, r⟩ := res
      rw [hm] at ht
      obtain ⟨c, fr, b, m, ot, hmk, rfl, rfl⟩ := A.markO_inv hm
      have HMK := Lib.hid hmk
      have HT2 := Lib.hid ht
      have HCL := Lib.hid hc
      clear hmk hm ht hc hs0
      go_wp2_with fail
      refine (mark_any HP.out HMK.out).mono ?_
      rintro _ w2 ⟨rfl, ⟨vf, q2⟩, f2⟩
      have HP2 : Hid (PtV w2 S0 pb vf (dk.marked st c fr b m ot)) := q2
      have HF2 := Lib.hid (HF.out.trans f2)
      have HO2 : Hid (OwnInts w2 w.heap.size (.slice A5 tk.length c5) tk) := HO.out.frm f2 fun g hg hs => by have := ((HS0.out g).1 hs).2; omega
      clear q2 f2
      by_cases hm0 : m = 0
      · have hb : decide (m = 0) = true := by simp [hm0]
        rw [hb] at HT2 ⊢
        obtain ⟨g2, c2, e2, o2, f2, k2, l2, _⟩ := HP2.out.at_ (i := 2) (j := st) (by decide) (show st < (dk.marked st c fr b m ot).cls.length from HMK.out.h1)
        have hst : (st : Int) < (((dk.marked st c fr b m ot).f 2).length : Int) := by have : st < ((dk.marked st c fr b m ot).f 2).length := HMK.out.h1; omega
        rw [show ((dk.marked st c fr b m ot).f 2).getD st 0 = (dk.marked st c fr b m ot).cls.getD st 0 from rfl] at k2
        generalize ((dk.marked st c fr b m ot).f 2).length = n2 at *
        have HT3 : Hid (A.touch (ws.drop (k + 1)) (dk.marked st c fr b m ot) (tk ++ [(dk.marked st c fr b m ot).cls.getD st 0]) = some (d1, ts)) := HT2.out
        generalize (dk.marked st c fr b m ot).cls.getD st 0 = cl at *
        have HTK := Lib.hid htk
        clear e2 hb hm0 HT2
        go_wp2_with (at_builtin; refine wpList_append_own_at _ rfl _ _ 35 rfl w.heap.size 3 i0 (.int .i64 0) 1 8 Try.underlying35 hi0 hz0 hz1 hz2 rfl (by decide) _ _ _ rfl (HO2.out.alloc _) ⟨w2.heap.size, 0, none⟩ 1 1 [.int .i64 cl] rfl rfl ?y1 ?y2 ?y3 ?y4 ?y5 ?_)
        case y1 => exact cell_one_at (by simp)
        case y2 => simp [Value.oneCell']
        case y3 => have := HTK.out; have := HWL.out; unfold maxLen; omega
        case y4 => have := HTK.out; have := HWL.out; omega
        case y5 => have := HF2.out.1; simp; omega
        intro v' w3 hown1 hgrow _ hat
        obtain ⟨A9, c9, rfl⟩ := own_form hown1
        have f3 : Frm (fun b => w.heap.size ≤ b) w2 w3 := ((Frm.refl _ w2).alloc _).grown hgrow fun g hg _ => (own_lt HO2.out g hg.symm.symm).1
        have HF3 : Hid (Frm S0 w w3) := Frm.mono (E := fun b => S0 b ∨ w.heap.size ≤ b) ((HF2.out.mono fun _ _ h => .inl h).trans (f3.mono fun _ _ h => .inr h)) fun b hb h => h.resolve_right (by omega)
        have HO3 : Hid (OwnInts w3 w.heap.size (.slice A9 (tk.length + 1) c9) (tk ++ [cl])) := OwnInts.grown rfl hown1
        have HP3 : Hid (Pt w3 S0 pb (dk.marked st c fr b m ot)) := Pt.frm ⟨vf, HP2.out⟩ f3 fun b _ hs => by have := ((HS0.out b).1 hs).2; omega
        clear hown1 hgrow hat f3 o2 f2 k2 l2
        go_wp2_with fail
        go_roundg (ws.length + 1 - (k + 1))
        case measure => omega
        case rel => exact ⟨k + 1, _, _, by omega, rfl, by go_num, by have := HTK.out; simp only [List.length_append, List.length_cons, List.length_nil]; omega, HT3, HO3, HP3, HF3⟩
      · have hb : decide (m = 0) = false := by simp [hm0]
        rw [hb] at HT2 ⊢
        have HT3 : Hid (A.touch (ws.drop (k + 1)) (dk.marked st c fr b m ot) tk = some (d1, ts)) := HT2.out
        clear HT2 hm0 hb
        go_wp2_with fail
        go_roundg (ws.length + 1 - (k + 1))
        case measure => omega
        case rel => exact ⟨k + 1, _, tk, by omega, rfl, by go_num, by omega, HT3, HO2, ⟨vf, HP2.out⟩, HF2⟩
    · have hlt' : ¬ (k : Int) < (ws.length : Int) := by omega
      have ht := HT.out
      rw [List.drop_of_length_le (by omega)] at ht
      simp only [A.touch, Option.some.injEq, Prod.mk.injEq] at ht
      obtain ⟨rfl, rfl⟩ := ht
      have HD0 : Hid (A.splits (tk.drop 0) dk [] = some (d', fs)) := HD.out
      have HNO : Hid (∀ g, (Value.slice A5 tk.length c5).ownBlock = some g → ¬ S0 g) := fun g hg hs => by have := ((HS0.out g).1 hs).2; have := own_lt HO.out g hg; omega
      have HSS : Hid (∀ b, S0 b → (S b ∨ w.heap.size ≤ b) ∧ b < wr.heap.size) := fun b hs => ⟨.inl ((HS0.out b).1 hs).1, Nat.lt_of_lt_of_le ((HS0.out b).1 hs).2 HF.out.1⟩
      have HFS : Hid (Frm S w wr) := HF.out.mono fun b _ hs => ((HS0.out b).1 hs).1
      have HTL2 := HTL.out
      have HWL2 := HWL.out
      clear HT HD HF hk hlt
      go_wp2_with fail
      go_loopg [8, 33] (tk.length + 1) (fun n u i wr => ∃ (k : Nat) (dk : A.Pd) (fk : List Int) (Sk : Nat → Prop), k ≤ tk.length ∧ n = tk.length + 1 - k ∧ i = .int .i64 (k : Int) ∧ fk.length ≤ k ∧ Hid (A.splits (tk.drop k) dk fk = some (d', fs)) ∧ Hid (OwnInts wr w.heap.size u fk) ∧ Hid (∀ g, u.ownBlock = some g → ¬ Sk g) ∧ Hid (OwnInts wr w.heap.size (.slice A5 tk.length c5) tk) ∧ Hid (∀ g, (Value.slice A5 tk.length c5).ownBlock = some g → ¬ Sk g ∧ u.ownBlock ≠ some g) ∧ Hid (Pt wr Sk pb dk) ∧ Hid (∀ b, Sk b → (S b ∨ w.heap.size ≤ b) ∧ b < wr.heap.size) ∧ Hid (Frm S w wr))
      case atStart => exact ⟨0, dk, [], S0, Nat.zero_le _, rfl, rfl, Nat.le_refl _, HD0, World.ownsRow_nil _ _ _ _, fun g h => (by cases h), HO, fun g hg => ⟨HNO.out g hg, fun h => (by cases h)⟩, HP, HSS, HFS⟩
      case round =>
        clear HD0 HNO HSS HFS HO HP
        obtain ⟨k, dk, fk, Sk, hk, rfl, rfl, hfk, HD, HO, HNO, HT, HNT, HP, HSS, HF⟩ := hrel
        obtain ⟨A8, c8, rfl⟩ := own_form HO.out
        by_cases hlt : k < tk.length
        · have hlt2 : (k : Int) < (tk.length : Int) := by omega
          obtain ⟨g5, rfl, _, d0⟩ := OwnInts.at_ (l := tk) HT.out hlt
          have hd := HD.out
          rw [List.drop_eq_getElem_cons hlt] at hd
          have hge : tk.getD k 0 = tk[k]'hlt := by simp [hlt]
          rw [← hge] at hd
          unfold A.splits at hd
          generalize tk.getD k 0 = s at *
          split at hd
          case isFalse => cases hd
          rename_i hs0
          obtain ⟨kk, rfl⟩ : ∃ kk : Nat, s = (kk : Int) := ⟨s.toNat, by omega⟩
          rw [Int.toNat_natCast] at hd
          cases hm : A.splitO dk kk with
          | none => rw [hm] at hd; cases hd
          | some res =>
          obtain ⟨d2, r⟩ := res
          rw [hm] at hd
          obtain ⟨b, e, m, hsp, hd2, hr⟩ := A.splitO_inv hm
          have HSP := Lib.hid hsp
          have HD2 := Lib.hid hd
          have HDD := Lib.hid hd2
          have HRR := Lib.hid hr
          clear hsp hm hd hs0 hge hd2 hr
          go_wp2_with fail
          have hsa := split_any HP.out HSP.out
          rw [← HDD.out, ← HRR.out] at hsa
          refine hsa.mono ?_
          rintro _ w2 ⟨rfl, q2, f2⟩
          have hlt' := f2.1
          have HP2 : Hid (Pt w2 (fun b => (Sk b ∨ wr.heap.size ≤ b) ∧ b < w2.heap.size) pb d2) := q2.mono fun b hb hs => ⟨hs, hb⟩
          have HF2 : Hid (Frm S w w2) := Frm.mono (E := fun b => S b ∨ w.heap.size ≤ b) ((HF.out.mono fun _ _ h => .inl h).trans (f2.mono fun b _ h => (HSS.out b h).1)) fun b hb h => h.resolve_right (by omega)
          have HO2 : Hid (OwnInts w2 w.heap.size (.slice A8 fk.length c8) fk) := f2.row HO.out (fun g hg => HNO.out g hg) (Nat.le_refl _)
          have HT2 : Hid (OwnInts w2 w.heap.size (.slice (some ⟨g5, 0, none⟩) tk.length c5) tk) := f2.row HT.out (fun g hg => (HNT.out g hg).1) (Nat.le_refl _)
          have HNO2 : Hid (∀ g, (Value.slice A8 fk.length c8).ownBlock = some g → ¬ ((Sk g ∨ wr.heap.size ≤ g) ∧ g < w2.heap.size)) := fun g hg h => by
            have h1 := HNO.out g hg
            have h2 := (own_lt HO.out g hg).2
            rcases h.1 with h3 | h3
            · exact h1 h3
            · omega
          have HNT2 : Hid (∀ g, (Value.slice (some ⟨g5, 0, none⟩) tk.length c5).ownBlock = some g → ¬ ((Sk g ∨ wr.heap.size ≤ g) ∧ g < w2.heap.size) ∧ (Value.slice A8 fk.length c8).ownBlock ≠ some g) := fun g hg => by
            have h1 := HNT.out g hg
            have h2 := (own_lt HT.out g hg).2
            refine ⟨fun h => ?_, h1.2⟩
            rcases h.1 with h3 | h3
            · exact h1.1 h3
            · omega
          have HSS2 : Hid (∀ b, ((Sk b ∨ wr.heap.size ≤ b) ∧ b < w2.heap.size) → (S b ∨ w.heap.size ≤ b) ∧ b < w2.heap.size) := fun b h => by
            refine ⟨?_, h.2⟩
            rcases h.1 with h3 | h3
            · exact (HSS.out b h3).1
            · exact .inr (Nat.le_trans HF.out.1 h3)
          obtain ⟨Sk2, hSk2⟩ : ∃ Sk2 : Nat → Prop, Sk2 = fun b => (Sk b ∨ wr.heap.size ≤ b) ∧ b < w2.heap.size := ⟨_, rfl⟩
          have HP3 : Hid (Pt w2 Sk2 pb d2) := by rw [hSk2]; exact HP2
          have HNO3 : Hid (∀ g, (Value.slice A8 fk.length c8).ownBlock = some g → ¬ Sk2 g) := by rw [hSk2]; exact HNO2
          have HNT3 : Hid (∀ g, (Value.slice (some ⟨g5, 0, none⟩) tk.length c5).ownBlock = some g → ¬ Sk2 g ∧ (Value.slice A8 fk.length c8).ownBlock ≠ some g) := by rw [hSk2]; exact HNT2
          have HSS3 : Hid (∀ b, Sk2 b → (S b ∨ w.heap.size ≤ b) ∧ b < w2.heap.size) := by rw [hSk2]; exact HSS2
          have hbeg : d2.beg.length ≤ 1000000001 := by have := HSP.out.h12; have := A.splitted_beg dk kk b e m; rw [← HDD.out] at this; omega
          clear q2 f2 hsa HP2 HNO2 HNT2 HSS2 hSk2 HP HNO HNT HSS HF HO HT d0
          cases r with
          | false =>
            have HD3 : Hid (A.splits (tk.drop (k + 1)) d2 fk = some (d', fs)) := HD2.out
            clear HD2
            go_wp2_with fail
            go_roundg (tk.length + 1 - (k + 1))
            case measure => omega
            case rel => exact ⟨k + 1, d2, fk, Sk2, by omega, rfl, by go_num, by omega, HD3, HO2, HNO3, HT2, HNT3, HP3, HSS3, HF2⟩
          | true =>
            have HD3 : Hid (A.splits (tk.drop (k + 1)) d2 (fk ++ [(d2.beg.length : Int) - 1]) = some (d', fs)) := HD2.out
            obtain ⟨vf2, hv2⟩ := HP3.out
            obtain ⟨A3, c3, e3, o3, f3, _⟩ := hv2.slot (i := 3) (by decide)
            have hl3 : (d2.f 3).length = d2.beg.length := rfl
            rw [hl3] at o3
            have HFK := Lib.hid hfk
            clear HD2 e3 hl3 hv2 hfk
            go_wp2_with (at_builtin; refine wpList_append_own_at _ rfl _ _ 35 rfl w.heap.size 3 i0 (.int .i64 0) 1 8 Try.underlying35 hi0 hz0 hz1 hz2 rfl (by decide) _ _ _ rfl (HO2.out.alloc _) ⟨w2.heap.size, 0, none⟩ 1 1 [.int .i64 ((d2.beg.length : Int) - 1)] rfl rfl ?z1 ?z2 ?z3 ?z4 ?z5 ?_)
            case z1 => exact cell_one_at (by simp)
            case z2 => simp [Value.oneCell']
            case z3 => have := HFK.out; unfold maxLen; omega
            case z4 => have := HFK.out; omega
            case z5 => have := HF2.out.1; simp; omega
            intro v' w3 hown1 hgrow _ hat
            obtain ⟨A9, c9, rfl⟩ := own_form hown1
            have f3 : Frm (fun b => (Value.slice A8 fk.length c8).ownBlock = some b) w2 w3 := ((Frm.refl _ w2).alloc _).grown hgrow fun g hg _ => hg
            have HF3 : Hid (Frm S w w3) := Frm.mono (E := fun b => S b ∨ w.heap.size ≤ b) ((HF2.out.mono fun _ _ h => .inl h).trans (f3.mono fun b _ h => .inr (own_lt HO2.out b h).1)) fun b hb h => h.resolve_right (by omega)
            have HO3 : Hid (OwnInts w3 w.heap.size (.slice A9 (fk.length + 1) c9) (fk ++ [(d2.beg.length : Int) - 1])) := OwnInts.grown rfl hown1
            have HP4 : Hid (Pt w3 Sk2 pb d2) := Pt.frm HP3.out f3 fun b _ hs h => HNO3.out b h hs
            have HT3 : Hid (OwnInts w3 w.heap.size (.slice (some ⟨g5, 0, none⟩) tk.length c5) tk) := f3.row HT2.out (fun g hg h => (HNT3.out g hg).2 h) (Nat.le_refl _)
            have HNO4 : Hid (∀ g, (Value.slice A9 (fk.length + 1) c9).ownBlock = some g → ¬ Sk2 g) := fun g hg hs => by
              rcases hat with h | h
              · rw [h] at hg; exact HNO3.out g hg hs
              · rw [h] at hg; have := (HSS3.out g hs).2; simp at hg; omega
            have HNT4 : Hid (∀ g, (Value.slice (some ⟨g5, 0, none⟩) tk.length c5).ownBlock = some g → ¬ Sk2 g ∧ (Value.slice A9 (fk.length + 1) c9).ownBlock ≠ some g) := fun g hg => by
              refine ⟨(HNT3.out g hg).1, fun hn => ?_⟩
              rcases hat with h | h
              · rw [h] at hn; exact (HNT3.out g hg).2 hn
              · rw [h] at hn; have := (own_lt HT2.out g hg).2; simp at hn; omega
            have HSS4 : Hid (∀ b, Sk2 b → (S b ∨ w.heap.size ≤ b) ∧ b < w3.heap.size) := fun b hs => ⟨(HSS3.out b hs).1, Nat.lt_of_lt_of_le (HSS3.out b hs).2 f3.1⟩
            clear hown1 hgrow hat f3 o3 
            go_wp2_with fail
            go_roundg (tk.length + 1 - (k + 1))
            case measure => omega
            case rel => exact ⟨k + 1, d2, _, Sk2, by omega, rfl, by go_num, by have := HFK.out; simp only [List.length_append, List.length_cons, List.length_nil]; omega, HD3, HO3, HNO4, HT3, HNT4, HP4, HSS4, HF3⟩
        · have hlt2 : ¬ (k : Int) < (tk.length : Int) := by omega
          have hd := HD.out
          rw [List.drop_of_length_le (by omega)] at hd
          simp only [A.splits, Option.some.injEq, Prod.mk.injEq] at hd
          obtain ⟨rfl, rfl⟩ := hd
          clear HD
          go_wp2_with fail
          go_ret
          exact ⟨_, rfl, HO.out, HP.out.mono fun b _ hs => (HSS.out b hs).1, HF.out⟩
end Go.Proofs.Ytmoniecknimmdaa
end
