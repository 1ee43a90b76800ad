/- Differ. longer: how many words, one letter longer. Count. Plain facts of counting: where two machines accept the same words of a length, they accept as many. Relate's closure. Rows of own rows: an outer block whose cells are slices, each with a row of its own. arrivals. living. The partition: words; one, mark. Contracts of the program's functions, with no condition beyond what each theorem states. -/
import Derived.Test.YtiekaicbjinbaaaC04
import Derived.Maps.AppendAt
import Derived.RegionTactic
import Derived.BigRegion
section
namespace Go.Proofs.Ytiekaicbjinbaaa
open Go.RowKit
/-- What Differ hands back: where the machines can be looked at together, and r is what difference finds. -/
def DifferPost (w : World) (a b : A.Mac) (r : Option (List Int × A.Pr)) (e : Ending) (w' : World) : Prop := Frm (fun _ => False) w w' ∧
  if A.fit a b = 0 then (match r with
    | none => e = .returned (.tuple #[.slice none 0 0, .bool false, .int .i64 7])
    | some (l, q) => ∃ u, e = .returned (.tuple #[u, .bool (A.ends a q.1), .int .i64 0]) ∧ Ints w' (fun b => w.heap.size ≤ b) u l)
  else e = .returned (.tuple #[.slice none 0 0, .bool false, .int .i64 (A.fit a b)])
set_option maxRecDepth 100000 in
set_option maxHeartbeats 4000000 in
theorem differ_any {w : World} {P Q : Nat → Prop} {v v' : Value} {a b : A.Mac} {f : Nat} {r : Option (List Int × A.Pr)} (h : MachAt w P v a) (h' : MachAt w Q v' b) (hs : Sized a) (hs' : Sized b) (he : A.fit a b = 0 → A.diffO f a b = some r ∧ ∀ l q, r = some (l, q) → A.InP a b q) (hf : f ≤ 100000) :
    Calls Try.prog 8 #[v, v'] w (DifferPost w a b r) := by
  obtain ⟨A1, c1, A2, c2, rfl⟩ := h.form
  obtain ⟨B1, d1, B2, d2, rfl⟩ := h'.form
  have HB0 : Hid (Bx w _ (macC a A1 c1 A2 c2) (macC b B1 d1 B2 d2)) := Bx.new w _ _
  have HM := Lib.hid h
  have HM' := Lib.hid h'
  have HSZ := Lib.hid hs
  have HSZ' := Lib.hid hs'
  have HE := Lib.hid he
  have e0 := HB0.out.ba.cell 0
  have e1 := HB0.out.ba.cell 1
  have e2 := HB0.out.ba.cell 2
  have e3 := HB0.out.ba.cell 3
  have g0 := HB0.out.bb.cell 0
  have g1 := HB0.out.bb.cell 1
  have g2 := HB0.out.bb.cell 2
  have g3 := HB0.out.bb.cell 3
  simp only [macC] at e0 e1 e2 e3 g0 g1 g2 g3
  clear h h' hs hs' he
  go_enter Try.func8, Try.ntmps8
  go_wp2_with fail
  clear e0 e1 e2 e3 g0 g1 g2 g3
  refine (fit_any (HM.out.keep0 HB0.out.fr) (HM'.out.keep0 HB0.out.fr) HSZ.out HSZ'.out).mono ?_
  rintro _ w1 ⟨rfl, f1⟩
  have HB1 := Lib.hid (HB0.out.call f1)
  have HT : Hid (A.fit a b = 0 → A.Two a b) := A.fit_two
  clear f1
  by_cases hf0 : A.fit a b = 0
  · have HT1 := Lib.hid (HT.out hf0)
    have HE1 := Lib.hid (HE.out hf0)
    have HF0 := Lib.hid hf0
    rw [hf0]
    clear hf0
    have e0 := HB1.out.ba.cell 0
    have e1 := HB1.out.ba.cell 1
    have e2 := HB1.out.ba.cell 2
    have e3 := HB1.out.ba.cell 3
    have g0 := HB1.out.bb.cell 0
    have g1 := HB1.out.bb.cell 1
    have g2 := HB1.out.bb.cell 2
    have g3 := HB1.out.bb.cell 3
    simp only [macC] at e0 e1 e2 e3 g0 g1 g2 g3
    go_wp2_with fail
    clear e0 e1 e2 e3 g0 g1 g2 g3
    refine (diff_any (HM.out.keep0 HB1.out.fr) (HM'.out.keep0 HB1.out.fr) HT1.out HE1.out.1 hf).mono ?_
    cases r with
    | none =>
      rintro _ w2 ⟨rfl, f2⟩
      have HB2 := Lib.hid (HB1.out.call f2)
      clear f2
      simp only [pairV]
      go_wp2_with fail
      refine bodyPost_ret (v := .tuple #[.slice none 0 0, .bool false, .int .i64 7]) (by simp [results, Try.results8, go_sem]) rfl ?_
      refine ⟨by first | exact HB2.out.fr.alloc _ | exact HB2.out.fr, ?_⟩
      rw [if_pos HF0.out]
    | some r =>
      obtain ⟨l, q⟩ := r
      rintro _ w2 ⟨u, rfl, hI, f2⟩
      have HB2 := Lib.hid (HB1.out.call f2)
      have HI := Lib.hid hI
      have HQ := Lib.hid (HE1.out.2 l q rfl)
      obtain ⟨qa, qb⟩ := q
      have HB3 := Lib.hid (HB2.out.call ((Frm.refl _ w2).alloc (.cells #[.int .i64 qa, .int .i64 qb] 40)))
      have HI3 := Lib.hid (hI.keep ((Frm.refl (fun _ => False) w2).alloc (.cells #[.int .i64 qa, .int .i64 qb] 40)) (fun _ _ => id))
      have pb := Blk.new w2 40 #[.int .i64 qa, .int .i64 qb]
      have q0 := pb.cell 0
      have q1 := pb.cell 1
      clear hI f2 pb
      have e0 := HB3.out.ba.cell 0
      have e1 := HB3.out.ba.cell 1
      have e2 := HB3.out.ba.cell 2
      have e3 := HB3.out.ba.cell 3
      simp only [macC] at e0 e1 e2 e3
      simp only [pairV]
      go_wp2_with fail
      refine (ends_any (HM.out.keep0 HB3.out.fr) HT1.out.fa qa HQ.out.1).mono ?_
      rintro _ w3 ⟨rfl, f3⟩
      have HB4 := Lib.hid (HB3.out.call f3)
      have hI4 := HI3.out.keep f3 (fun _ _ => id)
      have HI4 : Hid (Ints w3 (fun b => w.heap.size ≤ b) u l) := by
        obtain ⟨A9, c9, e9, hI9⟩ := hI4
        have hle := HB1.out.fr.1
        exact ⟨A9, c9, e9, fun k hk => by obtain ⟨g, o, h1, h2, h3⟩ := hI9 k hk; exact ⟨g, o, h1, Nat.le_trans hle h2, h3⟩⟩
      clear f3 hI4 e0 e1 e2 e3 q0 q1
      go_wp2_with fail
      refine bodyPost_ret (v := .tuple #[u, .bool (A.ends a qa), .int .i64 0]) (by simp [results, Try.results8, go_sem]) rfl ?_
      refine ⟨HB4.out.fr, ?_⟩
      rw [if_pos HF0.out]
      exact ⟨u, rfl, HI4.out⟩
  · have hb : (A.fit a b != 0) = true := by rw [bne_iff_ne]; exact hf0
    have HF0 := Lib.hid hf0
    clear hf0
    go_wp2_with fail
    refine bodyPost_ret (v := .tuple #[.slice none 0 0, .bool false, .int .i64 (A.fit a b)]) (by simp [results, Try.results8, go_sem]) rfl ?_
    refine ⟨HB1.out.fr, ?_⟩
    rw [if_neg HF0.out]
end Go.Proofs.Ytiekaicbjinbaaa
end
section
namespace Go.Proofs.Ytiekaicbjinbaaa
open Go.RowKit
def u64Cs (l : List Int) : Array Value := (l.map fun x => Value.int .u64 x).toArray
theorem u64Cs_made (n : Nat) : madeCells #[.int .u64 0] n = u64Cs (List.replicate n 0) := by
  apply Array.toList_inj.1
  rw [toList_madeCells_one]
  simp [u64Cs]
theorem u64Cs_getD {l : List Int} {i : Nat} (hi : i < l.length) : (u64Cs l)[i]? = some (.int .u64 (l.getD i 0)) := by simp [u64Cs, hi]
theorem u64Cs_set (l : List Int) (i : Nat) (x : Int) : (u64Cs l).setIfInBounds i (.int .u64 x) = u64Cs (l.set i x) := by
  apply Array.toList_inj.1
  simp [u64Cs]
theorem info_u64 : (Try.prog.info? 45).map (fun i => (i.zero, i.size, i.bytes)) = some (some (.int .u64 0), 1, 8) := by kernel_rfl
namespace A
def addTo (ws : List Int) (c x : Int) : Int := if x = -1 then c else IntKind.u64.wrap (c + ws.getD x.toNat 0)
def sumRow (ws : List Int) (row : List Int) : Int := row.foldl (addTo ws) 0
def longer (m : Mac) (ws : List Int) : List Int := m.next.map (sumRow ws)
/-- The first k rows reckoned, the others 0. -/
def longTo (m : Mac) (ws : List Int) (k : Nat) : List Int := (m.next.take k).map (sumRow ws) ++ List.replicate (m.next.length - k) 0
theorem longTo_len (m : Mac) (ws : List Int) {k : Nat} (hk : k ≤ m.next.length) : (longTo m ws k).length = m.next.length := by
  simp [longTo]; omega
theorem longTo_set (m : Mac) (ws : List Int) {k : Nat} (hk : k < m.next.length) : (longTo m ws k).set k (sumRow ws m.next[k]) = longTo m ws (k + 1) := by
  unfold longTo
  rw [List.set_append_right _ _ (by simp; omega), List.take_succ_eq_append_getElem hk]
  have e : k - ((m.next.take k).map (sumRow ws)).length = 0 := by simp; omega
  rw [e, show m.next.length - k = (m.next.length - (k + 1)) + 1 by omega, List.replicate_succ, List.set_cons_zero, List.map_append, List.append_assoc]
  rfl
theorem longTo_end (m : Mac) (ws : List Int) : longTo m ws m.next.length = longer m ws := by simp [longTo, longer]
end A
set_option maxRecDepth 100000 in
set_option maxHeartbeats 4000000 in
theorem longer_any {w : World} {P : Nat → Prop} {v : Value} {m : A.Mac} {ws : List Int} {wg wc : Nat} (h : MachAt w P v m) (hf : A.Fits m) (hn : m.next.length ≤ 4000) (hlt3 : m.letters ≤ 300) (hb : Blk w wg 45 (u64Cs ws)) (hl : ws.length = m.next.length) :
    Calls Try.prog 40 #[v, .slice (some ⟨wg, 0, none⟩) ws.length wc] w fun e w' => e = .returned (.slice (some ⟨w.heap.size + 1, 0, none⟩) ws.length ws.length) ∧ Blk w' (w.heap.size + 1) 45 (u64Cs (A.longer m ws)) ∧ Frm (fun _ => False) w w' := by
  obtain ⟨A1, c1, A2, c2, rfl⟩ := h.form
  obtain ⟨N, hN⟩ : ∃ N, N = ws.length := ⟨_, rfl⟩
  have hmk := run_make_row' (P := Try.prog) 68 45 (.int .u64 0) 8 Try.underlying68 info_u64 rfl .i64 .i64 N (by omega) (by omega)
  have bx := Blk.new w 25 #[.int .i64 m.letters, .int .i64 m.start, .slice A1 m.next.length c1, .slice A2 m.fin.length c2]
  have x2 := bx.cell 2
  have x2' := (bx.alloc (.cells (madeCells #[.int .u64 0] N) 45)).cell 2
  rw [← hN]
  have HN := Lib.hid hN
  have HM := Lib.hid h
  have HF := Lib.hid hf
  have HB := Lib.hid hb
  have HL := Lib.hid hl
  clear h hf hb hN hl bx
  go_enter Try.func40, Try.ntmps40
  go_wp2_with fail
  clear hmk x2 x2'
  have hLN : m.next.length = N := by rw [HN.out, HL.out]
  rw [hLN] at hn ⊢
  have HLN := Lib.hid hLN
  clear hLN
  go_loopg [17] (N + 1) (fun n i wr => ∃ k : Nat, k ≤ N ∧ n = N + 1 - k ∧ i = .int .i64 (k : Int) ∧ Hid (Blk wr (w.heap.size + 1) 45 (u64Cs (A.longTo m ws k))) ∧ Hid (Frm (fun _ => False) w wr))
  case atStart =>
    refine ⟨0, Nat.zero_le _, rfl, rfl, show Blk _ _ _ _ from ?_, ((Frm.refl _ w).alloc _).alloc _⟩
    have : u64Cs (A.longTo m ws 0) = madeCells #[.int .u64 0] N := by rw [u64Cs_made]; simp [A.longTo, HLN.out]
    rw [this]
    exact blk_at (by simp)
  case round =>
    obtain ⟨k, hk, rfl, rfl, Y, F⟩ := hrel
    by_cases hlt : k < N
    · have hlt' : (k : Int) < (N : Int) := by omega
      have hltm : k < m.next.length := by rw [HLN.out]; exact hlt
      obtain ⟨g, o, A3, c3, hA, hc, hrow⟩ := HM.out.next_at hltm
      subst hA
      have c0 := F.out.cell id hc
      have HIN := Lib.hid (HF.out.rows _ (List.getElem_mem hltm)).2
      have HSET : Hid ((A.longTo m ws k).set k (A.sumRow ws (m.next[k]'hltm)) = A.longTo m ws (k + 1)) := A.longTo_set m ws hltm
      have hyl : (A.longTo m ws k).length = N := by rw [A.longTo_len m ws (Nat.le_of_lt hltm), HLN.out]
      have HYL := Lib.hid hyl
      have HROW := Lib.hid hrow
      have hrl : (m.next[k]'hltm).length ≤ 300 := by have := (HF.out.rows _ (List.getElem_mem hltm)).1; omega
      generalize m.next[k]'hltm = row at *
      clear hc hrow hyl hltm
      go_wp2_with fail
      go_loopg [8, 24] (row.length + 1) (fun n c i wr' => ∃ (j : Nat) (cv : Int), j ≤ row.length ∧ n = row.length + 1 - j ∧ i = .int .i64 (j : Int) ∧ c = .int .u64 cv ∧ Hid (A.sumRow ws row = (row.drop j).foldl (A.addTo ws) cv) ∧ wr' = wr)
      case atStart => exact ⟨0, 0, Nat.zero_le _, rfl, rfl, rfl, rfl, rfl⟩
      case round =>
        obtain ⟨j, cv, hj, rfl, rfl, rfl, HJ, rfl⟩ := hrel
        by_cases hltj : j < row.length
        · have hltj' : (j : Int) < (row.length : Int) := by omega
          obtain ⟨g3, o3, hA3, _, hcj⟩ := HROW.out j hltj
          subst hA3
          have c1 := F.out.cell id hcj
          have HJ1 : Hid ((row.drop j).foldl (A.addTo ws) cv = (row.drop (j + 1)).foldl (A.addTo ws) (A.addTo ws cv (row[j]'hltj))) := show _ = _ by rw [List.drop_eq_getElem_cons hltj]; rfl
          have HX := Lib.hid (HIN.out _ (List.getElem_mem hltj))
          generalize row[j]'hltj = x at *
          obtain ⟨hx1, hx2⟩ := HX.out
          clear hcj
          by_cases hx : x = -1
          · subst hx
            have HJ2 : Hid (A.sumRow ws row = (row.drop (j + 1)).foldl (A.addTo ws) cv) := show _ = _ by rw [HJ.out, HJ1.out]; rfl
            go_wp2_with fail
            go_roundg (row.length + 1 - (j + 1))
            case measure => omega
            case rel => exact ⟨j + 1, cv, by omega, rfl, by go_num, rfl, HJ2, rfl⟩
          · have hb : (x != -1) = true := by rw [bne_iff_ne]; exact hx
            obtain ⟨q, rfl⟩ : ∃ q : Nat, x = (q : Int) := ⟨x.toNat, by omega⟩
            have hqN : q < ws.length := by rw [HL.out]; omega
            have hqN' : (q : Int) < (N : Int) := by rw [HN.out]; omega
            have d0 := F.out.cell id ((HB.out.cell q).trans (u64Cs_getD hqN))
            have HJ2 : Hid (A.sumRow ws row = (row.drop (j + 1)).foldl (A.addTo ws) (IntKind.u64.wrap (cv + ws.getD q 0))) := show _ = _ by rw [HJ.out, HJ1.out]; simp [A.addTo, hx]
            generalize ws.getD q 0 = y at *
            clear hx HJ1 HJ hqN
            go_wp2_with fail
            go_roundg (row.length + 1 - (j + 1))
            case measure => omega
            case rel => exact ⟨j + 1, _, by omega, rfl, by go_num, rfl, HJ2, rfl⟩
        · have hltj' : ¬ (j : Int) < (row.length : Int) := by omega
          have HJ2 : Hid (A.sumRow ws row = cv) := show _ = _ by rw [HJ.out, List.drop_of_length_le (by omega)]; rfl
          have y0 := (Y.out.cell k).trans (u64Cs_getD (by rw [HYL.out]; exact hlt))
          have yf := Y.out.frozen k
          generalize (A.longTo m ws k).getD k 0 = y at y0
          go_wp2_with fail
          go_roundg (N + 1 - (k + 1))
          case measure => omega
          case rel =>
            have hY := Y.out.set_ k (.int .u64 cv)
            rw [u64Cs_set, ← HJ2.out, HSET.out] at hY
            rw [HJ2.out] at hY
            exact ⟨k + 1, by omega, rfl, by go_num, hY, F.out.set_ (fun h => by dsimp only at h; omega) _⟩
    · have hlt' : ¬ (k : Int) < (N : Int) := by omega
      obtain rfl : k = N := by omega
      go_wp2_with fail
      go_ret
      refine ⟨rfl, ?_, F.out⟩
      have := Y.out
      rw [← HLN.out, A.longTo_end] at this
      exact this
end Go.Proofs.Ytiekaicbjinbaaa
end
section
namespace Go.Proofs.Ytiekaicbjinbaaa
open Go.RowKit
namespace A
def words0 (m : Mac) : List Int := m.fin.map fun b => if b then 1 else 0
def longN (m : Mac) : Nat → List Int → List Int
  | 0, ws => ws
  | n + 1, ws => longN m n (longer m ws)
def count (m : Mac) (n : Int) : Int × Int :=
  if valid m = 0 ∧ 0 ≤ n ∧ n ≤ 1000 then (if m.start = -1 then (0, 0) else ((longN m n.toNat (words0 m)).getD m.start.toNat 0, 0)) else (0, 1)
def firstTo (m : Mac) (k : Nat) : List Int := (m.fin.take k).map (fun b => if b then 1 else 0) ++ List.replicate (m.fin.length - k) 0
theorem firstTo_len (m : Mac) {k : Nat} (hk : k ≤ m.fin.length) : (firstTo m k).length = m.fin.length := by
  simp [firstTo]; omega
theorem firstTo_set (m : Mac) {k : Nat} (hk : k < m.fin.length) : (firstTo m k).set k (if m.fin[k] then 1 else 0) = firstTo m (k + 1) := by
  unfold firstTo
  rw [List.set_append_right _ _ (by simp; omega), List.take_succ_eq_append_getElem hk]
  have e : k - ((m.fin.take k).map (fun b => if b then (1 : Int) else 0)).length = 0 := by simp; omega
  rw [e, show m.fin.length - k = (m.fin.length - (k + 1)) + 1 by omega, List.replicate_succ, List.set_cons_zero, List.map_append, List.append_assoc]
  rfl
theorem firstTo_skip (m : Mac) {k : Nat} (hk : k < m.fin.length) (h : m.fin[k] = false) : firstTo m k = firstTo m (k + 1) := by
  unfold firstTo
  rw [List.take_succ_eq_append_getElem hk, h, show m.fin.length - k = (m.fin.length - (k + 1)) + 1 by omega, List.replicate_succ, List.map_append, List.append_assoc]
  rfl
theorem firstTo_end (m : Mac) : firstTo m m.fin.length = words0 m := by simp [firstTo, words0]
theorem longer_len (m : Mac) (ws : List Int) : (longer m ws).length = m.next.length := by simp [longer]
theorem longN_len (m : Mac) : ∀ (n : Nat) (ws : List Int), ws.length = m.next.length → (longN m n ws).length = m.next.length
  | 0, _, h => h
  | n + 1, ws, _ => longN_len m n _ (longer_len m ws)
end A
set_option maxRecDepth 100000 in
set_option maxHeartbeats 4000000 in
theorem count_any {w : World} {P : Nat → Prop} {v : Value} {m : A.Mac} {n : Int} (h : MachAt w P v m) (hs : Sized m) :
    Calls Try.prog 17 #[v, .int .i64 n] w fun e w' => e = .returned (.tuple #[.int .u64 (A.count m n).1, .int .i64 (A.count m n).2]) ∧ Frm (fun _ => False) w w' := by
  obtain ⟨A1, c1, A2, c2, rfl⟩ := h.form
  have bx := Blk.new w 25 #[.int .i64 m.letters, .int .i64 m.start, .slice A1 m.next.length c1, .slice A2 m.fin.length c2]
  have HB0 := Lib.hid bx
  have HF0 : Hid (Frm (fun _ => False) w (w.alloc (.cells #[.int .i64 m.letters, .int .i64 m.start, .slice A1 m.next.length c1, .slice A2 m.fin.length c2] 25))) := (Frm.refl _ w).alloc _
  have HM := Lib.hid h
  have HSZ := Lib.hid hs
  have HX : Hid (A.count m n = if A.valid m = 0 ∧ 0 ≤ n ∧ n ≤ 1000 then (if m.start = -1 then (0, 0) else ((A.longN m n.toNat (A.words0 m)).getD m.start.toNat 0, 0)) else (0, 1)) := rfl
  have x0 := bx.cell 0
  have x1 := bx.cell 1
  have x2 := bx.cell 2
  have x3 := bx.cell 3
  clear h hs bx
  go_enter Try.func17, Try.ntmps17
  go_wp2_with fail
  refine (valid_any (HM.out.keep0 HF0.out) HSZ.out).mono ?_
  rintro _ w1 ⟨rfl, f1⟩
  have HF1 := Lib.hid (HF0.out.trans f1)
  have HB1 := Lib.hid (f1.blk HB0.out id)
  have HV : Hid (A.valid m = 0 → A.Fits m ∧ m.letters ≤ 300 ∧ m.next.length ≤ 4000) := A.valid_fits
  clear f1 x0 x1 x2 x3
  have x1 := HB1.out.cell 1
  generalize A.valid m = vm at *
  by_cases hv : vm = 0
  · subst hv
    obtain ⟨hfit, hl300, hn4⟩ := HV.out rfl
    have HFI := Lib.hid hfit
    clear hfit
    by_cases h0 : n < 0
    · have HZ : Hid (A.count m n = (0, 1)) := show _ = _ by rw [HX.out, if_neg (by omega)]
      go_wp2_with fail
      refine bodyPost_ret (v := .tuple #[.int .u64 0, .int .i64 1]) (by simp [results, Try.results17, go_sem]) rfl ⟨by rw [HZ.out], HF1.out⟩
    by_cases h1 : 1000 < n
    · have h0' : 0 ≤ n := by omega
      have HZ : Hid (A.count m n = (0, 1)) := show _ = _ by rw [HX.out, if_neg (by omega)]
      go_wp2_with fail
      refine bodyPost_ret (v := .tuple #[.int .u64 0, .int .i64 1]) (by simp [results, Try.results17, go_sem]) rfl ⟨by rw [HZ.out], HF1.out⟩
    have h0' : 0 ≤ n := by omega
    have h1' : n ≤ 1000 := by omega
    by_cases h2 : m.start = -1
    · have HZ : Hid (A.count m n = (0, 0)) := show _ = _ by rw [HX.out, if_pos ⟨rfl, h0', h1'⟩, if_pos h2]
      rw [h2] at x1
      go_wp2_with fail
      refine bodyPost_ret (v := .tuple #[.int .u64 0, .int .i64 0]) (by simp [results, Try.results17, go_sem]) rfl ⟨by rw [HZ.out], HF1.out⟩
    have HZ : Hid (A.count m n = ((A.longN m n.toNat (A.words0 m)).getD m.start.toNat 0, 0)) := show _ = _ by rw [HX.out, if_pos ⟨rfl, h0', h1'⟩, if_neg h2]
    have hb2 : (m.start != -1) = true := by rw [bne_iff_ne]; exact h2
    have hb3 : (m.start == -1) = false := by rw [beq_eq_false_iff_ne]; exact h2
    have HS2 := Lib.hid h2
    obtain ⟨nn, rfl⟩ : ∃ nn : Nat, n = (nn : Int) := ⟨n.toNat, by omega⟩
    have hmk := run_make_row' (P := Try.prog) 68 45 (.int .u64 0) 8 Try.underlying68 info_u64 rfl .i64 .i64 m.next.length (by omega) (by omega)
    have x2 := HB1.out.cell 2
    have x3 := HB1.out.cell 3
    have x3' := (HB1.out.alloc (.cells (madeCells #[.int .u64 0] m.next.length) 45)).cell 3
    clear h2 HV HX
    go_wp2_with fail
    have hfn := HFI.out.fin
    have HFN := Lib.hid hfn
    have HLW : Hid (w.heap.size < w1.heap.size) := HB1.out.lt
    clear hmk x1 x2 x3 x3' hfn
    go_loopg [30] (m.fin.length + 1) (fun g i wr => ∃ k : Nat, k ≤ m.fin.length ∧ g = m.fin.length + 1 - k ∧ i = .int .i64 (k : Int) ∧ Hid (Blk wr w1.heap.size 45 (u64Cs (A.firstTo m k))) ∧ Hid (Blk wr w.heap.size 25 #[.int .i64 m.letters, .int .i64 m.start, .slice A1 m.next.length c1, .slice A2 m.fin.length c2]) ∧ Hid (Frm (fun _ => False) w wr))
    case atStart =>
      refine ⟨0, Nat.zero_le _, rfl, rfl, show Blk _ _ _ _ from ?_, HB1.out.alloc _, HF1.out.alloc _⟩
      have : u64Cs (A.firstTo m 0) = madeCells #[.int .u64 0] m.next.length := by rw [u64Cs_made]; simp [A.firstTo, HFN.out]
      rw [this]
      exact Blk.new w1 _ _
    case round =>
      obtain ⟨k, hk, rfl, rfl, Y, X, F⟩ := hrel
      by_cases hlt : k < m.fin.length
      · have hlt' : (k : Int) < (m.fin.length : Int) := by omega
        obtain ⟨g, o, hA, hc⟩ := HM.out.fin_at hlt
        subst hA
        have c0 := F.out.cell id hc
        have hlw := HLW.out
        have HK : Hid ((A.firstTo m k).set k (if m.fin[k]'hlt then 1 else 0) = A.firstTo m (k + 1)) := A.firstTo_set m hlt
        have HK0 : Hid (m.fin[k]'hlt = false → A.firstTo m k = A.firstTo m (k + 1)) := A.firstTo_skip m hlt
        have hkn : (k : Int) < (m.next.length : Int) := by rw [HFN.out]; exact hlt'
        have y0 := (Y.out.cell k).trans (u64Cs_getD (by rw [A.firstTo_len m (Nat.le_of_lt hlt)]; exact hlt))
        have yf := Y.out.frozen k
        generalize (A.firstTo m k).getD k 0 = y at y0
        generalize m.fin[k]'hlt = b at *
        clear hc
        cases b with
        | false =>
          have HY : Hid (Blk wr w1.heap.size 45 (u64Cs (A.firstTo m (k + 1)))) := by rw [← HK0.out rfl]; exact Y.out
          go_wp2_with fail
          go_roundg (m.fin.length + 1 - (k + 1))
          case measure => omega
          case rel => exact ⟨k + 1, by omega, rfl, by go_num, HY, X, F⟩
        | true =>
          go_wp2_with fail
          go_roundg (m.fin.length + 1 - (k + 1))
          case measure => omega
          case rel =>
            have hY := Y.out.set_ k (.int .u64 1)
            rw [u64Cs_set] at hY
            have hk2 := HK.out
            simp only [if_true] at hk2
            rw [hk2] at hY
            exact ⟨k + 1, by omega, rfl, by go_num, hY, X.out.far (by dsimp only; omega) _, F.out.set_ (fun h => by dsimp only at h; omega) _⟩
      · have hlt' : ¬ (k : Int) < (m.fin.length : Int) := by omega
        obtain rfl : k = m.fin.length := by omega
        have HY := Y
        rw [A.firstTo_end] at HY
        go_wp2_with fail
        have HW0 : Hid ((A.words0 m).length = m.next.length) := show _ = _ by rw [A.words0, List.length_map, HFN.out]
        clear hlt hlt' hk
        go_loopg [6, 41] (nn + 1) (fun gk u6 i wr' => ∃ (j g : Nat) (ws : List Int), j ≤ nn ∧ gk = nn + 1 - j ∧ i = .int .i64 (j : Int) ∧ u6 = .slice (some ⟨g, 0, none⟩) m.next.length m.next.length ∧ ws.length = m.next.length ∧ Hid (A.longN m nn (A.words0 m) = A.longN m (nn - j) ws) ∧ Hid (Blk wr' g 45 (u64Cs ws)) ∧ Hid (Blk wr' w.heap.size 25 #[.int .i64 m.letters, .int .i64 m.start, .slice A1 m.next.length c1, .slice A2 m.fin.length c2]) ∧ Hid (Frm (fun _ => False) w wr'))
        case atStart => exact ⟨0, _, A.words0 m, Nat.zero_le _, rfl, rfl, rfl, HW0.out, rfl, HY, X, F⟩
        case round =>
          clear HY X F Y
          obtain ⟨j, g, ws, hj, rfl, rfl, rfl, hwl, HL, HG, X, F⟩ := hrel
          by_cases hltj : j < nn
          · have hltj' : (j : Int) < (nn : Int) := by omega
            have x0 := X.out.cell 0
            have x1 := X.out.cell 1
            have x2 := X.out.cell 2
            have x3 := X.out.cell 3
            have HLS : Hid (A.longN m (nn - j) ws = A.longN m (nn - (j + 1)) (A.longer m ws)) := show _ = _ by rw [show nn - j = (nn - (j + 1)) + 1 by omega]; rfl
            have HWL := Lib.hid hwl
            clear hwl
            go_wp2_with fail
            have hlo := longer_any (wc := m.next.length) (HM.out.keep0 F.out) HFI.out hn4 hl300 HG.out HWL.out
            rw [HWL.out] at hlo
            refine hlo.mono ?_
            rintro _ w4 ⟨rfl, hb4, f4⟩
            have HG4 := Lib.hid hb4
            have X4 := Lib.hid (f4.blk X.out id)
            have F4 := Lib.hid (F.out.trans f4)
            clear hlo hb4 f4 x0 x1 x2 x3
            go_wp2_with fail
            go_roundg (nn + 1 - (j + 1))
            case measure => omega
            case rel => exact ⟨j + 1, _, A.longer m ws, by omega, rfl, by go_num, rfl, A.longer_len m ws, HL.out.trans HLS.out, HG4, X4, F4⟩
          · have hltj' : ¬ (j : Int) < (nn : Int) := by omega
            obtain rfl : j = nn := by omega
            have hl := HL.out
            rw [Nat.sub_self] at hl
            have hst := HFI.out.start
            obtain ⟨hst1, hst2⟩ := hst
            have hs2 := HS2.out
            obtain ⟨q, hq⟩ : ∃ q : Nat, m.start = (q : Int) := ⟨m.start.toNat, by omega⟩
            have hqn : (q : Int) < (m.next.length : Int) := by omega
            have hqw : q < ws.length := by omega
            have d0 := (HG.out.cell q).trans (u64Cs_getD hqw)
            have x1 := X.out.cell 1
            have HZ2 : Hid (A.count m j = (ws.getD q 0, 0)) := show _ = _ by
              rw [HZ.out, Int.toNat_natCast, hl, hq]; rfl
            rw [hq] at x1
            generalize ws.getD q 0 = y at *
            clear hl hs2 hst1 hst2 hq hb2 hb3 hqw
            go_wp2_with fail
            refine bodyPost_ret (v := .tuple #[.int .u64 y, .int .i64 0]) (by simp [results, Try.results17, go_sem]) rfl ⟨by rw [HZ2.out], F.out⟩
  · have hb : (vm != 0) = true := by rw [bne_iff_ne]; exact hv
    have HZ : Hid (A.count m n = (0, 1)) := show _ = _ by rw [HX.out, if_neg (fun h => hv h.1)]
    clear hv
    go_wp2_with fail
    refine bodyPost_ret (v := .tuple #[.int .u64 0, .int .i64 1]) (by simp [results, Try.results17, go_sem]) rfl ⟨by rw [HZ.out], HF1.out⟩
end Go.Proofs.Ytiekaicbjinbaaa
end
section
namespace Go.Proofs.Ytiekaicbjinbaaa.A
/-- How many words of a length are accepted from a state, as it is reckoned. -/
def valN (m : Mac) (n : Nat) (s : Int) : Int := if s = -1 then 0 else (longN m n (words0 m)).getD s.toNat 0
theorem longN_succ (m : Mac) : ∀ (n : Nat) (ws : List Int), longN m (n + 1) ws = longer m (longN m n ws)
  | 0, _ => rfl
  | n + 1, ws => longN_succ m n (longer m ws)
def foldN (L : Nat) (v : Nat → Int) : Int := (List.range L).foldl (fun c k => IntKind.u64.wrap (c + v k)) 0
theorem wrap_id {c : Int} (h : 0 ≤ c ∧ c < 18446744073709551616) : IntKind.u64.wrap c = c := IntWalk.u64_in c (by omega)
theorem wrap_in (c : Int) : 0 ≤ IntKind.u64.wrap c ∧ IntKind.u64.wrap c < 18446744073709551616 := by
  rw [IntKind.wrap_u64]
  omega
theorem fold_congr {g g' : Int → Nat → Int} (c : Int) : ∀ L : Nat, (∀ k, k < L → ∀ c, g c k = g' c k) → (List.range L).foldl g c = (List.range L).foldl g' c
  | 0, _ => rfl
  | L + 1, h => by
    rw [List.range_succ, List.foldl_append, List.foldl_append, fold_congr c L fun k hk => h k (by omega)]
    simp [h L (by omega)]
theorem sumRow_fold {m : Mac} {ws : List Int} : ∀ (row : List Int) (c : Int), 0 ≤ c ∧ c < 18446744073709551616 → row.foldl (addTo ws) c = row.foldl (fun c x => IntKind.u64.wrap (c + if x = -1 then 0 else ws.getD x.toNat 0)) c
  | [], _, _ => rfl
  | x :: row, c, hc => by
    rw [List.foldl_cons, List.foldl_cons]
    unfold addTo
    by_cases e : x = -1
    · rw [if_pos e, if_pos e, Int.add_zero, wrap_id hc]
      exact sumRow_fold (m := m) row c hc
    · rw [if_neg e, if_neg e]
      exact sumRow_fold (m := m) row _ (wrap_in _)
theorem foldl_range (row : List Int) (g : Int → Int → Int) (c : Int) : row.foldl g c = (List.range row.length).foldl (fun c k => g c (row.getD k 0)) c := by
  have gen : ∀ n, n ≤ row.length → (row.take n).foldl g c = (List.range n).foldl (fun c k => g c (row.getD k 0)) c := by
    intro n
    induction n with
    | zero => intro _; rfl
    | succ n ih =>
      intro hn
      rw [List.take_succ_eq_append_getElem (by omega), List.foldl_append, List.range_succ, List.foldl_append, ih (by omega)]
      simp [show n < row.length by omega]
  have := gen row.length (Nat.le_refl _)
  rwa [List.take_length] at this
theorem valN_succ {m : Mac} (h : Fits m) {n : Nat} {s : Int} (hs : In m s) : valN m (n + 1) s = foldN m.letters.toNat fun k => valN m n (lead m s k) := by
  by_cases e : s = -1
  · subst e
    unfold foldN
    have : ∀ L : Nat, (List.range L).foldl (fun (c : Int) (k : Nat) => IntKind.u64.wrap (c + valN m n (lead m (-1) k))) 0 = 0 := by
      intro L
      induction L with
      | zero => rfl
      | succ L ih =>
        rw [List.range_succ, List.foldl_append, ih]
        rfl
    rw [this]
    rfl
  · obtain ⟨h1, h2⟩ := hs
    have hlt : s.toNat < m.next.length := by omega
    unfold valN
    rw [if_neg e, longN_succ]
    have e1 : (longer m (longN m n (words0 m))).getD s.toNat 0 = sumRow (longN m n (words0 m)) m.next[s.toNat] := by
      unfold longer
      simp [hlt]
    rw [e1]
    unfold sumRow
    rw [sumRow_fold (m := m) _ 0 (by omega), foldl_range]
    obtain ⟨hr, _⟩ := h.rows _ (List.getElem_mem hlt)
    have hL : m.next[s.toNat].length = m.letters.toNat := by omega
    rw [hL]
    unfold foldN
    refine fold_congr 0 _ fun k hk c => ?_
    congr 2
    have hlead : lead m s k = m.next[s.toNat].getD k 0 := by
      unfold lead
      rw [if_neg e]
      simp [hlt]
    dsimp only
    rw [hlead]
theorem valN_zero {m : Mac} (h : Fits m) {s : Int} (hs : In m s) : valN m 0 s = if ends m s then 1 else 0 := by
  unfold valN ends
  by_cases e : s = -1
  · rw [if_pos e]; simp [e]
  · rw [if_neg e]
    obtain ⟨h1, h2⟩ := hs
    have := h.fin
    have hlt : s.toNat < m.fin.length := by omega
    simp [longN, words0, hlt, e]
theorem valN_eq {a b : Mac} (h : Two a b) : ∀ (n : Nat) (p : Pr), InP a b p → (∀ w : List Int, w.length = n → OkW a w → agree a b (runP a b p w) = true) → valN a n p.1 = valN b n p.2
  | 0, p, hp, hw => by
    have := hw [] rfl (fun k hk => by cases hk)
    simp only [runP, agree, beq_iff_eq] at this
    rw [valN_zero h.fa hp.1, valN_zero h.fb hp.2, this]
  | n + 1, p, hp, hw => by
    rw [valN_succ h.fa hp.1, valN_succ h.fb hp.2, ← h.ll]
    refine fold_congr 0 _ fun k hk c => ?_
    have hk' : (k : Int) < a.letters := by have := h.fa.letters; omega
    have ih := valN_eq h n (leadP a b p k) (h.lead hp (by omega) hk') fun w hl hok => hw (k :: w) (by simp [hl]) fun x hx => by
      rcases List.mem_cons.1 hx with rfl | hx
      · exact ⟨by omega, hk'⟩
      · exact hok x hx
    exact congrArg (fun y => IntKind.u64.wrap (c + y)) ih
theorem count_val {m : Mac} {n : Nat} (hv : valid m = 0) (hn : n ≤ 1000) : count m n = (valN m n m.start, 0) := by
  unfold count valN
  rw [if_pos ⟨hv, by omega, by omega⟩, Int.toNat_natCast]
  split <;> rfl
/-- Of a length below that of the least word that tells apart, both accept as many. -/
theorem count_eq {a b : Mac} (h : Two a b) (va : valid a = 0) (vb : valid b = 0) {l : List Int} (hl : Least0 a b l) {n : Nat} (hn : n < l.length) (h1 : n ≤ 1000) : count a n = count b n := by
  rw [count_val va h1, count_val vb h1, valN_eq h n (a.start, b.start) ⟨h.fa.start, h.fb.start⟩ fun w hw hok => ?_]
  rcases hag : agree a b (runP a b (a.start, b.start) w) with _ | _
  · exact absurd (.inl (by omega)) (hl.2 w ⟨hok, hag⟩)
  · rfl
/-- A least word that tells apart is accepted by one alone. -/
theorem from_run {m : Mac} : ∀ {w : List Int} {s : Int}, (∀ k ∈ w, 0 ≤ k ∧ k < m.letters) → from_ m s w = some (runS m s w)
  | [], _, _ => rfl
  | k :: w, s, h => by
    unfold from_
    rw [if_pos (h k List.mem_cons_self)]
    exact from_run fun x hx => h x (List.mem_cons_of_mem _ hx)
theorem accepts_run {m : Mac} (hv : valid m = 0) {w : List Int} (h : ∀ k ∈ w, 0 ≤ k ∧ k < m.letters) : accepts m w = ends m (runS m m.start w) := by
  unfold accepts
  rw [if_pos hv, from_run h]
/-- Where no word tells two machines apart, any word is accepted by both or by neither. -/
theorem same_accepts {a b : Mac} (h : Two a b) (va : valid a = 0) (vb : valid b = 0) (hd : ¬ ∃ w, Dist a b w) (w : List Int) : accepts a w = accepts b w := by
  by_cases hok : OkW a w
  · rw [accepts_run va hok, accepts_run vb (by rw [← h.ll]; exact hok)]
    rcases hag : agree a b (runP a b (a.start, b.start) w) with _ | _
    · exact absurd ⟨w, hok, hag⟩ hd
    · rw [runP_run] at hag
      simpa [agree] using hag
  · have none_ : ∀ (m : Mac) (hl : m.letters = a.letters) (w : List Int) (s : Int), ¬ OkW a w → from_ m s w = none := by
      intro m hl w
      induction w with
      | nil => intro s h; exact absurd (fun k hk => by cases hk) h
      | cons k w ih =>
        intro s hno
        unfold from_
        rw [hl]
        split
        · rename_i hk
          exact ih _ fun hw => hno fun x hx => by
            rcases List.mem_cons.1 hx with rfl | hx
            · exact hk
            · exact hw x hx
        · rfl
    unfold accepts
    rw [if_pos va, if_pos vb, none_ a rfl w _ hok, none_ b h.ll.symm w _ hok]
theorem least_one {a b : Mac} (h : Two a b) (va : valid a = 0) (vb : valid b = 0) {l : List Int} (hl : Least0 a b l) : accepts a l = ends a (runP a b (a.start, b.start) l).1 ∧ accepts b l = !ends a (runP a b (a.start, b.start) l).1 := by
  have hok := hl.1.1
  have hd := hl.1.2
  rw [accepts_run va hok, accepts_run vb (by rw [← h.ll]; exact hok)]
  rw [runP_run] at hd ⊢
  dsimp only at hd ⊢
  refine ⟨rfl, ?_⟩
  simp only [agree] at hd
  revert hd
  rcases ends a (runS a a.start l) <;> rcases ends b (runS b b.start l) <;> simp
/-- There is one least word. -/
theorem least_uniq {a b : Mac} {l l' : List Int} (h : Least0 a b l) (h' : Least0 a b l') : l = l' := by
  rcases sl_tri l l' with e | e | e
  · exact e
  · exact absurd e (h'.2 l h.1)
  · exact absurd e (h.2 l' h'.1)
theorem least_swap {a b : Mac} (hl : a.letters = b.letters) {l : List Int} (h : Least0 a b l) : Least0 b a l := by
  have sw : ∀ w, Dist a b w ↔ Dist b a w := fun w => by
    unfold Dist OkW
    rw [runP_run, runP_run, hl]
    simp only [agree]
    rw [Bool.beq_comm]
  exact ⟨(sw l).1 h.1, fun v hv => h.2 v ((sw v).2 hv)⟩
end Go.Proofs.Ytiekaicbjinbaaa.A
end
section
namespace Go.Proofs.Ytiekaicbjinbaaa
open Go.RowKit
set_option maxRecDepth 100000 in
set_option maxHeartbeats 4000000 in
/-- Relate's closure, its machines in boxes ab and bb. -/
theorem relate1_any {w : World} {P Q : Nat → Prop} {a b : A.Mac} {ab bb : Nat} {A1 A2 B1 B2 : Option Addr} {c1 c2 d1 d2 : Nat} (hA : Blk w ab 25 (macC a A1 c1 A2 c2)) (hB : Blk w bb 25 (macC b B1 d1 B2 d2)) (h : MachAt w P (macV a A1 c1 A2 c2) a) (h' : MachAt w Q (macV b B1 d1 B2 d2) b) (ht : A.Two a b) (p : A.Pr) (k : Int) (hp : A.InP a b p) (h0 : 0 ≤ k) (hk : k < a.letters) :
    Calls Try.prog 32 #[pairV p, .int .i64 k, .pointer (some ⟨ab, 0, none⟩), .pointer (some ⟨bb, 0, none⟩)] w fun e w' => e = .returned (pairV (A.leadP a b p k)) ∧ Frm (fun _ => False) w w' := by
  obtain ⟨p1, p2⟩ := p
  have HF0 : Hid (Frm (fun _ => False) w ((w.alloc (.cells #[.int .i64 p1, .int .i64 p2] 40)).alloc (.cells #[.int .i64 0, .int .i64 0] 40))) := ((Frm.refl _ w).alloc _).alloc _
  have hA2 := HF0.out.blk hA id
  have hB2 := HF0.out.blk hB id
  have q0 := ((Blk.new w 40 #[.int .i64 p1, .int .i64 p2]).alloc (.cells #[.int .i64 0, .int .i64 0] 40)).cell 0
  have q1 := ((Blk.new w 40 #[.int .i64 p1, .int .i64 p2]).alloc (.cells #[.int .i64 0, .int .i64 0] 40)).cell 1
  have HR : Hid (Blk ((w.alloc (.cells #[.int .i64 p1, .int .i64 p2] 40)).alloc (.cells #[.int .i64 0, .int .i64 0] 40)) (w.heap.size + 1) 40 #[.int .i64 0, .int .i64 0]) := blk_at (by simp)
  have e0 := hA2.cell 0
  have e1 := hA2.cell 1
  have e2 := hA2.cell 2
  have e3 := hA2.cell 3
  have g0 := hB2.cell 0
  have g1 := hB2.cell 1
  have g2 := hB2.cell 2
  have g3 := hB2.cell 3
  simp only [macC] at e0 e1 e2 e3 g0 g1 g2 g3
  have HM := Lib.hid (h.keep0 HF0.out)
  have HM' := Lib.hid (h'.keep0 HF0.out)
  have HT := Lib.hid ht
  have HP := Lib.hid hp
  clear h h' ht hp hA hB hA2 hB2
  simp only [pairV]
  go_enter Try.func32, Try.ntmps32
  go_wp2_with fail
  clear e0 e1 e2 e3 g0 g1 g2 g3 q0 q1
  refine (leadPair_any HM.out HM'.out HT.out (p1, p2) k HP.out h0 hk).mono ?_
  rintro _ w2 ⟨rfl, f2⟩
  have HF2 := Lib.hid (HF0.out.trans f2)
  have HR2 := Lib.hid (f2.blk HR.out id)
  have r0 := HR2.out.cell 0
  have r1 := HR2.out.cell 1
  have s0 := HR2.out.frozen 0
  have s1 := HR2.out.frozen 1
  generalize hq : A.leadP a b (p1, p2) k = q
  obtain ⟨qa, qb⟩ := q
  have HQ := Lib.hid hq
  clear hq
  simp only [pairV]
  clear f2
  go_wp2_with fail
  have FZ := Frm.set2 (w := w2) (w.heap.size + 1) (.int .i64 qa) (.int .i64 qb)
  have HRF := Lib.hid ((HR2.out.set_ 0 (.int .i64 qa)).set_ 1 (.int .i64 qb))
  have d0 := HRF.out.cell 0
  have d1 := HRF.out.cell 1
  refine bodyPost_ret (v := pairV (qa, qb)) (by simp [results, Try.results32, go_sem, pairV, r0, r1]) rfl ⟨by first | rfl | (rw [HQ.out]; rfl) | rw [HQ.out], ?_⟩
  exact Frm.mono (E := fun b => b = w.heap.size + 1) ((HF2.out.mono fun _ _ h => h.elim).trans FZ) fun b hb h => by omega
end Go.Proofs.Ytiekaicbjinbaaa
end
section
namespace Go.Proofs.Ytiekaicbjinbaaa
open Go.RowKit
def updF {α : Type} (f : Nat → α) (i : Nat) (x : α) : Nat → α := fun k => if k = i then x else f k
theorem updF_same {α : Type} (f : Nat → α) (i : Nat) (x : α) : updF f i x i = x := by simp [updF]
theorem updF_other {α : Type} (f : Nat → α) {i k : Nat} (x : α) (h : k ≠ i) : updF f i x k = f k := by simp [updF, h]
def cellsOf (n : Nat) (vf : Nat → Value) : Array Value := ((List.range n).map vf).toArray
theorem cellsOf_get {n : Nat} (vf : Nat → Value) {i : Nat} (hi : i < n) : (cellsOf n vf)[i]? = some (vf i) := by simp [cellsOf, hi]
theorem cellsOf_set {n : Nat} (vf : Nat → Value) (i : Nat) (v : Value) : (cellsOf n vf).setIfInBounds i v = cellsOf n (updF vf i v) := by
  apply Array.toList_inj.1
  simp only [cellsOf, Array.toList_setIfInBounds]
  apply List.ext_getElem
  · simp
  · intro k h1 h2
    simp only [List.length_set, List.length_map, List.length_range] at h1
    simp only [List.getElem_set, List.getElem_map, List.getElem_range, updF]
    by_cases h : i = k
    · subst h; simp
    · rw [if_neg h, if_neg (fun e => h e.symm)]
structure GT where
  oty : TypeId
  e : TypeId
  sz : Nat
/-- The outer block ob of n slices vf, whose rows hold the cells cf, ln elements each; all lie in S. -/
structure Grp (T : GT) (w : World) (S : Nat → Prop) (ob n : Nat) (vf : Nat → Value) (ln : Nat → Nat) (cf : Nat → List Value) : Prop where
  out : Blk w ob T.oty (cellsOf n vf)
  so : S ob
  own : ∀ i, i < n → w.ownsRow 0 T.e T.sz (vf i) (ln i) (cf i)
  lie : ∀ i, i < n → ∀ g, (vf i).ownBlock = some g → S g ∧ g ≠ ob
  dis : ∀ i j, i < n → j < n → i ≠ j → ∀ g, (vf i).ownBlock = some g → (vf j).ownBlock ≠ some g
section
variable {T : GT} {w w' : World} {S S' E : Nat → Prop} {ob n : Nat} {vf : Nat → Value} {ln : Nat → Nat} {cf : Nat → List Value}
theorem Grp.mono (h : Grp T w S ob n vf ln cf) (hS : ∀ b, b < w.heap.size → S b → S' b) : Grp T w S' ob n vf ln cf :=
  ⟨h.out, hS _ h.out.lt h.so, h.own, fun i hi g hg => ⟨hS _ ((h.own i hi).lt g hg).2 (h.lie i hi g hg).1, (h.lie i hi g hg).2⟩, h.dis⟩
theorem Grp.frm (h : Grp T w S ob n vf ln cf) (F : Frm E w w') (hE : ∀ b, b < w.heap.size → S b → ¬ E b) : Grp T w' S ob n vf ln cf :=
  ⟨F.blk h.out (hE _ h.out.lt h.so), h.so, fun i hi => F.row (h.own i hi) (fun g hg => hE g ((h.own i hi).lt g hg).2 (h.lie i hi g hg).1) (Nat.le_refl _), h.lie, h.dis⟩
theorem Grp.frm0 (h : Grp T w S ob n vf ln cf) (F : Frm (fun _ => False) w w') : Grp T w' S ob n vf ln cf := h.frm F fun _ _ _ => id
theorem Grp.congr {ln' : Nat → Nat} {cf' : Nat → List Value} (h : Grp T w S ob n vf ln cf) (h1 : ∀ i, i < n → ln' i = ln i) (h2 : ∀ i, i < n → cf' i = cf i) : Grp T w S ob n vf ln' cf' :=
  ⟨h.out, h.so, fun i hi => by rw [h1 i hi, h2 i hi]; exact h.own i hi, h.lie, h.dis⟩
/-- The slice at i: its form, its cell in the outer block. -/
theorem Grp.slot (h : Grp T w S ob n vf ln cf) {i : Nat} (hi : i < n) : ∃ A c, vf i = .slice A (ln i) c ∧ w.cell? ⟨ob, i, none⟩ = some (.slice A (ln i) c) ∧ w.frozen? ⟨ob, i, none⟩ = false ∧ (0 < ln i → ∃ g, A = some ⟨g, 0, none⟩) ∧ (ln i ≤ c) := by
  obtain ⟨A, c, e⟩ := own_form (h.own i hi)
  refine ⟨A, c, e, by rw [h.out.cell i, cellsOf_get vf hi, e], h.out.frozen i, fun hp => ?_, ?_⟩
  · obtain ⟨g, cap, e'⟩ := (h.own i hi).form hp
    obtain ⟨e', _⟩ := e'
    rw [e] at e'
    injection e' with e1
    exact ⟨g, e1⟩
  · rcases (h.own i hi).2 with ⟨e', hn⟩ | ⟨g, cap, cur, e', _, _, hle, _⟩
    · omega
    · rw [e] at e'
      injection e' with e1 e2 e3
      omega
/-- A cell of the row i. -/
theorem Grp.cell (h : Grp T w S ob n vf ln cf) {i : Nat} (hi : i < n) {g c : Nat} (e : vf i = .slice (some ⟨g, 0, none⟩) (ln i) c) {j : Nat} {u : Value} (hj : (cf i)[j]? = some u) : w.cell? ⟨g, j, none⟩ = some u ∧ w.frozen? ⟨g, j, none⟩ = false ∧ S g ∧ g ≠ ob ∧ g < w.heap.size := by
  have ho := h.own i hi
  have hb : (vf i).ownBlock = some g := by rw [e]; rfl
  have hc := ho.cells hb j u hj
  rw [add_zero_off] at hc
  have hlt := (ho.lt g hb).2
  refine ⟨hc, ?_, (h.lie i hi g hb).1, (h.lie i hi g hb).2, hlt⟩
  rcases ho.2 with ⟨e', _⟩ | ⟨g', cap, cur, e', _, hx, _⟩
  · rw [e] at e'; cases e'
  · rw [e] at e'
    injection e' with e1
    injection e1 with e1
    injection e1 with e1
    subst e1
    exact Blk.frozen (cs := cur) hx j
/-- A store into the row i. -/
theorem Grp.store (h : Grp T w S ob n vf ln cf) {i : Nat} (hi : i < n) {g c : Nat} (e : vf i = .slice (some ⟨g, 0, none⟩) (ln i) c) {j : Nat} (hj : j < (cf i).length) (u : Value) : Grp T (w.setCell ⟨g, j, none⟩ u) S ob n vf ln (updF cf i ((cf i).set j u)) := by
  have hb : (vf i).ownBlock = some g := by rw [e]; rfl
  have hne := (h.lie i hi g hb).2
  refine ⟨h.out.far (fun e => hne e.symm) u, h.so, fun k hk => ?_, h.lie, h.dis⟩
  by_cases hki : k = i
  · subst hki
    rw [updF_same]
    have ho := h.own k hk
    rcases ho.2 with ⟨e', _⟩ | ⟨g', cap, cur, e', hbase, hx, h1, h2, h3, h4⟩
    · rw [e] at e'; cases e'
    · rw [e] at e'
      injection e' with e1 e2 e3
      injection e1 with e1
      injection e1 with e1
      subst e1
      have hx' : Blk w g T.e cur := hx
      refine ⟨by rw [List.length_set]; exact ho.1, .inr ⟨g, c, cur.setIfInBounds j u, e, hbase, hx'.set_ j u, by omega, by omega, by rw [Array.size_setIfInBounds, h3, e3], ?_⟩⟩
      rw [Array.toList_setIfInBounds, List.take_set, h4]
  · rw [updF_other _ _ hki]
    have ho := h.own k hk
    have hd := h.dis i k hi hk (fun e => hki e.symm) g hb
    refine ⟨ho.1, ho.2.imp id fun ⟨g', cap, cur, e', hbase, hx, h1⟩ => ⟨g', cap, cur, e', hbase, ?_, h1⟩⟩
    have hg' : g' ≠ g := fun e2 => hd (by rw [e', ← e2]; rfl)
    exact Blk.far (cs := cur) hx hg' u
/-- The slice at i replaced by v', which owns its own row in the world w1 that an append left. -/
theorem Grp.put (h : Grp T w S ob n vf ln cf) {i : Nat} (hi : i < n) {w1 : World} {v' : Value} {m : Nat} {xs : List Value} (hg : w.grownBy w1 (vf i).ownBlock) (ho : w1.ownsRow 0 T.e T.sz v' m xs) (hl : v'.ownBlock = (vf i).ownBlock ∨ ∀ g, v'.ownBlock = some g → w.heap.size ≤ g) :
    Grp T (w1.setCell ⟨ob, i, none⟩ v') (fun b => S b ∨ w.heap.size ≤ b) ob n (updF vf i v') (updF ln i m) (updF cf i xs) := by
  have hnew : ∀ g, v'.ownBlock = some g → (vf i).ownBlock = some g ∨ w.heap.size ≤ g := fun g hgv => by
    rcases hl with hl | hl
    · exact .inl (by rw [← hl]; exact hgv)
    · exact .inr (hl g hgv)
  have hobne : ∀ g, v'.ownBlock = some g → g ≠ ob := fun g hgv => by
    rcases hnew g hgv with h1 | h1
    · exact (h.lie i hi g h1).2
    · have := h.out.lt; omega
  have hobrow : some ob ≠ (vf i).ownBlock := fun e => (h.lie i hi ob e.symm).2 rfl
  have hout : Blk w1 ob T.oty (cellsOf n vf) := h.out.grown hg hobrow
  have hrow : ∀ {v : Value} {k : Nat} {ys : List Value}, w1.ownsRow 0 T.e T.sz v k ys → (∀ g, v.ownBlock = some g → g ≠ ob) → (w1.setCell ⟨ob, i, none⟩ v').ownsRow 0 T.e T.sz v k ys := fun {v k ys} h1 h2 =>
    ⟨h1.1, h1.2.imp id fun ⟨g', cap, cur, e', hbase, hx, h3⟩ => ⟨g', cap, cur, e', hbase, Blk.far (cs := cur) hx (h2 g' (by rw [e']; rfl)) v', h3⟩⟩
  refine ⟨by rw [← cellsOf_set vf i]; exact hout.set_ i v', .inl h.so, fun k hk => ?_, fun k hk g hgk => ?_, fun k j hk hj hne g hgk => ?_⟩
  · by_cases hki : k = i
    · subst hki
      simp only [updF_same]
      exact hrow ho hobne
    · simp only [updF_other _ _ hki]
      have h1 := h.own k hk
      refine hrow (h1.kept hg ?_) fun g hgk => (h.lie k hk g hgk).2
      cases hv : (vf k).ownBlock with
      | none => exact .inl rfl
      | some g => exact .inr fun e => h.dis k i hk hi hki g hv e.symm
  · by_cases hki : k = i
    · subst hki
      rw [updF_same] at hgk
      refine ⟨?_, hobne g hgk⟩
      rcases hnew g hgk with h1 | h1
      · exact .inl (h.lie k hk g h1).1
      · exact .inr h1
    · rw [updF_other _ _ hki] at hgk
      exact ⟨.inl (h.lie k hk g hgk).1, (h.lie k hk g hgk).2⟩
  · by_cases hki : k = i
    · subst hki
      rw [updF_same] at hgk
      rw [updF_other _ _ (fun e => hne e.symm)]
      rcases hnew g hgk with h1 | h1
      · exact h.dis k j hk hj hne g h1
      · intro e
        have := ((h.own j hj).lt g e).2
        omega
    · rw [updF_other _ _ hki] at hgk
      by_cases hji : j = i
      · subst hji
        rw [updF_same]
        intro e
        rcases hnew g e with h1 | h1
        · exact h.dis k j hk hj hne g hgk h1
        · have := ((h.own k hk).lt g hgk).2
          omega
      · rw [updF_other _ _ hji]
        exact h.dis k j hk hj hne g hgk
theorem Grp.drew (h : Grp T w S ob n vf ln cf) : Grp T w.drew S ob n vf ln cf := ⟨h.out.drew, h.so, h.own, h.lie, h.dis⟩
/-- What an append to row i and the store behind it do to the frame. -/
theorem Grp.put_frm (h : Grp T w S ob n vf ln cf) {i : Nat} (hi : i < n) {w1 : World} {v' : Value} (hg : w.grownBy w1 (vf i).ownBlock) : Frm S w (w1.setCell ⟨ob, i, none⟩ v') :=
  ((Frm.refl S w).grown hg fun g e _ => (h.lie i hi g e.symm.symm).1).set_ (fun _ => h.so) v'
theorem Grp.store_frm (h : Grp T w S ob n vf ln cf) {i : Nat} (hi : i < n) {g c : Nat} (e : vf i = .slice (some ⟨g, 0, none⟩) (ln i) c) (j : Nat) (u : Value) : Frm S w (w.setCell ⟨g, j, none⟩ u) :=
  (Frm.refl S w).set_ (fun _ => (h.lie i hi g (by rw [e]; rfl)).1) u
end
end Go.Proofs.Ytiekaicbjinbaaa
end
section
namespace Go.Proofs.Ytiekaicbjinbaaa
open Go.RowKit
namespace A
abbrev Ar := Int × Int
/-- The ways out of the state s by the letters from k on, each put into its state's list. -/
def addAr (s : Int) : Int → List Int → List (List Ar) → List (List Ar)
  | _, [], acc => acc
  | k, x :: r, acc => addAr s (k + 1) r (if x = -1 then acc else acc.set x.toNat (acc.getD x.toNat [] ++ [(s, k)]))
def addRows : Int → List (List Int) → List (List Ar) → List (List Ar)
  | _, [], acc => acc
  | s, row :: r, acc => addRows (s + 1) r (addAr s 0 row acc)
def arrive (m : Mac) : List (List Ar) := addRows 0 m.next (List.replicate m.next.length [])
end A
def arC (a : A.Ar) : List Value := [.int .i64 a.1, .int .i64 a.2]
def arT : GT := ⟨120, 122, 2⟩
def lnOf {α : Type} (acc : List (List α)) (i : Nat) : Nat := (acc.getD i []).length
def cfOf {α : Type} (f : α → List Value) (acc : List (List α)) (i : Nat) : List Value := (acc.getD i []).flatMap f
theorem lnOf_set {α : Type} (acc : List (List α)) {i : Nat} (hi : i < acc.length) (l : List α) : lnOf (acc.set i l) = updF (lnOf acc) i l.length := by
  funext k
  unfold lnOf updF
  by_cases h : k = i
  · subst h; simp [hi]
  · have h' : ¬ i = k := fun e => h e.symm
    simp [h, h']
theorem cfOf_set {α : Type} (f : α → List Value) (acc : List (List α)) {i : Nat} (hi : i < acc.length) (l : List α) : cfOf f (acc.set i l) = updF (cfOf f acc) i (l.flatMap f) := by
  funext k
  unfold cfOf updF
  by_cases h : k = i
  · subst h; simp [hi]
  · have h' : ¬ i = k := fun e => h e.symm
    simp [h, h']
/-- The arrivals in memory. -/
def Rws {α : Type} (T : GT) (f : α → List Value) (w : World) (S : Nat → Prop) (ob : Nat) (acc : List (List α)) : Prop := ∃ vf, Grp T w S ob acc.length vf (lnOf acc) (cfOf f acc)
def Ars (w : World) (S : Nat → Prop) (ob : Nat) (acc : List (List A.Ar)) : Prop := Rws arT arC w S ob acc
theorem Grp.rws0 {α : Type} {T : GT} {f : α → List Value} {w : World} {S : Nat → Prop} {ob k : Nat} {vf : Nat → Value} (h : Grp T w S ob k vf (fun _ => 0) (fun _ => [])) : Rws T f w S ob (List.replicate k []) := by
  refine ⟨vf, ?_⟩
  rw [List.length_replicate]
  have e : ∀ i, (List.replicate k ([] : List α)).getD i [] = [] := fun i => by simp only [List.getD_eq_getElem?_getD, List.getElem?_replicate]; split <;> rfl
  exact h.congr (fun i _ => by unfold lnOf; rw [e]; rfl) (fun i _ => by unfold cfOf; rw [e]; rfl)
theorem Grp.add {α : Type} {T : GT} {f : α → List Value} {w w1 : World} {S : Nat → Prop} {ob : Nat} {vf : Nat → Value} {acc : List (List α)} (h : Grp T w S ob acc.length vf (lnOf acc) (cfOf f acc)) {q : Nat} (hq : q < acc.length) {v' : Value} (x : α) (hg : w.grownBy w1 (vf q).ownBlock) (ho : w1.ownsRow 0 T.e T.sz v' (lnOf acc q + 1) (cfOf f acc q ++ f x)) (hl : v'.ownBlock = (vf q).ownBlock ∨ ∀ g, v'.ownBlock = some g → w.heap.size ≤ g) :
    Rws T f (w1.setCell ⟨ob, q, none⟩ v') (fun b => S b ∨ w.heap.size ≤ b) ob (acc.set q (acc.getD q [] ++ [x])) := by
  refine ⟨updF vf q v', ?_⟩
  rw [List.length_set, lnOf_set acc hq, cfOf_set f acc hq]
  have := h.put hq hg ho hl
  refine this.congr (fun i _ => ?_) (fun i _ => ?_)
  · rw [List.length_append]; rfl
  · rw [List.flatMap_append, show [x].flatMap f = f x by simp]; rfl
theorem Rws.mono {α : Type} {T : GT} {f : α → List Value} {w : World} {S S' : Nat → Prop} {ob : Nat} {acc : List (List α)} (h : Rws T f w S ob acc) (hS : ∀ b, b < w.heap.size → S b → S' b) : Rws T f w S' ob acc := by
  obtain ⟨vf, h⟩ := h
  exact ⟨vf, h.mono hS⟩
theorem Rws.frm {α : Type} {T : GT} {f : α → List Value} {w w' : World} {S E : Nat → Prop} {ob : Nat} {acc : List (List α)} (h : Rws T f w S ob acc) (F : Frm E w w') (hE : ∀ b, b < w.heap.size → S b → ¬ E b) : Rws T f w' S ob acc := by
  obtain ⟨vf, h⟩ := h
  exact ⟨vf, h.frm F hE⟩
theorem info_arS : (Try.prog.info? 120).map (fun i => (i.zero, i.size, i.bytes)) = some (some (.slice none 0 0), 1, 24) := by kernel_rfl
theorem info_ar : (Try.prog.info? 122).map (fun i => (i.zero, i.size, i.bytes)) = some (some (.agg #[.int .i64 0, .int .i64 0]), 2, 16) := by kernel_rfl
theorem cell_two_at {w : World} {u v : Value} {e : TypeId} {n : Nat} (hn : w.heap.size = n) : ∀ (j : Nat) (z : Value), [u, v][j]? = some z → (w.alloc (.cells #[u, v] e)).cell? ((⟨n, 0, none⟩ : Addr).add j) = some z := by
  subst hn
  intro j z hz
  rw [add_zero_off, (Blk.new w e #[u, v]).cell j]
  simpa using hz
theorem cellsOf_made (n : Nat) (z : Value) : madeCells #[z] n = cellsOf n (fun _ => z) := by
  apply Array.toList_inj.1
  rw [toList_madeCells_one]
  simp only [cellsOf]
  apply List.ext_getElem <;> simp
/-- A new outer block of nil slices. -/
theorem Grp.made (T : GT) (w : World) (n : Nat) : Grp T (w.alloc (.cells (madeCells #[.slice none 0 0] n) T.oty)) (fun b => w.heap.size ≤ b) w.heap.size n (fun _ => .slice none 0 0) (fun _ => 0) (fun _ => []) :=
  ⟨by rw [cellsOf_made]; exact Blk.new w _ _, Nat.le_refl _, fun _ _ => World.ownsRow_nil _ _ _ _, fun _ _ _ h => (by cases h), fun _ _ _ _ _ _ h => (by cases h)⟩
def Cnts (wr : World) (g n B : Nat) (cs : List Int) : Prop := Blk wr g 3 (intCs cs) ∧ cs.length = n ∧ ∀ x ∈ cs, 0 ≤ x ∧ x ≤ B
theorem Cnts.at_ {wr : World} {g n B : Nat} {cs : List Int} (h : Cnts wr g n B cs) {k : Nat} (hk : k < n) : wr.cell? ⟨g, k, none⟩ = some (.int .i64 (cs.getD k 0)) ∧ wr.frozen? ⟨g, k, none⟩ = false ∧ 0 ≤ cs.getD k 0 ∧ cs.getD k 0 ≤ B := by
  have hk' : k < cs.length := by rw [h.2.1]; exact hk
  have hm := h.2.2 _ (List.getElem_mem hk')
  have e : cs.getD k 0 = cs[k] := by simp [hk']
  exact ⟨(h.1.cell k).trans (intCs_getD hk'), h.1.frozen k, by rw [e]; exact hm.1, by rw [e]; exact hm.2⟩
theorem Cnts.inc {wr : World} {g n B : Nat} {cs : List Int} (h : Cnts wr g n B cs) {k : Nat} (hk : k < n) : Cnts (wr.setCell ⟨g, k, none⟩ (.int .i64 (cs.getD k 0 + 1))) g n (B + 1) (cs.set k (cs.getD k 0 + 1)) := by
  have hq := h.at_ hk
  refine ⟨by rw [← intCs_set]; exact h.1.set_ k _, by rw [List.length_set]; exact h.2.1, fun x hx => ?_⟩
  rcases List.mem_or_eq_of_mem_set hx with hx | hx
  · have := h.2.2 x hx; omega
  · omega
theorem Cnts.wide {wr : World} {g n B B' : Nat} {cs : List Int} (h : Cnts wr g n B cs) (hB : B ≤ B') : Cnts wr g n B' cs := ⟨h.1, h.2.1, fun x hx => by have := h.2.2 x hx; omega⟩
theorem Cnts.frm {E : Nat → Prop} {wr w' : World} {g n B : Nat} {cs : List Int} (h : Cnts wr g n B cs) (F : Frm E wr w') (hE : ¬ E g) : Cnts w' g n B cs := ⟨F.blk h.1 hE, h.2⟩
namespace A
/-- Each list has at most n elements. -/
def Short {α : Type} (acc : List (List α)) (n : Nat) : Prop := ∀ i, (acc.getD i []).length ≤ n
theorem Short.mono {α : Type} {acc : List (List α)} {n n' : Nat} (h : Short acc n) (hn : n ≤ n') : Short acc n' := fun i => Nat.le_trans (h i) hn
theorem Short.add {α : Type} {acc : List (List α)} {n : Nat} (h : Short acc n) (q : Nat) (x : α) : Short (acc.set q (acc.getD q [] ++ [x])) (n + 1) := fun i => by
  have hi := h i
  have hq := h q
  simp only [List.getD_eq_getElem?_getD, List.getElem?_set] at *
  by_cases e : q = i
  · subst e
    by_cases hl : q < acc.length
    · simp [hl] at *; omega
    · simp [hl]
  · simp [e] at *; omega
end A
set_option maxRecDepth 100000 in
set_option maxHeartbeats 4000000 in
theorem arrivals_any {w : World} {P : Nat → Prop} {v : Value} {m : A.Mac} (h : MachAt w P v m) (hf : A.Fits m) (hn : m.next.length ≤ 100000) (hlt3 : m.letters ≤ 300) :
    Calls Try.prog 57 #[v] w fun e w' => ∃ ob, e = .returned (.slice (some ⟨ob, 0, none⟩) m.next.length m.next.length) ∧ Ars w' (fun b => w.heap.size ≤ b) ob (A.arrive m) ∧ Frm (fun _ => False) w w' := by
  obtain ⟨A1, c1, A2, c2, rfl⟩ := h.form
  obtain ⟨N, hN⟩ : ∃ N, N = m.next.length := ⟨_, rfl⟩
  have HB0 : Hid (Blk (w.alloc (.cells #[.int .i64 m.letters, .int .i64 m.start, .slice A1 m.next.length c1, .slice A2 m.fin.length c2] 25)) w.heap.size 25 #[.int .i64 m.letters, .int .i64 m.start, .slice A1 m.next.length c1, .slice A2 m.fin.length c2]) := Blk.new w _ _
  have HF0 : Hid (Frm (fun _ => False) w (w.alloc (.cells #[.int .i64 m.letters, .int .i64 m.start, .slice A1 m.next.length c1, .slice A2 m.fin.length c2] 25))) := (Frm.refl _ w).alloc _
  have HM := Lib.hid h
  have HFI := Lib.hid hf
  rw [← hN] at hn HB0 HF0 ⊢
  have HN := Lib.hid hN
  clear h hf hN
  have hmk := run_make_row' (P := Try.prog) 28 3 (.int .i64 0) 8 Try.underlying28 info_int rfl .i64 .i64 N (by omega) (by omega)
  have x2 := HB0.out.cell 2
  go_enter Try.func57, Try.ntmps57
  go_wp2_with fail
  have HC1 : Hid (Cnts ((w.alloc (.cells #[.int .i64 m.letters, .int .i64 m.start, .slice A1 N c1, .slice A2 m.fin.length c2] 25)).alloc (.cells (madeCells #[.int .i64 0] N) 3)) (w.heap.size + 1) N 0 (List.replicate N 0)) := by
    refine ⟨by rw [intCs_made]; exact blk_at (by simp), by simp, fun x hx => ?_⟩
    rw [List.mem_replicate] at hx; omega
  have HB1 := Lib.hid (HB0.out.alloc (.cells (madeCells #[.int .i64 0] N) 3))
  have HF1 := Lib.hid (HF0.out.alloc (.cells (madeCells #[.int .i64 0] N) 3))
  clear hmk x2
  have x2 := HB1.out.cell 2
  go_wp2_with fail
  go_loopg [22] (N + 1) (fun n i wr => ∃ (k : Nat) (cs : List Int), k ≤ N ∧ n = N + 1 - k ∧ i = .int .i64 (k : Int) ∧ Hid (Cnts wr (w.heap.size + 1) N (300 * k) cs) ∧ Hid (Blk wr w.heap.size 25 #[.int .i64 m.letters, .int .i64 m.start, .slice A1 N c1, .slice A2 m.fin.length c2]) ∧ Hid (Frm (fun _ => False) w wr))
  case atStart => exact ⟨0, _, Nat.zero_le _, rfl, rfl, HC1, HB1, HF1⟩
  case round =>
    obtain ⟨k, cs, hk, rfl, rfl, C, X, F⟩ := hrel
    by_cases hlt : k < N
    · have hlt' : (k : Int) < (N : Int) := by omega
      have hltm : k < m.next.length := by rw [← HN.out]; exact hlt
      obtain ⟨g, o, A3, c3, hA, hc, hrow⟩ := HM.out.next_at hltm
      subst hA
      have c0 := F.out.cell id hc
      have HIN := Lib.hid (HFI.out.rows _ (List.getElem_mem hltm)).2
      have hrl : (m.next[k]'hltm).length ≤ 300 := by have := (HFI.out.rows _ (List.getElem_mem hltm)).1; omega
      have HROW := Lib.hid hrow
      generalize m.next[k]'hltm = row at *
      clear hc hrow hltm
      go_wp2_with fail
      go_loopg [28] (row.length + 1) (fun n i wr' => ∃ (j : Nat) (cs : List Int), j ≤ row.length ∧ n = row.length + 1 - j ∧ i = .int .i64 (j : Int) ∧ Hid (Cnts wr' (w.heap.size + 1) N (300 * k + j) cs) ∧ Hid (Blk wr' w.heap.size 25 #[.int .i64 m.letters, .int .i64 m.start, .slice (some ⟨g, o, none⟩) N c1, .slice A2 m.fin.length c2]) ∧ Hid (Frm (fun _ => False) w wr'))
      case atStart => exact ⟨0, cs, Nat.zero_le _, rfl, rfl, C, X, F⟩
      case round =>
        clear C X F c0
        obtain ⟨j, cs, hj, rfl, rfl, C, X, F⟩ := hrel
        by_cases hltj : j < row.length
        · have hltj' : (j : Int) < (row.length : Int) := by omega
          obtain ⟨g3, o3, hA3, _, hcj⟩ := HROW.out j hltj
          subst hA3
          have c1 := F.out.cell id hcj
          have HX := Lib.hid (HIN.out _ (List.getElem_mem hltj))
          generalize row[j]'hltj = x at *
          obtain ⟨hx1, hx2⟩ := HX.out
          clear hcj
          by_cases hx : x = -1
          · subst hx
            have HC2 := Lib.hid (C.out.wide (B' := 300 * k + (j + 1)) (by omega))
            go_wp2_with fail
            go_roundg (row.length + 1 - (j + 1))
            case measure => omega
            case rel => exact ⟨j + 1, cs, by omega, rfl, by go_num, HC2, X, F⟩
          · have hb : (x != -1) = true := by rw [bne_iff_ne]; exact hx
            obtain ⟨q, rfl⟩ : ∃ q : Nat, x = (q : Int) := ⟨x.toNat, by omega⟩
            have hqN : q < N := by rw [HN.out]; omega
            have hqN' : (q : Int) < (N : Int) := by omega
            obtain ⟨d0, df, hd0, hd1⟩ := C.out.at_ hqN
            have HC2 := Lib.hid (C.out.inc hqN)
            generalize cs.getD q 0 = y at *
            have hd2 : y ≤ 60000000 := by omega
            clear hx
            go_wp2_with fail
            go_roundg (row.length + 1 - (j + 1))
            case measure => omega
            case rel => exact ⟨j + 1, _, by omega, rfl, by go_num, HC2, X.out.far (by dsimp only; omega) _, F.out.set_ (fun h => by dsimp only at h; omega) _⟩
        · have hltj' : ¬ (j : Int) < (row.length : Int) := by omega
          have HC2 := Lib.hid (C.out.wide (B' := 300 * (k + 1)) (by omega))
          go_wp2_with fail
          go_roundg (N + 1 - (k + 1))
          case measure => omega
          case rel => exact ⟨k + 1, cs, by omega, rfl, by go_num, HC2, X, F⟩
    · have hlt' : ¬ (k : Int) < (N : Int) := by omega
      obtain rfl : k = N := by omega
      have x2 := X.out.cell 2
      have hmk := run_make_row' (P := Try.prog) 93 120 (.slice none 0 0) 24 Try.underlying93 info_arS rfl .i64 .i64 k (by omega) (by omega)
      have HG1 := Lib.hid (Grp.made arT wr k)
      go_wp2_with fail
      have HLW : Hid (w.heap.size + 2 ≤ wr.heap.size) := by have := C.out.1.lt; show _ ≤ _; omega
      have HC3 := Lib.hid (C.out.frm ((Frm.refl (fun _ => False) wr).alloc (.cells (madeCells #[.slice none 0 0] k) 120)) id)
      have HX3 := Lib.hid (X.out.alloc (.cells (madeCells #[.slice none 0 0] k) 120))
      have HF3 := Lib.hid (F.out.alloc (.cells (madeCells #[.slice none 0 0] k) 120))
      have HG3 := Lib.hid (HG1.out.mono (S' := fun b => w.heap.size + 2 ≤ b) fun b _ hb => Nat.le_trans HLW.out hb)
      obtain ⟨ob, hob⟩ : ∃ ob, ob = wr.heap.size := ⟨_, rfl⟩
      obtain ⟨i0, hi0, hz0, hz1, hz2⟩ := info_parts info_ar
      have HMK : Hid (∀ (y : Int) (W : World), 0 ≤ y → y ≤ 300 * k → (Instr.makeSlice 120 (.int .i64 0) (.int .i64 y)).run Try.prog W = .ok (.slice (some ⟨W.heap.size, 0, none⟩) 0 y.toNat) (W.alloc (.cells (madeCells #[.int .i64 0, .int .i64 0] (y.toNat * 2)) 122))) := fun y W h0 h1 => by
        have := run_make (P := Try.prog) W 120 122 i0 (.agg #[.int .i64 0, .int .i64 0]) Try.underlying120 hi0 hz0 .i64 .i64 0 y (Int.le_refl _) h0 (by rw [hz2]; omega) (by omega)
        rw [hz1] at this
        exact this
      have HB300 : Hid (300 * k ≤ 30000000) := show _ ≤ _ by omega
      rw [← hob] at HG3 ⊢
      clear C X F x2 hmk HG1 HC1 HB1 HF1 HB0 HF0 hlt' hlt hk hob hi0 hz0 hz1 hz2
      go_loopg [48] (k + 1) (fun n i wr' => ∃ (j : Nat) (vf : Nat → Value), j ≤ k ∧ n = k + 1 - j ∧ i = .int .i64 (j : Int) ∧ Hid (Grp arT wr' (fun b => w.heap.size + 2 ≤ b) ob k vf (fun _ => 0) (fun _ => [])) ∧ Hid (∀ i, j ≤ i → vf i = .slice none 0 0) ∧ Hid (Cnts wr' (w.heap.size + 1) k (300 * k) cs) ∧ Hid (Blk wr' w.heap.size 25 #[.int .i64 m.letters, .int .i64 m.start, .slice A1 k c1, .slice A2 m.fin.length c2]) ∧ Hid (Frm (fun _ => False) w wr'))
      case atStart => exact ⟨0, _, Nat.zero_le _, rfl, rfl, HG3, fun _ _ => rfl, HC3, HX3, HF3⟩
      case round =>
        clear HG3 HC3 HX3 HF3
        obtain ⟨j, vf, hj, rfl, rfl, G, V, C, X, F⟩ := hrel
        by_cases hlt : j < k
        · have hlt' : (j : Int) < (k : Int) := by omega
          obtain ⟨d0, df, hd0, hd1⟩ := C.out.at_ hlt
          obtain ⟨A4, c4, e4, o4, f4, _, _⟩ := G.out.slot hlt
          have o4' := fun o => ((Frm.refl (fun _ => False) wr).alloc o).cell id o4
          have f4' := fun o => (G.out.out.alloc o).frozen j
          generalize cs.getD j 0 = y at *
          have hmk := HMK.out y wr hd0 (by omega)
          have HD : Hid (0 ≤ y ∧ y ≤ 300 * k) := ⟨hd0, by omega⟩
          clear e4 hd0 hd1
          go_wp2_with fail
          have hv0 := V.out j (Nat.le_refl _)
          have hp := G.out.put hlt (w1 := wr.alloc (.cells (madeCells #[.int .i64 0, .int .i64 0] (y.toNat * 2)) 122)) (v' := .slice (some ⟨wr.heap.size, 0, none⟩) 0 y.toNat) (m := 0) (xs := []) (World.grownBy_alloc _ _ _) (World.ownsRow_made _ _ _ (Nat.zero_le _) (by have := HD.out; have := HB300.out; unfold maxLen; omega) (by simp [arT, madeCells])) (.inr fun g hg => by simp only [Value.ownBlock, Option.some.injEq] at hg; omega)
          have HFS : Hid (Frm (fun _ => False) w ((wr.alloc (.cells (madeCells #[.int .i64 0, .int .i64 0] (y.toNat * 2)) 122)).setCell ⟨ob, j, none⟩ (.slice (some ⟨wr.heap.size, 0, none⟩) 0 y.toNat))) := (F.out.alloc _).set_ (fun h => by have := G.out.so; dsimp only at h this; omega) _
          have HP := Lib.hid hp
          clear hp hmk d0 df o4 f4 o4' f4'
          go_roundg (k + 1 - (j + 1))
          case measure => omega
          case rel =>
            have hob := G.out.so
            have FO : Frm (fun b => b = ob) wr ((wr.alloc (.cells (madeCells #[.int .i64 0, .int .i64 0] (y.toNat * 2)) 122)).setCell ⟨ob, j, none⟩ (.slice (some ⟨wr.heap.size, 0, none⟩) 0 y.toNat)) := Frm.set_ (E := fun b => b = ob) (p := ⟨ob, j, none⟩) ((Frm.refl _ wr).alloc _) (fun _ => rfl) _
            refine ⟨j + 1, updF vf j (.slice (some ⟨wr.heap.size, 0, none⟩) 0 y.toNat), by omega, rfl, by go_num, show Grp _ _ _ _ _ _ _ _ from ?_, show ∀ i, _ from fun i hi => ?_, show Cnts _ _ _ _ _ from C.out.frm FO (by omega), show Blk _ _ _ _ from FO.blk X.out (by omega), HFS⟩
            · exact (HP.out.mono fun b _ hb => by have := F.out.1; have := HLW.out; have := G.out.out.lt; rcases hb with hb | hb <;> omega).congr (fun i hi => by unfold updF; split <;> rfl) (fun i hi => by unfold updF; split <;> rfl)
            · rw [updF_other _ _ (by omega)]; exact V.out i (by omega)
        · have hlt' : ¬ (j : Int) < (k : Int) := by omega
          obtain rfl : j = k := by omega
          have HA0 : Hid (Ars wr (fun b => w.heap.size + 2 ≤ b) ob (List.replicate j [])) := Grp.rws0 G.out
          have HAR : Hid (A.arrive m = A.addRows 0 (m.next.drop 0) (List.replicate j [])) := show _ = _ by rw [HN.out]; rfl
          have HS0 : Hid (A.Short (List.replicate j ([] : List A.Ar)) (300 * 0)) := fun i => by simp only [List.getD_eq_getElem?_getD, List.getElem?_replicate]; split <;> simp
          have x2 := X.out.cell 2
          go_wp2_with fail
          clear G V C hj hlt hlt' HMK x2
          go_loopg [62] (j + 1) (fun n i wr => ∃ (r : Nat) (acc : List (List A.Ar)), r ≤ j ∧ n = j + 1 - r ∧ i = .int .i64 (r : Int) ∧ acc.length = j ∧ Hid (A.arrive m = A.addRows r (m.next.drop r) acc) ∧ Hid (A.Short acc (300 * r)) ∧ Hid (Ars wr (fun b => w.heap.size + 2 ≤ b) ob acc) ∧ Hid (Blk wr w.heap.size 25 #[.int .i64 m.letters, .int .i64 m.start, .slice A1 j c1, .slice A2 m.fin.length c2]) ∧ Hid (Frm (fun _ => False) w wr))
          case atStart => exact ⟨0, _, Nat.zero_le _, rfl, rfl, by simp, HAR, HS0, HA0, X, F⟩
          case round =>
            clear HAR HS0 HA0 X F
            obtain ⟨r, acc, hr, rfl, rfl, hacc, HAR, HS, HA, X, F⟩ := hrel
            by_cases hlt : r < j
            · have hlt' : (r : Int) < (j : Int) := by omega
              have hltm : r < m.next.length := by rw [← HN.out]; exact hlt
              obtain ⟨g, o, A3, c3, hA, hc, hrow⟩ := HM.out.next_at hltm
              subst hA
              have c0 := F.out.cell id hc
              have HIN := Lib.hid (HFI.out.rows _ (List.getElem_mem hltm)).2
              have hrl : (m.next[r]'hltm).length ≤ 300 := by have := (HFI.out.rows _ (List.getElem_mem hltm)).1; omega
              have HROW := Lib.hid hrow
              have HA1 : Hid (A.arrive m = A.addRows (r + 1) (m.next.drop (r + 1)) (A.addAr r ((0 : Nat) : Int) ((m.next[r]'hltm).drop 0) acc)) := show _ = _ by rw [HAR.out, List.drop_eq_getElem_cons hltm]; rfl
              generalize m.next[r]'hltm = row at *
              clear hc hrow hltm HAR
              go_wp2_with fail
              go_loopg [69] (row.length + 1) (fun n i wr => ∃ (q : Nat) (acc : List (List A.Ar)), q ≤ row.length ∧ n = row.length + 1 - q ∧ i = .int .i64 (q : Int) ∧ acc.length = j ∧ Hid (A.arrive m = A.addRows (r + 1) (m.next.drop (r + 1)) (A.addAr r (q : Int) (row.drop q) acc)) ∧ Hid (A.Short acc (300 * r + q)) ∧ Hid (Ars wr (fun b => w.heap.size + 2 ≤ b) ob acc) ∧ Hid (Blk wr w.heap.size 25 #[.int .i64 m.letters, .int .i64 m.start, .slice (some ⟨g, o, none⟩) j c1, .slice A2 m.fin.length c2]) ∧ Hid (Frm (fun _ => False) w wr))
              case atStart => exact ⟨0, _, Nat.zero_le _, rfl, rfl, hacc, HA1, HS, HA, X, F⟩
              case round =>
                clear HA1 HS HA X F c0
                obtain ⟨q, acc, hq, rfl, rfl, hacc, HA1, HS, HA, X, F⟩ := hrel
                by_cases hltq : q < row.length
                · have hltq' : (q : Int) < (row.length : Int) := by omega
                  obtain ⟨g3, o3, hA3, _, hcj⟩ := HROW.out q hltq
                  subst hA3
                  have cq := F.out.cell id hcj
                  have HX := Lib.hid (HIN.out _ (List.getElem_mem hltq))
                  have HA2 : Hid (A.arrive m = A.addRows (r + 1) (m.next.drop (r + 1)) (A.addAr r ((q + 1 : Nat) : Int) (row.drop (q + 1)) (if row[q]'hltq = -1 then acc else acc.set (row[q]'hltq).toNat (acc.getD (row[q]'hltq).toNat [] ++ [((r : Int), (q : Int))])))) := show _ = _ by rw [HA1.out, List.drop_eq_getElem_cons hltq]; rfl
                  generalize row[q]'hltq = x at *
                  obtain ⟨hx1, hx2⟩ := HX.out
                  clear hcj HA1
                  by_cases hx : x = -1
                  · subst hx
                    have HA3 := HA2.out
                    rw [if_pos rfl] at HA3
                    have HA4 := Lib.hid HA3
                    clear HA3
                    go_wp2_with fail
                    go_roundg (row.length + 1 - (q + 1))
                    case measure => omega
                    case rel => exact ⟨q + 1, acc, by omega, rfl, by go_num, hacc, HA4, HS.out.mono (by omega), HA, X, F⟩
                  · have hb : (x != -1) = true := by rw [bne_iff_ne]; exact hx
                    have HA3 := HA2.out
                    rw [if_neg hx] at HA3
                    obtain ⟨t, rfl⟩ : ∃ t : Nat, x = (t : Int) := ⟨x.toNat, by omega⟩
                    rw [Int.toNat_natCast] at HA3
                    have HA4 := Lib.hid HA3
                    clear HA3 HA2
                    have htN : t < acc.length := by rw [hacc, HN.out]; omega
                    have htN' : (t : Int) < (j : Int) := by omega
                    obtain ⟨vf, hG⟩ := HA.out
                    have HG := Lib.hid hG
                    obtain ⟨A4, c4, e4, o4, f4, _, _⟩ := hG.slot htN
                    have HE4 := Lib.hid e4
                    have HOW := hG.own t htN
                    rw [e4] at HOW
                    have HOW' := Lib.hid HOW
                    have hs := HS.out t
                    have HLN : Hid (lnOf acc t ≤ 300 * r + q) := hs
                    generalize hln : lnOf acc t = ln at *
                    obtain ⟨i0, hi0, hz0, hz1, hz2⟩ := info_parts info_ar
                    clear hx hG HOW hs e4
                    go_wp2_with (at_builtin; refine wpList_append_own_at _ rfl _ _ 120 rfl 0 122 i0 (.agg #[.int .i64 0, .int .i64 0]) 2 16 Try.underlying120 hi0 hz0 hz1 hz2 rfl (by decide) _ _ _ rfl (HOW'.out.alloc _) ⟨wr.heap.size, 0, none⟩ 1 1 [.int .i64 (r : Int), .int .i64 (q : Int)] rfl rfl ?y1 ?y2 ?y3 ?y4 ?y5 ?_)
                    case y1 => exact cell_two_at rfl
                    case y2 => simp [Value.oneCell']
                    case y3 => have := HLN.out; have := HB300.out; unfold maxLen; omega
                    case y4 => have := HLN.out; have := HB300.out; omega
                    case y5 => exact Nat.zero_le _
                    intro v' w1 hown1 hgrow _ hat
                    obtain ⟨A9, c9, rfl⟩ := own_form hown1
                    have hall : wr.grownBy w1 (vf t).ownBlock := by rw [HE4.out]; exact (World.grownBy_alloc wr _ _).trans hgrow
                    have hloc : (Value.slice A9 (ln + 1) c9).ownBlock = (vf t).ownBlock ∨ ∀ g, (Value.slice A9 (ln + 1) c9).ownBlock = some g → wr.heap.size ≤ g := by
                      rw [HE4.out]
                      exact hat.imp id fun h g hg => by rw [h] at hg; simp at hg; omega
                    have hadd := HG.out.add htN ((r : Int), (q : Int)) hall (by rw [hln]; exact hown1) hloc
                    have HFS : Hid (Frm (fun _ => False) w (w1.setCell ⟨ob, t, none⟩ (.slice A9 (ln + 1) c9))) := Frm.mono (E := fun b => w.heap.size + 2 ≤ b) ((F.out.mono fun _ _ h => h.elim).trans (HG.out.put_frm htN hall)) fun b hb h => by omega
                    have HX1 : Hid (Blk (w1.setCell ⟨ob, t, none⟩ (.slice A9 (ln + 1) c9)) w.heap.size 25 #[.int .i64 m.letters, .int .i64 m.start, .slice (some ⟨g, o, none⟩) j c1, .slice A2 m.fin.length c2]) := (HG.out.put_frm htN hall).blk X.out (by omega)
                    have HA5 : Hid (Ars (w1.setCell ⟨ob, t, none⟩ (.slice A9 (ln + 1) c9)) (fun b => w.heap.size + 2 ≤ b) ob (acc.set t (acc.getD t [] ++ [((r : Int), (q : Int))]))) := hadd.mono fun b _ hb => by have := HG.out.out.lt; have := HG.out.so; have := X.out.lt; rcases hb with hb | hb <;> omega
                    have o5 : w1.frozen? ⟨ob, t, none⟩ = false := (HG.out.out.grown hall fun e => (HG.out.lie t htN ob e.symm).2 rfl).frozen t
                    have c5 := (HG.out.out.grown hall fun e => (HG.out.lie t htN ob e.symm).2 rfl).cell t
                    rw [cellsOf_get _ htN, HE4.out] at c5
                    clear hadd hall hloc hat hgrow hown1 hi0 hz0 hz1 hz2 o4 f4
                    go_wp2_with fail
                    go_roundg (row.length + 1 - (q + 1))
                    case measure => omega
                    case rel => exact ⟨q + 1, _, by omega, rfl, by go_num, by rw [List.length_set]; exact hacc, HA4, (HS.out.add t _).mono (by omega), HA5, HX1, HFS⟩
                · have hltq' : ¬ (q : Int) < (row.length : Int) := by omega
                  obtain rfl : q = row.length := by omega
                  have HA2 := HA1.out
                  rw [List.drop_length] at HA2
                  have HA3 := Lib.hid HA2
                  clear HA2
                  go_wp2_with fail
                  go_roundg (j + 1 - (r + 1))
                  case measure => omega
                  case rel => exact ⟨r + 1, acc, by omega, rfl, by go_num, hacc, HA3, HS.out.mono (by omega), HA, X, F⟩
            · have hlt' : ¬ (r : Int) < (j : Int) := by omega
              obtain rfl : r = j := by omega
              have HA2 := HAR.out
              rw [List.drop_of_length_le (by rw [HN.out]; exact Nat.le_refl _)] at HA2
              have HA3 : Hid (A.arrive m = acc) := HA2
              clear HA2
              go_wp2_with fail
              go_ret
              refine ⟨ob, rfl, ?_, F.out⟩
              rw [HA3.out]
              exact Rws.mono HA.out fun b _ h => by omega
end Go.Proofs.Ytiekaicbjinbaaa
end
section
namespace Go.Proofs.Ytiekaicbjinbaaa
open Go.RowKit
def boolCs (l : List Bool) : Array Value := (l.map fun x => Value.bool x).toArray
theorem boolCs_made (n : Nat) : madeCells #[.bool false] n = boolCs (List.replicate n false) := by
  apply Array.toList_inj.1
  rw [toList_madeCells_one]
  simp [boolCs]
theorem boolCs_getD {l : List Bool} {i : Nat} (hi : i < l.length) : (boolCs l)[i]? = some (.bool (l.getD i false)) := by simp [boolCs, hi]
theorem boolCs_set (l : List Bool) (i : Nat) (x : Bool) : (boolCs l).setIfInBounds i (.bool x) = boolCs (l.set i x) := by
  apply Array.toList_inj.1
  simp [boolCs]
theorem info_boolE : (Try.prog.info? 4).map (fun i => (i.zero, i.size, i.bytes)) = some (some (.bool false), 1, 1) := by kernel_rfl
/-- A row of ints of one's own. -/
def OwnInts (w : World) (base : Nat) (v : Value) (l : List Int) : Prop := w.ownsRow base 3 1 v l.length (l.map fun x => Value.int .i64 x)
theorem OwnInts.at_ {w : World} {base c : Nat} {A0 : Option Addr} {l : List Int} (h : OwnInts w base (.slice A0 l.length c) l) {k : Nat} (hk : k < l.length) : ∃ g, A0 = some ⟨g, 0, none⟩ ∧ base ≤ g ∧ w.cell? ⟨g, k, none⟩ = some (.int .i64 (l.getD k 0)) := by
  rcases h.2 with ⟨_, hn⟩ | ⟨g, cap, cur, e, hb, _⟩
  · omega
  · injection e with e1 e2 e3
    subst e1
    have hc := @World.ownsRow.cells _ _ _ _ _ _ _ h g rfl k (.int .i64 (l.getD k 0)) (by simp [hk])
    rw [add_zero_off] at hc
    exact ⟨g, rfl, hb, hc⟩
theorem OwnInts.frm {E : Nat → Prop} {w w' : World} {base : Nat} {v : Value} {l : List Int} (h : OwnInts w base v l) (F : Frm E w w') (hE : ∀ g, base ≤ g → ¬ E g) : OwnInts w' base v l := F.row h (fun g hg => hE g (own_ge h g hg)) (Nat.le_refl _)
theorem arC_get {acc : List (List A.Ar)} {q j : Nat} (hj : j < (acc.getD q []).length) : (cfOf arC acc q)[j * 2]? = some (.int .i64 ((acc.getD q [])[j]'hj).1) ∧ (cfOf arC acc q)[j * 2 + 1]? = some (.int .i64 ((acc.getD q [])[j]'hj).2) := by
  have key : ∀ (l : List A.Ar) (j : Nat) (hj : j < l.length), (l.flatMap arC)[j * 2]? = some (.int .i64 l[j].1) ∧ (l.flatMap arC)[j * 2 + 1]? = some (.int .i64 l[j].2) := by
    intro l
    induction l with
    | nil => intro j hj; simp at hj
    | cons a l ih =>
      intro j hj
      rw [List.flatMap_cons]
      cases j with
      | zero => exact ⟨rfl, rfl⟩
      | succ j =>
        have := ih j (by simpa using hj)
        have e : (j + 1) * 2 = (arC a).length + j * 2 := by simp [arC]; omega
        rw [List.getElem?_append_right (by rw [e]; omega), List.getElem?_append_right (by rw [e]; omega), e, Nat.add_sub_cancel_left, show (arC a).length + j * 2 + 1 - (arC a).length = j * 2 + 1 by omega]
        exact this
  exact key _ j hj
theorem cell_one_at {w : World} {u : Value} {e : TypeId} {n : Nat} (hn : w.heap.size = n) : ∀ (j : Nat) (z : Value), [u][j]? = some z → (w.alloc (.cells #[u] e)).cell? ((⟨n, 0, none⟩ : Addr).add j) = some z := by
  subst hn
  intro j z hz
  rw [add_zero_off, (Blk.new w e #[u]).cell j]
  simpa using hz
theorem Frm.one {w : World} (g i : Nat) (u : Value) : Frm (fun b => b = g) w (w.setCell ⟨g, i, none⟩ u) := Frm.set_ (E := fun b => b = g) (p := ⟨g, i, none⟩) (Frm.refl _ w) (fun _ => rfl) u
theorem OwnInts.grown {w1 : World} {base n : Nat} {v' : Value} {l : List Int} {x : Int} (hn : n = l.length) (h : w1.ownsRow base 3 1 v' (n + 1) (l.map (fun x => Value.int .i64 x) ++ [.int .i64 x])) : OwnInts w1 base v' (l ++ [x]) := by
  subst hn
  unfold OwnInts
  rw [List.length_append, List.map_append]
  exact h
namespace A
def boolTo (l : List Bool) (k : Nat) : List Bool := l.take k ++ List.replicate (l.length - k) false
theorem boolTo_len (l : List Bool) {k : Nat} (hk : k ≤ l.length) : (boolTo l k).length = l.length := by simp [boolTo]; omega
theorem boolTo_set (l : List Bool) {k : Nat} (hk : k < l.length) : (boolTo l k).set k l[k] = boolTo l (k + 1) := by
  unfold boolTo
  rw [List.set_append_right _ _ (by simp; omega), List.take_succ_eq_append_getElem hk]
  have e : k - (l.take k).length = 0 := by simp; omega
  rw [e, show l.length - k = (l.length - (k + 1)) + 1 by omega, List.replicate_succ, List.set_cons_zero, List.append_assoc]
  rfl
theorem boolTo_skip (l : List Bool) {k : Nat} (hk : k < l.length) (h : l[k] = false) : boolTo l k = boolTo l (k + 1) := by
  unfold boolTo
  rw [List.take_succ_eq_append_getElem hk, h, show l.length - k = (l.length - (k + 1)) + 1 by omega, List.replicate_succ, List.append_assoc]
  rfl
theorem boolTo_end (l : List Bool) : boolTo l l.length = l := by simp [boolTo]
def trues (l : List Bool) : Nat → List Int
  | 0 => []
  | k + 1 => if l.getD k false then trues l k ++ [(k : Int)] else trues l k
theorem trues_len (l : List Bool) : ∀ k, (trues l k).length ≤ k
  | 0 => Nat.le_refl _
  | k + 1 => by
    have := trues_len l k
    unfold trues
    split
    · simp; omega
    · omega
theorem trues_in (l : List Bool) : ∀ k, ∀ x ∈ trues l k, 0 ≤ x ∧ x < k
  | 0, x, h => by simp [trues] at h
  | k + 1, x, h => by
    unfold trues at h
    split at h
    · rw [List.mem_append, List.mem_singleton] at h
      rcases h with h | h
      · have := trues_in l k x h; omega
      · omega
    · have := trues_in l k x h; omega
def reach1 (s : List Bool × List Int) (a : Ar) : List Bool × List Int := if s.1.getD a.1.toNat false then s else (s.1.set a.1.toNat true, s.2 ++ [a.1])
def livO (into : List (List Ar)) : Nat → Nat → List Bool → List Int → Option (List Bool)
  | f, at_, al, kn => if h : at_ < kn.length then (match f with
    | 0 => none
    | n + 1 => livO into n (at_ + 1) ((into.getD kn[at_].toNat []).foldl reach1 (al, kn)).1 ((into.getD kn[at_].toNat []).foldl reach1 (al, kn)).2) else some al
/-- All ways come from states. -/
def FromIn (acc : List (List Ar)) (n : Nat) : Prop := ∀ q, ∀ a ∈ acc.getD q [], 0 ≤ a.1 ∧ a.1 < n
end A
set_option maxRecDepth 100000 in
set_option maxHeartbeats 4000000 in
theorem living_any {w : World} {P S : Nat → Prop} {v : Value} {m : A.Mac} {ob f : Nat} {acc : List (List A.Ar)} {al : List Bool} (h : MachAt w P v m) (hf : A.Fits m) (hn : m.next.length ≤ 100000) (hin : Ars w S ob acc) (hacc : acc.length = m.next.length) (hs : A.Short acc 30000000) (hfr : A.FromIn acc m.next.length) (hl : A.livO acc f 0 m.fin (A.trues m.fin m.next.length) = some al) (hfl : f ≤ 100000) :
    Calls Try.prog 58 #[v, .slice (some ⟨ob, 0, none⟩) m.next.length m.next.length] w fun e w' => ∃ ga, e = .returned (.slice (some ⟨ga, 0, none⟩) m.next.length m.next.length) ∧ w.heap.size ≤ ga ∧ Blk w' ga 4 (boolCs al) ∧ al.length = m.next.length ∧ Frm (fun _ => False) w w' := by
  obtain ⟨A1, c1, A2, c2, rfl⟩ := h.form
  obtain ⟨N, hN⟩ : ∃ N, N = m.next.length := ⟨_, rfl⟩
  have hNf : N = m.fin.length := by rw [hN]; exact hf.fin
  have HB0 : Hid (Blk (w.alloc (.cells #[.int .i64 m.letters, .int .i64 m.start, .slice A1 m.next.length c1, .slice A2 m.fin.length c2] 25)) w.heap.size 25 #[.int .i64 m.letters, .int .i64 m.start, .slice A1 m.next.length c1, .slice A2 m.fin.length c2]) := Blk.new w _ _
  have HF0 : Hid (Frm (fun _ => False) w (w.alloc (.cells #[.int .i64 m.letters, .int .i64 m.start, .slice A1 m.next.length c1, .slice A2 m.fin.length c2] 25))) := (Frm.refl _ w).alloc _
  have HM := Lib.hid h
  have HFI := Lib.hid hf
  have HIN := Lib.hid hin
  have HFR := Lib.hid hfr
  have HS := Lib.hid hs
  have HL := Lib.hid hl
  rw [← hNf, ← hN] at HB0 HF0
  rw [← hN] at hn hacc HL HFR ⊢
  have HN := Lib.hid hN
  have HNF := Lib.hid hNf
  clear h hf hN hNf hin hs hfr hl
  have hmk := run_make_row' (P := Try.prog) 23 4 (.bool false) 1 Try.underlying23 info_boolE rfl .i64 .i64 N (by omega) (by omega)
  have x2 := HB0.out.cell 2
  rw [← HNF.out]
  go_enter Try.func58, Try.ntmps58
  go_wp2_with fail
  have HA1 : Hid (Blk ((w.alloc (.cells #[.int .i64 m.letters, .int .i64 m.start, .slice A1 N c1, .slice A2 N c2] 25)).alloc (.cells (madeCells #[.bool false] N) 4)) (w.heap.size + 1) 4 (boolCs (A.boolTo m.fin 0))) := by
    have e : A.boolTo m.fin 0 = List.replicate N false := by unfold A.boolTo; rw [← HNF.out]; simp
    rw [e, ← boolCs_made]
    exact blk_at (by simp)
  have HF1 := Lib.hid (HF0.out.alloc (.cells (madeCells #[.bool false] N) 4))
  have HLW : Hid (w.heap.size + 2 ≤ ((w.alloc (.cells #[.int .i64 m.letters, .int .i64 m.start, .slice A1 N c1, .slice A2 N c2] 25)).alloc (.cells (madeCells #[.bool false] N) 4)).heap.size) := by show _ ≤ _; simp
  generalize (w.alloc (.cells #[.int .i64 m.letters, .int .i64 m.start, .slice A1 N c1, .slice A2 N c2] 25)).alloc (.cells (madeCells #[.bool false] N) 4) = W1 at HA1 HF1 HLW ⊢
  clear hmk x2 HB0 HF0
  obtain ⟨i0, hi0, hz0, hz1, hz2⟩ := info_parts info_int
  go_loopg [6, 19] (N + 1) (fun n u i wr => ∃ k : Nat, k ≤ N ∧ n = N + 1 - k ∧ i = .int .i64 (k : Int) ∧ Hid (OwnInts wr (w.heap.size + 2) u (A.trues m.fin k)) ∧ Hid (Blk wr (w.heap.size + 1) 4 (boolCs (A.boolTo m.fin k))) ∧ Hid (Frm (fun _ => False) w wr) ∧ Hid (w.heap.size + 2 ≤ wr.heap.size))
  case atStart => exact ⟨0, Nat.zero_le _, rfl, rfl, World.ownsRow_nil _ _ _ _, HA1, HF1, HLW⟩
  case round =>
    clear HA1 HF1 HLW
    obtain ⟨k, hk, rfl, rfl, HO, HA, HF, HLW⟩ := hrel
    by_cases hlt : k < N
    · have hlt' : (k : Int) < (N : Int) := by omega
      have hltf : k < m.fin.length := by rw [← HNF.out]; exact hlt
      obtain ⟨g, o, hA, hc⟩ := HM.out.fin_at hltf
      subst hA
      have c0 := HF.out.cell id hc
      have hget : m.fin.getD k false = m.fin[k]'hltf := by simp [hltf]
      have HT : Hid (A.trues m.fin (k + 1) = if m.fin[k]'hltf then A.trues m.fin k ++ [(k : Int)] else A.trues m.fin k) := show _ = _ by rw [← hget]; rfl
      have HK : Hid ((A.boolTo m.fin k).set k (m.fin[k]'hltf) = A.boolTo m.fin (k + 1)) := A.boolTo_set m.fin hltf
      have HK0 : Hid (m.fin[k]'hltf = false → A.boolTo m.fin k = A.boolTo m.fin (k + 1)) := A.boolTo_skip m.fin hltf
      have y0 := (HA.out.cell k).trans (boolCs_getD (by rw [A.boolTo_len m.fin (Nat.le_of_lt hltf)]; exact hltf))
      have yf := HA.out.frozen k
      have HTL := Lib.hid (A.trues_len m.fin k)
      generalize (A.boolTo m.fin k).getD k false = y at y0
      generalize m.fin[k]'hltf = b at *
      obtain ⟨A6, c6, rfl⟩ := own_form HO.out
      clear hc hget
      cases b with
      | false =>
        have HO2 : Hid (OwnInts wr (w.heap.size + 2) (.slice A6 (A.trues m.fin k).length c6) (A.trues m.fin (k + 1))) := by
          have e := HT.out; simp only [Bool.false_eq_true, if_false] at e; rw [e]; exact HO.out
        have HA2 : Hid (Blk wr (w.heap.size + 1) 4 (boolCs (A.boolTo m.fin (k + 1)))) := by rw [← HK0.out rfl]; exact HA.out
        go_wp2_with fail
        go_roundg (N + 1 - (k + 1))
        case measure => omega
        case rel => exact ⟨k + 1, by omega, rfl, by go_num, HO2, HA2, HF, HLW⟩
      | true =>
        have HA2 : Hid (Blk (wr.setCell ⟨w.heap.size + 1, k, none⟩ (.bool true)) (w.heap.size + 1) 4 (boolCs (A.boolTo m.fin (k + 1)))) := by rw [← HK.out, ← boolCs_set]; exact HA.out.set_ k _
        have HFS : Hid (Frm (fun _ => False) w (wr.setCell ⟨w.heap.size + 1, k, none⟩ (.bool true))) := HF.out.set_ (fun h => by dsimp only at h; omega) _
        have HO2 : Hid (OwnInts (wr.setCell ⟨w.heap.size + 1, k, none⟩ (.bool true)) (w.heap.size + 2) (.slice A6 (A.trues m.fin k).length c6) (A.trues m.fin k)) := HO.out.frm (E := fun b => b = w.heap.size + 1) (Frm.one _ _ _) fun g hg => by omega
        have HLW2 : Hid (w.heap.size + 2 ≤ (wr.setCell ⟨w.heap.size + 1, k, none⟩ (.bool true)).heap.size) := by show _ ≤ _; simpa using HLW.out
        go_wp2_with (at_builtin; refine wpList_append_own _ rfl _ _ 28 rfl (w.heap.size + 2) 3 i0 (.int .i64 0) 1 8 Try.underlying28 hi0 hz0 hz1 hz2 rfl (by decide) _ _ _ rfl (HO2.out.alloc _) ⟨wr.heap.size, 0, none⟩ 1 1 [.int .i64 (k : Int)] rfl rfl ?y1 ?y2 ?y3 ?y4 ?y5 ?_)
        case y2 => simp [Value.oneCell']
        case y3 => have := HTL.out; unfold maxLen; omega
        case y4 => have := HTL.out; omega
        case y5 => have := HLW2.out; simp at this ⊢; omega
        intro v' w1 hown1 hgrow _
        obtain ⟨A9, c9, rfl⟩ := own_form hown1
        have HF1 : Hid (Frm (fun _ => False) w w1) := (HFS.out.alloc _).grown hgrow fun g hg _ => by have := own_ge HO2.out g hg.symm.symm; omega
        have HO3 : Hid (OwnInts w1 (w.heap.size + 2) (.slice A9 ((A.trues m.fin k).length + 1) c9) (A.trues m.fin (k + 1))) := by
          have e := HT.out
          simp only [if_true] at e
          rw [e]
          exact OwnInts.grown rfl hown1
        have HA3 : Hid (Blk w1 (w.heap.size + 1) 4 (boolCs (A.boolTo m.fin (k + 1)))) := (HA2.out.alloc _).grown hgrow fun e => by have := own_ge HO2.out _ e.symm; omega
        have HLW3 : Hid (w.heap.size + 2 ≤ w1.heap.size) := Nat.le_trans (by have h := HLW2.out; simp at h ⊢; omega) hgrow.size
        clear hown1 hgrow HO2 HFS HA2 HLW2 yf y0 c0
        go_wp2_with fail
        go_roundg (N + 1 - (k + 1))
        case measure => omega
        case rel => exact ⟨k + 1, by omega, rfl, by go_num, HO3, HA3, HF1, HLW3⟩
    · have hlt' : ¬ (k : Int) < (N : Int) := by omega
      obtain rfl : k = N := by omega
      have HA1 : Hid (Blk wr (w.heap.size + 1) 4 (boolCs m.fin)) := by
        have h := HA.out
        rw [HNF.out, A.boolTo_end] at h
        exact h
      have HKB : Hid (∀ x ∈ A.trues m.fin k, 0 ≤ x ∧ x < k) := A.trues_in m.fin k
      have htl := A.trues_len m.fin k
      generalize A.trues m.fin k = kn0 at *
      clear HA hk hlt hlt'
      go_wp2_with fail
      go_loopg [6, 9] f (fun n u i wr => ∃ (at_ : Nat) (av : List Bool) (kn : List Int), i = .int .i64 (at_ : Int) ∧ kn.length + 30000000 * n ≤ k + 30000000 * f ∧ av.length = k ∧ Hid (A.livO acc n at_ av kn = some al) ∧ Hid (∀ x ∈ kn, 0 ≤ x ∧ x < k) ∧ Hid (OwnInts wr (w.heap.size + 2) u kn) ∧ Hid (Blk wr (w.heap.size + 1) 4 (boolCs av)) ∧ Hid (Frm (fun _ => False) w wr) ∧ Hid (w.heap.size + 2 ≤ wr.heap.size))
      case atStart => exact ⟨0, m.fin, kn0, rfl, by omega, HNF.out.symm, HL, HKB, HO, HA1, HF, HLW⟩
      case round =>
        clear HL HKB HO HA1 HF HLW htl
        obtain ⟨at_, av, kn, rfl, hkn, hav, HL, HKB, HO, HA, HF, HLW⟩ := hrel
        obtain ⟨A6, c6, rfl⟩ := own_form HO.out
        have hl := HL.out
        unfold A.livO at hl
        by_cases hlt : at_ < kn.length
        · have hlt' : (at_ : Int) < (kn.length : Int) := by omega
          rw [dif_pos hlt] at hl
          cases gk with
          | zero => cases hl
          | succ n =>
          dsimp only at hl
          obtain ⟨g6, rfl, hg6, d0⟩ := OwnInts.at_ (l := kn) HO.out hlt
          have hkb := HKB.out _ (List.getElem_mem hlt)
          have hge : kn.getD at_ 0 = kn[at_]'hlt := by simp [hlt]
          rw [← hge] at hkb hl
          generalize kn.getD at_ 0 = x at *
          obtain ⟨q, rfl⟩ : ∃ q : Nat, x = (q : Int) := ⟨x.toNat, by omega⟩
          rw [Int.toNat_natCast] at hl
          have hq : q < acc.length := by omega
          have hq' : (q : Int) < (k : Int) := hkb.2
          obtain ⟨vf, hG⟩ := HIN.out
          obtain ⟨A7, c7, e7, o7, f7, n7, _⟩ := hG.slot hq
          have o7' := HF.out.cell id o7
          have HQ : Hid (∀ a ∈ acc.getD q [], 0 ≤ a.1 ∧ a.1 < k) := HFR.out q
          have HGC : Hid (∀ j (hj : j < (acc.getD q []).length), ∃ g, A7 = some ⟨g, 0, none⟩ ∧ w.cell? ⟨g, j * 2, none⟩ = some (.int .i64 ((acc.getD q [])[j]'hj).1) ∧ w.cell? ⟨g, j * 2 + 1, none⟩ = some (.int .i64 ((acc.getD q [])[j]'hj).2)) := fun j hj => by
            obtain ⟨g, rfl⟩ := n7 (Nat.lt_of_le_of_lt (Nat.zero_le _) hj)
            obtain ⟨h1, h2⟩ := arC_get hj
            exact ⟨g, rfl, (hG.cell hq e7 h1).1, (hG.cell hq e7 h2).1⟩
          have hln : lnOf acc q = (acc.getD q []).length := rfl
          have HSQ : Hid ((acc.getD q []).length ≤ 30000000) := HS.out q
          rw [hln] at o7'
          have hl0 : A.livO acc n (at_ + 1) (((acc.getD q []).drop 0).foldl A.reach1 (av, kn)).1 (((acc.getD q []).drop 0).foldl A.reach1 (av, kn)).2 = some al := hl
          generalize acc.getD q [] = ws at *
          have HL0 := Lib.hid hl0
          have hwl := HSQ.out
          clear hl hl0 hG o7 f7 e7 n7 hln hge HL
          go_wp2_with fail
          go_loopg [6, 47] (ws.length + 1) (fun nn u i wr => ∃ (j : Nat) (av : List Bool) (kn' : List Int), j ≤ ws.length ∧ nn = ws.length + 1 - j ∧ i = .int .i64 (j : Int) ∧ kn'.length ≤ kn.length + j ∧ av.length = k ∧ Hid (A.livO acc n (at_ + 1) ((ws.drop j).foldl A.reach1 (av, kn')).1 ((ws.drop j).foldl A.reach1 (av, kn')).2 = some al) ∧ Hid (∀ x ∈ kn', 0 ≤ x ∧ x < k) ∧ Hid (OwnInts wr (w.heap.size + 2) u kn') ∧ Hid (Blk wr (w.heap.size + 1) 4 (boolCs av)) ∧ Hid (Frm (fun _ => False) w wr) ∧ Hid (w.heap.size + 2 ≤ wr.heap.size))
          case atStart => exact ⟨0, av, kn, Nat.zero_le _, rfl, rfl, Nat.le_refl _, hav, HL0, HKB, HO, HA, HF, HLW⟩
          case round =>
            clear HL0 HKB HO HA HF HLW hav
            obtain ⟨j, av, kn', hj, rfl, rfl, hkl, hav, HL, HKB, HO, HA, HF, HLW⟩ := hrel
            obtain ⟨A6', c6', rfl⟩ := own_form HO.out
            by_cases hltj : j < ws.length
            · have hltj' : (j : Int) < (ws.length : Int) := by omega
              obtain ⟨g, rfl, e0, e1⟩ := HGC.out j hltj
              have e0' := HF.out.cell id e0
              have e1' := HF.out.cell id e1
              have hqa := HQ.out _ (List.getElem_mem hltj)
              have hl := HL.out
              rw [List.drop_eq_getElem_cons hltj, List.foldl_cons] at hl
              generalize ws[j]'hltj = a at *
              obtain ⟨a1, a2⟩ := a
              dsimp only at hqa e0' e1' hl e0 e1
              obtain ⟨t, rfl⟩ : ∃ t : Nat, a1 = (t : Int) := ⟨a1.toNat, by omega⟩
              have htk : t < av.length := by omega
              have htk' : (t : Int) < (k : Int) := hqa.2
              have hr : A.reach1 (av, kn') ((t : Int), a2) = if av.getD t false then (av, kn') else (av.set t true, kn' ++ [(t : Int)]) := rfl
              rw [hr] at hl
              have y0 := (HA.out.cell t).trans (boolCs_getD htk)
              have yf := HA.out.frozen t
              have y0' := fun o => ((Frm.refl (fun _ => False) wr).alloc o).cell id y0
              have yf' := fun o => (HA.out.alloc o).frozen t
              generalize av.getD t false = b at *
              have HL2 := Lib.hid hl
              clear hl hr e0 e1 HL
              have hkn' : kn'.length ≤ 100000 + 30000000 * 100000 + 30000000 := by have := HSQ.out; omega
              cases b with
              | true =>
                have HL3 : Hid (A.livO acc n (at_ + 1) ((ws.drop (j + 1)).foldl A.reach1 (av, kn')).1 ((ws.drop (j + 1)).foldl A.reach1 (av, kn')).2 = some al) := by
                  have h := HL2.out
                  simp only [if_true] at h
                  exact h
                have HFA := Lib.hid (HF.out.alloc (.cells #[.int .i64 (t : Int), .int .i64 a2] 122))
                have HAA := Lib.hid (HA.out.alloc (.cells #[.int .i64 (t : Int), .int .i64 a2] 122))
                have HOA := Lib.hid (HO.out.alloc (.cells #[.int .i64 (t : Int), .int .i64 a2] 122))
                have HLA : Hid (w.heap.size + 2 ≤ (wr.alloc (.cells #[.int .i64 (t : Int), .int .i64 a2] 122)).heap.size) := Nat.le_trans HLW.out (by simp)
                go_wp2_with fail
                go_roundg (ws.length + 1 - (j + 1))
                case measure => omega
                case rel => exact ⟨j + 1, av, kn', by omega, rfl, by go_num, by omega, hav, HL3, HKB, HOA, HAA, HFA, HLA⟩
              | false =>
                have HL3 : Hid (A.livO acc n (at_ + 1) ((ws.drop (j + 1)).foldl A.reach1 (av.set t true, kn' ++ [(t : Int)])).1 ((ws.drop (j + 1)).foldl A.reach1 (av.set t true, kn' ++ [(t : Int)])).2 = some al) := by
                  have h := HL2.out
                  simp only [Bool.false_eq_true, if_false] at h
                  exact h
                have HKB2 : Hid (∀ x ∈ kn' ++ [(t : Int)], 0 ≤ x ∧ x < k) := fun x hx => by
                  rw [List.mem_append, List.mem_singleton] at hx
                  rcases hx with hx | hx
                  · exact HKB.out x hx
                  · omega
                have FW : Frm (fun b => b = w.heap.size + 1) wr ((wr.alloc (.cells #[.int .i64 (t : Int), .int .i64 a2] 122)).setCell ⟨w.heap.size + 1, t, none⟩ (.bool true)) := Frm.set_ (E := fun b => b = w.heap.size + 1) (p := ⟨w.heap.size + 1, t, none⟩) ((Frm.refl _ wr).alloc _) (fun _ => rfl) _
                have HA2 : Hid (Blk ((wr.alloc (.cells #[.int .i64 (t : Int), .int .i64 a2] 122)).setCell ⟨w.heap.size + 1, t, none⟩ (.bool true)) (w.heap.size + 1) 4 (boolCs (av.set t true))) := by rw [← boolCs_set]; exact (HA.out.alloc _).set_ t _
                have HFS : Hid (Frm (fun _ => False) w ((wr.alloc (.cells #[.int .i64 (t : Int), .int .i64 a2] 122)).setCell ⟨w.heap.size + 1, t, none⟩ (.bool true))) := Frm.mono (E := fun b => b = w.heap.size + 1) ((HF.out.mono fun _ _ h => h.elim).trans FW) fun b hb h => by omega
                have HO2 : Hid (OwnInts ((wr.alloc (.cells #[.int .i64 (t : Int), .int .i64 a2] 122)).setCell ⟨w.heap.size + 1, t, none⟩ (.bool true)) (w.heap.size + 2) (.slice A6' kn'.length c6') kn') := HO.out.frm FW fun g hg => by omega
                have HLW2 : Hid (w.heap.size + 2 ≤ ((wr.alloc (.cells #[.int .i64 (t : Int), .int .i64 a2] 122)).setCell ⟨w.heap.size + 1, t, none⟩ (.bool true)).heap.size) := Nat.le_trans HLW.out FW.1
                have q0 := ((Blk.new wr 122 #[.int .i64 (t : Int), .int .i64 a2]).far (p := ⟨w.heap.size + 1, t, none⟩) (by have := HLW.out; dsimp only; omega) (.bool true)).cell 0
                have HKN := Lib.hid hkn'
                have HKL := Lib.hid hkl
                have HFLX := Lib.hid hfl
                have HNX := Lib.hid hn
                clear FW hkn' hkl hkn hfl hn
                go_wp2_with (at_builtin; refine wpList_append_own _ rfl _ _ 28 rfl (w.heap.size + 2) 3 i0 (.int .i64 0) 1 8 Try.underlying28 hi0 hz0 hz1 hz2 rfl (by decide) _ _ _ rfl (HO2.out.alloc _) ⟨wr.heap.size + 1, 0, none⟩ 1 1 [.int .i64 (t : Int)] rfl rfl ?z1 ?z2 ?z3 ?z4 ?z5 ?_)
                case z1 => exact cell_one_at (by simp)
                case z2 => simp [Value.oneCell']
                case z3 => have := HKN.out; unfold maxLen; omega
                case z4 => have := HKN.out; omega
                case z5 => have := HLW2.out; simp at this ⊢; omega
                intro v' w1 hown1 hgrow _
                obtain ⟨A9, c9, rfl⟩ := own_form hown1
                have HF1 : Hid (Frm (fun _ => False) w w1) := (HFS.out.alloc _).grown hgrow fun g hg _ => by have := own_ge HO2.out g hg.symm.symm; omega
                have HO3 : Hid (OwnInts w1 (w.heap.size + 2) (.slice A9 (kn'.length + 1) c9) (kn' ++ [(t : Int)])) := OwnInts.grown rfl hown1
                have HA3 : Hid (Blk w1 (w.heap.size + 1) 4 (boolCs (av.set t true))) := (HA2.out.alloc _).grown hgrow fun e => by have := own_ge HO2.out _ e.symm; omega
                have HLW3 : Hid (w.heap.size + 2 ≤ w1.heap.size) := Nat.le_trans (by have h := HLW2.out; simp at h ⊢; omega) hgrow.size
                clear hown1 hgrow HO2 HFS HA2 HLW2 yf y0 y0' yf' q0
                go_wp2_with fail
                go_roundg (ws.length + 1 - (j + 1))
                case measure => omega
                case rel => exact ⟨j + 1, _, _, by omega, rfl, by go_num, by have := HKL.out; simp only [List.length_append, List.length_cons, List.length_nil]; omega, by rw [List.length_set]; exact hav, HL3, HKB2, HO3, HA3, HF1, HLW3⟩
            · have hltj' : ¬ (j : Int) < (ws.length : Int) := by omega
              have hl := HL.out
              rw [List.drop_of_length_le (by omega)] at hl
              have HL2 : Hid (A.livO acc n (at_ + 1) av kn' = some al) := hl
              have HSW := HSQ.out
              clear hl
              go_wp2_with fail
              go_roundg n
              case measure => omega
              case rel => exact ⟨at_ + 1, av, kn', by go_num, by omega, hav, HL2, HKB, HO, HA, HF, HLW⟩
        · have hlt' : ¬ (at_ : Int) < (kn.length : Int) := by omega
          rw [dif_neg hlt] at hl
          obtain rfl : av = al := by simpa using hl
          have HAV := Lib.hid hav
          clear hl hav
          go_wp2_with fail
          go_ret
          exact ⟨_, rfl, by omega, HA.out, HAV.out, HF.out⟩
end Go.Proofs.Ytiekaicbjinbaaa
end
section
namespace Go.Proofs.Ytiekaicbjinbaaa
open Go.RowKit
namespace A
structure Pd where
  row : List Int
  place : List Int
  cls : List Int
  beg : List Int
  fin : List Int
  mkd : List Int
def Pd.f (d : Pd) : Nat → List Int
  | 0 => d.row
  | 1 => d.place
  | 2 => d.cls
  | 3 => d.beg
  | 4 => d.fin
  | 5 => d.mkd
  | _ => []
def Pd.upd (d : Pd) (i : Nat) (l : List Int) : Pd := match i with
  | 0 => { d with row := l }
  | 1 => { d with place := l }
  | 2 => { d with cls := l }
  | 3 => { d with beg := l }
  | 4 => { d with fin := l }
  | 5 => { d with mkd := l }
  | _ => d
theorem Pd.f_upd (d : Pd) {i : Nat} (hi : i < 6) (l : List Int) : (d.upd i l).f = updF d.f i l := by
  funext k
  match i, hi with
  | 0, _ => match k with | 0 | 1 | 2 | 3 | 4 | 5 | _ + 6 => rfl
  | 1, _ => match k with | 0 | 1 | 2 | 3 | 4 | 5 | _ + 6 => rfl
  | 2, _ => match k with | 0 | 1 | 2 | 3 | 4 | 5 | _ + 6 => rfl
  | 3, _ => match k with | 0 | 1 | 2 | 3 | 4 | 5 | _ + 6 => rfl
  | 4, _ => match k with | 0 | 1 | 2 | 3 | 4 | 5 | _ + 6 => rfl
  | 5, _ => match k with | 0 | 1 | 2 | 3 | 4 | 5 | _ + 6 => rfl
end A
def ptT : GT := ⟨101, 3, 1⟩
/-- The partition d in the block pb, its slices vf; all lie in S. -/
def PtV (w : World) (S : Nat → Prop) (pb : Nat) (vf : Nat → Value) (d : A.Pd) : Prop := Grp ptT w S pb 6 vf (fun i => (d.f i).length) (fun i => (d.f i).map (Value.int .i64))
def Pt (w : World) (S : Nat → Prop) (pb : Nat) (d : A.Pd) : Prop := ∃ vf, PtV w S pb vf d
section
variable {w w' : World} {S S' E : Nat → Prop} {pb : Nat} {vf : Nat → Value} {d : A.Pd}
theorem PtV.slot (h : PtV w S pb vf d) {i : Nat} (hi : i < 6) : ∃ A0 c, vf i = .slice A0 (d.f i).length c ∧ w.cell? ⟨pb, i, none⟩ = some (.slice A0 (d.f i).length c) ∧ w.frozen? ⟨pb, i, none⟩ = false ∧ (d.f i).length ≤ c := by
  obtain ⟨A0, c, e, h1, h2, _, h4⟩ := Grp.slot h hi
  exact ⟨A0, c, e, h1, h2, h4⟩
theorem PtV.at_ (h : PtV w S pb vf d) {i j : Nat} (hi : i < 6) (hj : j < (d.f i).length) : ∃ g c, vf i = .slice (some ⟨g, 0, none⟩) (d.f i).length c ∧ w.cell? ⟨pb, i, none⟩ = some (.slice (some ⟨g, 0, none⟩) (d.f i).length c) ∧ w.frozen? ⟨pb, i, none⟩ = false ∧ w.cell? ⟨g, j, none⟩ = some (.int .i64 ((d.f i).getD j 0)) ∧ w.frozen? ⟨g, j, none⟩ = false ∧ S g ∧ g ≠ pb ∧ g < w.heap.size := by
  obtain ⟨A0, c, e, h1, h2, h3, _⟩ := Grp.slot h hi
  obtain ⟨g, rfl⟩ := h3 (Nat.lt_of_le_of_lt (Nat.zero_le _) hj)
  obtain ⟨k1, k2, k3, k4, k5⟩ := Grp.cell h hi e (j := j) (u := .int .i64 ((d.f i).getD j 0)) (by simp [hj])
  exact ⟨g, c, e, h1, h2, k1, k2, k3, k4, k5⟩
/-- A cell of a row whose slice is known. -/
theorem PtV.get (h : PtV w S pb vf d) {i j g c n : Nat} (hi : i < 6) (e : vf i = .slice (some ⟨g, 0, none⟩) n c) (hj : j < (d.f i).length) : w.cell? ⟨g, j, none⟩ = some (.int .i64 ((d.f i).getD j 0)) ∧ w.frozen? ⟨g, j, none⟩ = false := by
  obtain ⟨A0, c', e', _⟩ := h.slot hi
  have hn : n = (d.f i).length := by rw [e'] at e; injection e with _ e2 _; exact e2.symm
  subst hn
  obtain ⟨k1, k2, _⟩ := Grp.cell h hi e (j := j) (u := .int .i64 ((d.f i).getD j 0)) (by simp [hj])
  exact ⟨k1, k2⟩
theorem PtV.slot_at (h : PtV w S pb vf d) {i g c n : Nat} (hi : i < 6) (e : vf i = .slice (some ⟨g, 0, none⟩) n c) : w.cell? ⟨pb, i, none⟩ = some (.slice (some ⟨g, 0, none⟩) n c) ∧ w.frozen? ⟨pb, i, none⟩ = false := by
  obtain ⟨A0, c', e', h1, h2, _⟩ := h.slot hi
  rw [← e', e] at h1
  exact ⟨h1, h2⟩
theorem PtV.set_ (h : PtV w S pb vf d) {i j g c n : Nat} (hi : i < 6) (e : vf i = .slice (some ⟨g, 0, none⟩) n c) (hj : j < (d.f i).length) (u : Int) : PtV (w.setCell ⟨g, j, none⟩ (.int .i64 u)) S pb vf (d.upd i ((d.f i).set j u)) := by
  obtain ⟨A0, c', e', _⟩ := h.slot hi
  have hn : n = (d.f i).length := by rw [e'] at e; injection e with _ e2 _; exact e2.symm
  subst hn
  have := Grp.store h hi e (j := j) (by rw [List.length_map]; exact hj) (.int .i64 u)
  unfold PtV
  rw [A.Pd.f_upd d hi]
  refine this.congr (fun k _ => ?_) (fun k _ => ?_)
  · unfold updF; split
    · rename_i e; subst e; rw [List.length_set]
    · rfl
  · unfold updF; split
    · rename_i e; subst e; rw [List.map_set]
    · rfl
theorem PtV.set_frm (h : PtV w S pb vf d) {i g c n : Nat} (hi : i < 6) (e : vf i = .slice (some ⟨g, 0, none⟩) n c) (j : Nat) (u : Int) : Frm S w (w.setCell ⟨g, j, none⟩ (.int .i64 u)) :=
  (Frm.refl S w).set_ (fun _ => (Grp.lie h i hi g (by rw [e]; rfl)).1) _
theorem PtV.ne (h : PtV w S pb vf d) {i j g g' c c' n n' : Nat} (hi : i < 6) (hj : j < 6) (hne : i ≠ j) (e : vf i = .slice (some ⟨g, 0, none⟩) n c) (e' : vf j = .slice (some ⟨g', 0, none⟩) n' c') : g ≠ g' := fun h2 => Grp.dis h i j hi hj hne g (by rw [e]; rfl) (by rw [e', h2]; rfl)
theorem PtV.drew (h : PtV w S pb vf d) : PtV w.drew S pb vf d := Grp.drew h
theorem PtV.drewN (h : PtV w S pb vf d) (n : Nat) : PtV (w.drewN n) S pb vf d := ⟨(Grp.out h).drewN n, Grp.so h, Grp.own (w := w) h, Grp.lie h, Grp.dis h⟩
theorem Pt.frm (h : Pt w S pb d) (F : Frm E w w') (hE : ∀ b, b < w.heap.size → S b → ¬ E b) : Pt w' S pb d := by
  obtain ⟨vf, h⟩ := h
  exact ⟨vf, Grp.frm h F hE⟩
theorem PtV.frm (h : PtV w S pb vf d) (F : Frm E w w') (hE : ∀ b, b < w.heap.size → S b → ¬ E b) : PtV w' S pb vf d := Grp.frm h F hE
theorem Pt.mono (h : Pt w S pb d) (hS : ∀ b, b < w.heap.size → S b → S' b) : Pt w S' pb d := by
  obtain ⟨vf, h⟩ := h
  exact ⟨vf, Grp.mono h hS⟩
theorem PtV.lt (h : PtV w S pb vf d) : pb < w.heap.size := Grp.out h |>.lt
end
set_option maxRecDepth 100000 in
set_option maxHeartbeats 4000000 in
theorem one_any {w : World} {S : Nat → Prop} {pb : Nat} {d : A.Pd} {k b : Nat} (h : Pt w S pb d) (h1 : k < d.beg.length) (h2 : d.beg.getD k 0 = (b : Int)) (h3 : b < d.row.length) :
    Calls Try.prog 62 #[.pointer (some ⟨pb, 0, none⟩), .int .i64 k] w fun e w' => e = .returned (.int .i64 (d.row.getD b 0)) ∧ Frm (fun _ => False) w w' := by
  obtain ⟨vf, h⟩ := h
  obtain ⟨g3, c3, e3, o3, f3, k3, l3, _⟩ := h.at_ (i := 3) (j := k) (by decide) h1
  obtain ⟨g0, c0, e0, o0, f0, k0, l0, _⟩ := h.at_ (i := 0) (j := b) (by decide) h3
  have hk' : (k : Int) < ((d.f 3).length : Int) := by have : k < (d.f 3).length := h1; omega
  have hb' : (b : Int) < ((d.f 0).length : Int) := by have : b < (d.f 0).length := h3; omega
  rw [show (d.f 3).getD k 0 = (b : Int) from h2] at k3
  have HX : Hid ((d.f 0).getD b 0 = d.row.getD b 0) := rfl
  generalize (d.f 0).getD b 0 = x at *
  generalize (d.f 0).length = n0 at *
  generalize (d.f 3).length = n3 at *
  rw [← HX.out]
  clear h1 h2 h3 h e0 e3
  go_enter Try.func62, Try.ntmps62
  go_wp2_with fail
  go_quiet (fail)
  go_wp2_with fail
  go_ret
  exact ⟨rfl, (Frm.refl _ w).drewN nq⟩
namespace A
/-- What marking the state st does: its class c, its place fr, the class's begin b, its m marked ones, the state ot at the place b + m. -/
def Pd.marked (d : Pd) (st c fr b m ot : Nat) : Pd :=
  let d1 : Pd := { d with row := d.row.set fr (ot : Int), place := d.place.set ot (fr : Int) }
  let d2 : Pd := { d1 with row := d1.row.set (b + m) (st : Int), place := d1.place.set st ((b : Int) + (m : Int)) }
  { d2 with mkd := d2.mkd.set c ((m : Int) + 1) }
/-- The numbers that marking meets. -/
structure Mk (d : Pd) (st c fr b m ot : Nat) : Prop where
  h1 : st < d.cls.length
  h2 : d.cls.getD st 0 = (c : Int)
  h3 : st < d.place.length
  h4 : d.place.getD st 0 = (fr : Int)
  h5 : c < d.beg.length
  h6 : d.beg.getD c 0 = (b : Int)
  h7 : c < d.mkd.length
  h8 : d.mkd.getD c 0 = (m : Int)
  h9 : b + m < d.row.length
  h10 : d.row.getD (b + m) 0 = (ot : Int)
  h11 : fr < d.row.length
  h12 : ot < d.place.length
  h13 : d.row.length ≤ 1000000000
end A
set_option maxRecDepth 100000 in
set_option maxHeartbeats 4000000 in
theorem mark_any {w : World} {S : Nat → Prop} {pb : Nat} {d : A.Pd} {st c fr b m ot : Nat} (h : Pt w S pb d) (hm : A.Mk d st c fr b m ot) :
    Calls Try.prog 88 #[.pointer (some ⟨pb, 0, none⟩), .int .i64 st] w fun e w' => e = .returned (.bool (decide (m = 0))) ∧ Pt w' S pb (d.marked st c fr b m ot) ∧ Frm S w w' := by
  obtain ⟨vf, h⟩ := h
  obtain ⟨h1, h2, h3, h4, h5, h6, h7, h8, h9, h10, h11, h12, h13⟩ := hm
  obtain ⟨g2, c2, e2, o2, f2, k2, l2, _⟩ := h.at_ (i := 2) (j := st) (by decide) h1
  obtain ⟨g1, c1, e1, o1, f1, k1, l1, _⟩ := h.at_ (i := 1) (j := st) (by decide) h3
  obtain ⟨g3, c3, e3, o3, f3, k3, l3, _⟩ := h.at_ (i := 3) (j := c) (by decide) h5
  obtain ⟨g5, c5, e5, o5, f5, k5, l5, _⟩ := h.at_ (i := 5) (j := c) (by decide) h7
  obtain ⟨g0, c0, e0, o0, f0, k0, l0, _⟩ := h.at_ (i := 0) (j := b + m) (by decide) h9
  obtain ⟨_, y0⟩ := h.get (i := 0) (j := fr) (by decide) e0 h11
  obtain ⟨_, y1⟩ := h.get (i := 1) (j := ot) (by decide) e1 h12
  rw [show (d.f 2).getD st 0 = (c : Int) from h2] at k2
  rw [show (d.f 1).getD st 0 = (fr : Int) from h4] at k1
  rw [show (d.f 3).getD c 0 = (b : Int) from h6] at k3
  rw [show (d.f 5).getD c 0 = (m : Int) from h8] at k5
  rw [show (d.f 0).getD (b + m) 0 = (ot : Int) from h10] at k0
  have n01 := h.ne (i := 0) (j := 1) (by decide) (by decide) (by decide) e0 e1
  have n05 := h.ne (i := 0) (j := 5) (by decide) (by decide) (by decide) e0 e5
  have n15 := h.ne (i := 1) (j := 5) (by decide) (by decide) (by decide) e1 e5
  have np0 : pb ≠ g0 := fun e => (Grp.lie h 0 (by decide) g0 (by rw [e0]; rfl)).2 e.symm
  have np1 : pb ≠ g1 := fun e => (Grp.lie h 1 (by decide) g1 (by rw [e1]; rfl)).2 e.symm
  have np5 : pb ≠ g5 := fun e => (Grp.lie h 5 (by decide) g5 (by rw [e5]; rfl)).2 e.symm
  obtain ⟨N0, hN0⟩ : ∃ N0, N0 = (d.f 0).length := ⟨_, rfl⟩
  obtain ⟨N1, hN1⟩ : ∃ N1, N1 = (d.f 1).length := ⟨_, rfl⟩
  obtain ⟨N2, hN2⟩ : ∃ N2, N2 = (d.f 2).length := ⟨_, rfl⟩
  obtain ⟨N3, hN3⟩ : ∃ N3, N3 = (d.f 3).length := ⟨_, rfl⟩
  obtain ⟨N5, hN5⟩ : ∃ N5, N5 = (d.f 5).length := ⟨_, rfl⟩
  have b1 : (st : Int) < (N2 : Int) := by rw [hN2]; have : st < (d.f 2).length := h1; omega
  have b2 : (st : Int) < (N1 : Int) := by rw [hN1]; have : st < (d.f 1).length := h3; omega
  have b3 : (c : Int) < (N3 : Int) := by rw [hN3]; have : c < (d.f 3).length := h5; omega
  have b4 : (c : Int) < (N5 : Int) := by rw [hN5]; have : c < (d.f 5).length := h7; omega
  have b5 : (b : Int) + (m : Int) < (N0 : Int) := by rw [hN0]; have : b + m < (d.f 0).length := h9; omega
  have b6 : (fr : Int) < (N0 : Int) := by rw [hN0]; have : fr < (d.f 0).length := h11; omega
  have b7 : (ot : Int) < (N1 : Int) := by rw [hN1]; have : ot < (d.f 1).length := h12; omega
  have b8 : (N0 : Int) ≤ 1000000000 := by rw [hN0]; have : (d.f 0).length ≤ 1000000000 := h13; omega
  rw [← hN0] at o0 e0
  rw [← hN1] at o1 e1
  rw [← hN2] at o2 e2
  rw [← hN3] at o3 e3
  rw [← hN5] at o5 e5
  have HP := Lib.hid h
  have HE0 := Lib.hid e0
  have HE1 := Lib.hid e1
  have HE5 := Lib.hid e5
  have H9 := Lib.hid h9
  have H11 := Lib.hid h11
  have H12 := Lib.hid h12
  have H3 := Lib.hid h3
  have H7 := Lib.hid h7
  have H8 := Lib.hid h8
  clear h1 h2 h3 h4 h5 h6 h7 h8 h9 h10 h11 h12 h13 e0 e1 e2 e3 e5 h hN0 hN1 hN2 hN3 hN5
  go_enter Try.func88, Try.ntmps88
  go_wp2_with fail
  go_quiet (fail)
  go_wp2_with fail
  go_region
  have P1 : PtV (((w.drewN (nq + 1)).setCell ⟨g0, fr, none⟩ (.int .i64 (ot : Int))).setCell ⟨g1, ot, none⟩ (.int .i64 (fr : Int))) S pb vf _ := ((HP.out.drewN (nq + 1)).set_ (i := 0) (by decide) HE0.out H11.out ot).set_ (i := 1) (by decide) HE1.out H12.out fr
  have F1 : Frm S w (((w.drewN (nq + 1)).setCell ⟨g0, fr, none⟩ (.int .i64 (ot : Int))).setCell ⟨g1, ot, none⟩ (.int .i64 (fr : Int))) := (((Frm.refl S w).drewN (nq + 1)).trans ((HP.out.drewN (nq + 1)).set_frm (i := 0) (by decide) HE0.out fr ot)).trans (((HP.out.drewN (nq + 1)).set_ (i := 0) (by decide) HE0.out H11.out ot).set_frm (i := 1) (by decide) HE1.out ot fr)
  generalize ((w.drewN (nq + 1)).setCell ⟨g0, fr, none⟩ (.int .i64 (ot : Int))).setCell ⟨g1, ot, none⟩ (.int .i64 (fr : Int)) = W1 at P1 F1 ⊢
  have HP1 := Lib.hid P1
  have HF1 := Lib.hid F1
  have l9 : b + m < ((d.row.set fr (ot : Int))).length := by rw [List.length_set]; exact H9.out
  have l3 : st < ((d.place.set ot (fr : Int))).length := by rw [List.length_set]; exact H3.out
  have HL9 := Lib.hid l9
  have HL3 := Lib.hid l3
  clear k0 k1 k2 k3 k5 o0 o1 o2 o3 o5 f0 f1 f2 f3 f5 y0 y1 l0 l1 l2 l5
  obtain ⟨o0, f0⟩ := P1.slot_at (i := 0) (by decide) HE0.out
  obtain ⟨o1, f1⟩ := P1.slot_at (i := 1) (by decide) HE1.out
  obtain ⟨_, y0⟩ := P1.get (i := 0) (j := b + m) (by decide) HE0.out l9
  obtain ⟨_, y1⟩ := P1.get (i := 1) (j := st) (by decide) HE1.out l3
  have b0 : (0 : Int) ≤ (b : Int) + (m : Int) := by omega
  clear P1 F1 l9 l3
  go_wp2_with fail
  go_region
  have P2 : PtV ((W1.setCell ⟨g0, b + m, none⟩ (.int .i64 (st : Int))).setCell ⟨g1, st, none⟩ (.int .i64 ((b : Int) + (m : Int)))).drew S pb vf _ := ((HP1.out.set_ (i := 0) (by decide) HE0.out HL9.out st).set_ (i := 1) (by decide) HE1.out HL3.out ((b : Int) + (m : Int))).drew
  have F2 : Frm S w ((W1.setCell ⟨g0, b + m, none⟩ (.int .i64 (st : Int))).setCell ⟨g1, st, none⟩ (.int .i64 ((b : Int) + (m : Int)))).drew := ((HF1.out.trans (HP1.out.set_frm (i := 0) (by decide) HE0.out (b + m) st)).trans ((HP1.out.set_ (i := 0) (by decide) HE0.out HL9.out st).set_frm (i := 1) (by decide) HE1.out st ((b : Int) + (m : Int)))).drew
  generalize ((W1.setCell ⟨g0, b + m, none⟩ (.int .i64 (st : Int))).setCell ⟨g1, st, none⟩ (.int .i64 ((b : Int) + (m : Int)))).drew = W2 at P2 F2 ⊢
  clear o0 o1 f0 f1 y0 y1
  have HP2 := Lib.hid P2
  have HF2 := Lib.hid F2
  obtain ⟨o5, f5⟩ := P2.slot_at (i := 5) (by decide) HE5.out
  obtain ⟨k5, l5⟩ := P2.get (i := 5) (j := c) (by decide) HE5.out H7.out
  have e5 : W2.cell? ⟨g5, c, none⟩ = some (.int .i64 (m : Int)) := by rw [k5]; exact congrArg (fun x => some (Value.int .i64 x)) H8.out
  have HP3 := Lib.hid (P2.set_ (i := 5) (j := c) (by decide) HE5.out H7.out ((m : Int) + 1))
  have HF3 := Lib.hid (F2.trans (P2.set_frm (i := 5) (by decide) HE5.out c ((m : Int) + 1)))
  have b9 : (m : Int) ≤ 1000000000 := by omega
  clear P2 F2 k5
  go_wp2_with fail
  go_ret
  refine ⟨ret_bool ?_, ⟨vf, HP3.out⟩, HF3.out⟩
  have : ((m : Int) + 1 = 1) ↔ m = 0 := by omega
  by_cases hm : m = 0 <;> simp [hm] <;> omega
end Go.Proofs.Ytiekaicbjinbaaa
end
