/- difference. Differ. longer: how many words, one letter longer. Count. Relate's closure. Rows of own rows: an outer block whose cells are slices, each with a row of its own. arrivals. living. Contracts of the program's functions, with no condition beyond what each theorem states. -/
import Derived.Test.YtldmjpnldgekaaaC02
import Derived.Maps.AppendAt
section
namespace Go.Proofs.Ytldmjpnldgekaaa
open Go.RowKit
namespace A
def innerO (f : Nat) (a b : Mac) (at_ : Int) (p : Pr) : List Nat → List Int → List Tr → Option (List Int × List Tr × Option Pr)
  | [], j, ts => some (j, ts, none)
  | k :: ks, j, ts => match joinO f a.next.length j (leadP a b p k) with
    | none => none
    | some (j', false) => innerO f a b at_ p ks j' ts
    | some (j', true) => if agree a b (leadP a b p k) then innerO f a b at_ p ks j' (ts ++ [⟨leadP a b p k, at_, k⟩]) else some (j', ts ++ [⟨leadP a b p k, at_, k⟩], some (leadP a b p k))
def outerO (f : Nat) (a b : Mac) : Nat → Nat → List Int → List Tr → Option (Option (List Tr × Pr))
  | fuel, at_, j, ts => if h : at_ < ts.length then (match fuel with
    | 0 => none
    | n + 1 => match innerO f a b at_ ts[at_].p (List.range a.letters.toNat) j ts with
      | none => none
      | some (j', ts', none) => outerO f a b n (at_ + 1) j' ts'
      | some (_, ts', some q) => some (some (ts', q))) else some none
def diffO (f : Nat) (a b : Mac) : Option (Option (List Int × Pr)) :=
  if agree a b (a.start, b.start) then (match joinO f a.next.length (upTo (1 + a.next.length + b.next.length) (1 + a.next.length + b.next.length)) (a.start, b.start) with
    | none => none
    | some (j, _) => match outerO f a b f 0 j [⟨(a.start, b.start), 0, 0⟩] with
      | none => none
      | some none => some none
      | some (some (ts, q)) => (wordO f ts).map fun l => some (l, q))
  else some (some ([], (a.start, b.start)))
end A
/-- What a run of difference keeps: the boxes of its machines and of the pair. -/
structure Dx (w0 w : World) (ca cb : Array Value) (p : A.Pr) : Prop where
  fr : Frm (fun _ => False) w0 w
  ba : Blk w w0.heap.size 25 ca
  bb : Blk w (w0.heap.size + 1) 25 cb
  bp : Blk w (w0.heap.size + 2) 57 #[.int .i64 p.1, .int .i64 p.2]
section
variable {w0 w w' : World} {ca cb : Array Value} {p : A.Pr}
theorem Dx.new (w0 : World) (ca cb : Array Value) : Dx w0 (((w0.alloc (.cells ca 25)).alloc (.cells cb 25)).alloc (.cells #[.int .i64 0, .int .i64 0] 57)) ca cb (0, 0) :=
  ⟨(((Frm.refl _ w0).alloc _).alloc _).alloc _, ((Blk.new w0 _ _).alloc _).alloc _, (blk_at (by simp)).alloc _, blk_at (by simp)⟩
theorem Dx.frm (h : Dx w0 w ca cb p) (F : Frm (fun b => w0.heap.size + 3 ≤ b) w w') : Dx w0 w' ca cb p :=
  ⟨Frm.mono (E := fun b => w0.heap.size + 3 ≤ b) ((h.fr.mono fun _ _ h => h.elim).trans F) fun b hb h => by omega, F.blk h.ba (by omega), F.blk h.bb (by omega), F.blk h.bp (by omega)⟩
theorem Dx.call (h : Dx w0 w ca cb p) (F : Frm (fun _ => False) w w') : Dx w0 w' ca cb p := h.frm (F.mono fun _ _ h => h.elim)
theorem Dx.put (h : Dx w0 w ca cb p) (q : A.Pr) : Dx w0 ((w.setCell ⟨w0.heap.size + 2, 0, none⟩ (.int .i64 q.1)).setCell ⟨w0.heap.size + 2, 1, none⟩ (.int .i64 q.2)) ca cb q := by
  have F := Frm.set2 (w := w) (w0.heap.size + 2) (.int .i64 q.1) (.int .i64 q.2)
  exact ⟨Frm.mono (E := fun b => b = w0.heap.size + 2) ((h.fr.mono fun _ _ h => h.elim).trans F) fun b hb h => by omega, F.blk h.ba (by omega), F.blk h.bb (by omega), (h.bp.set_ 0 _).set_ 1 _⟩
theorem Dx.six {E : Nat → Prop} {w9 : World} (h : Dx w0 w ca cb p) (F : Frm E w9 w) : w.cell? ⟨w0.heap.size + 1 + 1, 0, none⟩ = some (.int .i64 p.1) ∧ w.cell? ⟨w0.heap.size + 1 + 1, 1, none⟩ = some (.int .i64 p.2) ∧ w.frozen? ⟨w0.heap.size + 1 + 1, 0, none⟩ = false ∧ w.frozen? ⟨w0.heap.size + 1 + 1, 1, none⟩ = false ∧ Dx w0 w ca cb p ∧ Frm E w9 w :=
  ⟨h.bp.cell 0, h.bp.cell 1, h.bp.frozen 0, h.bp.frozen 1, h, F⟩
theorem Dx.lt (h : Dx w0 w ca cb p) : w0.heap.size + 3 ≤ w.heap.size := by have := h.bp.lt; omega
end
theorem info_trail : (Try.prog.info? 90).map (fun i => (i.zero, i.size, i.bytes)) = some (some (.agg #[.int .i64 0, .int .i64 0, .int .i64 0, .int .i64 0]), 4, 32) := by kernel_rfl
theorem cell_four_at {w : World} {u v x y : Value} {e : TypeId} {n : Nat} (hn : w.heap.size = n) : ∀ (j : Nat) (z : Value), [u, v, x, y][j]? = some z → (w.alloc (.cells #[u, v, x, y] e)).cell? ((⟨n, 0, none⟩ : Addr).add j) = some z := by
  subst hn
  intro j z hz
  rw [add_zero_off, (Blk.new w e #[u, v, x, y]).cell j]
  simpa using hz
/-- What difference hands back. -/
def DiffPost (w : World) (r : Option (List Int × A.Pr)) (e : Ending) (w' : World) : Prop := match r with
  | none => e = .returned (.tuple #[.slice none 0 0, pairV (0, 0), .bool false]) ∧ Frm (fun _ => False) w w'
  | some (l, q) => ∃ u, e = .returned (.tuple #[u, pairV q, .bool true]) ∧ Ints w' (fun b => w.heap.size ≤ b) u l ∧ Frm (fun _ => False) w w'
set_option maxRecDepth 100000 in
set_option maxHeartbeats 4000000 in
theorem diff_any {w : World} {P Q : Nat → Prop} {v v' : Value} {a b : A.Mac} {f : Nat} {r : Option (List Int × A.Pr)} (h : MachAt w P v a) (h' : MachAt w Q v' b) (ht : A.Two a b) (he : A.diffO f a b = some r) (hf : f ≤ 100000) :
    Calls Try.prog 34 #[v, v'] w (DiffPost w r) := by
  obtain ⟨A1, c1, A2, c2, rfl⟩ := h.form
  obtain ⟨B1, d1, B2, d2, rfl⟩ := h'.form
  have HB0 : Hid (Dx w _ (macC a A1 c1 A2 c2) (macC b B1 d1 B2 d2) (0, 0)) := Dx.new w _ _
  have HM := Lib.hid h
  have HM' := Lib.hid h'
  have HT := Lib.hid ht
  have HE := Lib.hid he
  have HIS : Hid (A.InP a b (a.start, b.start)) := ⟨ht.fa.start, ht.fb.start⟩
  have q0 := HB0.out.bp.cell 0
  have q1 := HB0.out.bp.cell 1
  have z0 := HB0.out.bp.frozen 0
  have z1 := HB0.out.bp.frozen 1
  have e0 := HB0.out.ba.cell 0
  have e1 := HB0.out.ba.cell 1
  have e2 := HB0.out.ba.cell 2
  have e3 := HB0.out.ba.cell 3
  have g0 := HB0.out.bb.cell 0
  have g1 := HB0.out.bb.cell 1
  have g2 := HB0.out.bb.cell 2
  have g3 := HB0.out.bb.cell 3
  simp only [macC] at e0 e1 e2 e3 g0 g1 g2 g3
  clear h h' ht he
  go_enter Try.func34, Try.ntmps34
  go_wp2_with fail
  clear e0 e1 e2 e3 g0 g1 g2 g3 q0 q1 z0 z1
  refine (starts_any (HM.out.keep0 HB0.out.fr) (HM'.out.keep0 HB0.out.fr)).mono ?_
  rintro _ w1 ⟨rfl, f1⟩
  have HB1 := Lib.hid (HB0.out.call f1)
  have HB1p := Lib.hid (HB1.out.put (a.start, b.start))
  simp only [pairV]
  clear f1
  have q0 := HB1.out.bp.cell 0
  have q1 := HB1.out.bp.cell 1
  have z0 := HB1.out.bp.frozen 0
  have z1 := HB1.out.bp.frozen 1
  have e0 := HB1.out.ba.cell 0
  have e1 := HB1.out.ba.cell 1
  have e2 := HB1.out.ba.cell 2
  have e3 := HB1.out.ba.cell 3
  have g0 := HB1.out.bb.cell 0
  have g1 := HB1.out.bb.cell 1
  have g2 := HB1.out.bb.cell 2
  have g3 := HB1.out.bb.cell 3
  simp only [macC] at e0 e1 e2 e3 g0 g1 g2 g3
  go_wp2_with fail
  clear e0 e1 e2 e3 g0 g1 g2 g3 q0 q1 z0 z1
  refine (agree_any (HM.out.keep0 HB1p.out.fr) (HM'.out.keep0 HB1p.out.fr) HT.out (a.start, b.start) HIS.out).mono ?_
  rintro _ w2 ⟨rfl, f2⟩
  have HB2 := Lib.hid (HB1p.out.call f2)
  clear f2
  have he := HE.out
  unfold A.diffO at he
  generalize hag : A.agree a b (a.start, b.start) = ag at *
  cases ag with
  | false =>
    simp only [Bool.false_eq_true, if_false, Option.some.injEq] at he
    subst he
    have q0 := HB2.out.bp.cell 0
    have q1 := HB2.out.bp.cell 1
    have z0 := HB2.out.bp.frozen 0
    have z1 := HB2.out.bp.frozen 1
    go_wp2_with fail
    go_region
    all_goals go_wp2_with fail
    have HBe := Lib.hid (HB2.out.put (a.start, b.start))
    have d0 := HBe.out.bp.cell 0
    have d1 := HBe.out.bp.cell 1
    refine bodyPost_ret (v := .tuple #[.slice none 0 0, pairV (a.start, b.start), .bool true]) (by simp [results, Try.results34, go_sem, pairV, q0, q1]) rfl ?_
    exact ⟨_, rfl, ⟨none, 0, rfl, fun k hk => by simp at hk⟩, HBe.out.fr⟩
  | true =>
    simp only [if_true] at he
    split at he
    · cases he
    rename_i j jb hj
    have HJ := Lib.hid hj
    have HE2 := Lib.hid he
    clear he hj hag
    have hna := HT.out.na
    have hnb := HT.out.nb
    have q0 := HB2.out.bp.cell 0
    have q1 := HB2.out.bp.cell 1
    have z0 := HB2.out.bp.frozen 0
    have z1 := HB2.out.bp.frozen 1
    have e0 := HB2.out.ba.cell 0
    have e1 := HB2.out.ba.cell 1
    have e2 := HB2.out.ba.cell 2
    have e3 := HB2.out.ba.cell 3
    have g0 := HB2.out.bb.cell 0
    have g1 := HB2.out.bb.cell 1
    have g2 := HB2.out.bb.cell 2
    have g3 := HB2.out.bb.cell 3
    simp only [macC] at e0 e1 e2 e3 g0 g1 g2 g3
    go_wp2_with fail
    clear e0 e1 e2 e3 g0 g1 g2 g3 q0 q1 z0 z1
    refine (newJoined_any w2 a.next.length b.next.length hna hnb).mono ?_
    rintro _ w3 ⟨rfl, J3, f3⟩
    have HB3 := Lib.hid (HB2.out.call f3)
    have HJ3 := Lib.hid J3
    have hw2 : w.heap.size + 3 ≤ w2.heap.size := HB2.out.lt
    obtain ⟨⟨hs1, hs2⟩, hs3, hs4⟩ := HIS.out
    dsimp only at hs1 hs2 hs3 hs4
    have HS := Lib.hid (And.intro (And.intro hs1 hs2) (And.intro hs3 hs4))
    clear f3 J3
    have q0 := HB3.out.bp.cell 0
    have q1 := HB3.out.bp.cell 1
    have z0 := HB3.out.bp.frozen 0
    have z1 := HB3.out.bp.frozen 1
    go_wp2_with fail
    refine (join_any HJ3.out HJ.out ⟨by dsimp only; omega, by dsimp only; omega⟩ ⟨by dsimp only; omega, by dsimp only; omega⟩ ⟨by omega, by omega⟩).mono ?_
    rintro _ w4 ⟨rfl, J4, hl4, f4⟩
    have HB4 := Lib.hid (HB3.out.frm (f4.mono fun b _ h => by subst h; exact hw2))
    have HJ4 := Lib.hid J4
    have HL4 := Lib.hid hl4
    clear f4 J4 hl4 q0 q1 z0 z1
    have q0 := HB4.out.bp.cell 0
    have q1 := HB4.out.bp.cell 1
    have z0 := HB4.out.bp.frozen 0
    have z1 := HB4.out.bp.frozen 1
    go_wp2_with fail
    have HLW : Hid (w.heap.size + 3 ≤ w4.heap.size ∧ w2.heap.size + 2 ≤ w4.heap.size) := ⟨HB4.out.lt, by have := HJ4.out.1.lt; omega⟩
    obtain ⟨W5, hW5⟩ : ∃ W5, W5 = w4.alloc (.cells #[.int .i64 a.start, .int .i64 b.start, .int .i64 0, .int .i64 0] 90) := ⟨_, rfl⟩
    have HB5 : Hid (Dx w W5 (macC a A1 c1 A2 c2) (macC b B1 d1 B2 d2) (a.start, b.start)) := by rw [hW5]; exact HB4.out.call ((Frm.refl _ w4).alloc _)
    have HJ5 : Hid (Jn W5 (w2.heap.size + 1) w2.heap.size a.next.length j) := by rw [hW5]; exact ((Frm.refl (fun _ => False) w4).alloc _).jn HJ4.out id id
    have HT5 : Hid (Trs W5 w4.heap.size (.slice (some ⟨w4.heap.size, 0, none⟩) 1 1) [⟨(a.start, b.start), 0, 0⟩]) := by
      rw [hW5]; exact World.ownsRow_lit w4 _ 1 (Nat.le_refl _) (by unfold maxLen; omega) rfl
    have HSZ5 : Hid (w4.heap.size ≤ W5.heap.size) := by rw [hW5]; show w4.heap.size ≤ _; simp
    rw [← hW5]
    clear hW5 q0 q1 z0 z1
    have he3 := HE2.out
    cases hO : A.outerO f a b f 0 j [⟨(a.start, b.start), 0, 0⟩] with
    | none => rw [hO] at he3; cases he3
    | some ro =>
    rw [hO] at he3
    have HRO := Lib.hid he3
    have HO := Lib.hid hO
    clear he3 hO HE2 HL4 HJ HJ3 HB3 HB4 HJ4
    go_loopg [8, 9] f (fun n u8 i9 wr => ∃ (at_ : Nat) (ts : List A.Tr) (jl : List Int) (p : A.Pr), i9 = .int .i64 (at_ : Int) ∧ ts.length + 300 * n ≤ 1 + 300 * f ∧ Hid (A.outerO f a b n at_ jl ts = some ro) ∧ Hid (Trs wr w4.heap.size u8 ts) ∧ Hid (∀ t ∈ ts, A.InP a b t.p) ∧ Hid (Dx w wr (macC a A1 c1 A2 c2) (macC b B1 d1 B2 d2) p) ∧ Hid (Jn wr (w2.heap.size + 1) w2.heap.size a.next.length jl) ∧ Hid (w4.heap.size ≤ wr.heap.size))
    case atStart => exact ⟨0, _, j, _, rfl, by simp, HO, HT5, fun t ht => by simp only [List.mem_singleton] at ht; subst ht; exact HIS.out, HB5, HJ5, HSZ5⟩
    case round =>
      clear HO HT5 HB5 HJ5 HSZ5
      obtain ⟨at_, ts, jl, p, rfl, hn, HO, HTS, HIN, HD, HJ, HSZ⟩ := hrel
      obtain ⟨TA, tc, rfl⟩ := own_form HTS.out
      have ho := HO.out
      unfold A.outerO at ho
      by_cases hlt : at_ < ts.length
      · have hlt' : (at_ : Int) < (ts.length : Int) := by omega
        rw [dif_pos hlt] at ho
        cases gk with
        | zero => simp at ho
        | succ n =>
        dsimp only at ho
        cases hI : A.innerO f a b at_ (ts[at_]'hlt).p (List.range a.letters.toNat) jl ts with
        | none => rw [hI] at ho; cases ho
        | some res =>
        rw [hI] at ho
        have HOR := Lib.hid ho
        have hl0 := HT.out.fa.letters
        have hl300 := HT.out.la
        have HNN := Lib.hid hn
        obtain ⟨tp, htp⟩ : ∃ tp, tp = (ts[at_]'hlt).p := ⟨_, rfl⟩
        rw [← htp] at hI
        have HI : Hid (A.innerO f a b at_ tp ((List.range a.letters.toNat).drop 0) jl ts = some res) := hI
        have HTP : Hid (∃ t, ts[at_]? = some t ∧ t.p = tp) := ⟨_, List.getElem?_eq_getElem hlt, htp.symm⟩
        have HTI : Hid (A.InP a b tp) := by rw [htp]; exact HIN.out _ (List.getElem_mem hlt)
        have e0 := HD.out.ba.cell 0
        simp only [macC] at e0
        clear ho hI htp hn HO
        go_wp2_with fail
        go_loopg [8, 41] (a.letters.toNat + 1) (fun m u8 i41 wr => ∃ (k : Nat) (ts' : List A.Tr) (jl' : List Int) (p' : A.Pr), k ≤ a.letters.toNat ∧ m = a.letters.toNat + 1 - k ∧ i41 = .int .i64 (k : Int) ∧ ts'.length ≤ ts.length + k ∧ Hid (A.innerO f a b at_ tp ((List.range a.letters.toNat).drop k) jl' ts' = some res) ∧ Hid (∃ t, ts'[at_]? = some t ∧ t.p = tp) ∧ Hid (Trs wr w4.heap.size u8 ts') ∧ Hid (∀ t ∈ ts', A.InP a b t.p) ∧ Hid (Dx w wr (macC a A1 c1 A2 c2) (macC b B1 d1 B2 d2) p') ∧ Hid (Jn wr (w2.heap.size + 1) w2.heap.size a.next.length jl') ∧ Hid (w4.heap.size ≤ wr.heap.size))
        case atStart => exact ⟨0, ts, jl, p, Nat.zero_le _, rfl, rfl, Nat.le_refl _, HI, HTP, HTS, HIN, HD, HJ, HSZ⟩
        case round =>
          clear HI HTP HTS HIN HD HJ HSZ e0
          obtain ⟨k, ts', jl', p', hk, rfl, rfl, htl, HI, HTP, HTS, HIN, HD, HJ, HSZ⟩ := hrel
          obtain ⟨TA', tc', rfl⟩ := own_form HTS.out
          by_cases hltk : k < a.letters.toNat
          · have hltk' : (k : Int) < a.letters := by omega
            obtain ⟨t, ht1, ht2⟩ := HTP.out
            obtain ⟨hlt2, ht3⟩ := List.getElem?_eq_some_iff.1 ht1
            have hlt2' : (at_ : Int) < (ts'.length : Int) := by omega
            obtain ⟨gt, rfl, hgt, hc0, hc1, _, _⟩ := HTS.out.at_ hlt2
            rw [ht3, ht2] at hc0 hc1
            have hi := HI.out
            rw [List.drop_eq_getElem_cons (by simpa using hltk), List.getElem_range] at hi
            unfold A.innerO at hi
            have HIQ : Hid (A.InP a b (A.leadP a b tp k)) := HT.out.lead HTI.out (by omega) hltk'
            have HII := Lib.hid hi
            obtain ⟨tp1, tp2⟩ := tp
            dsimp only at hc0 hc1
            have q0 := HD.out.bp.cell 0
            have q1 := HD.out.bp.cell 1
            have z0 := HD.out.bp.frozen 0
            have z1 := HD.out.bp.frozen 1
            have e0 := HD.out.ba.cell 0
            have e1 := HD.out.ba.cell 1
            have e2 := HD.out.ba.cell 2
            have e3 := HD.out.ba.cell 3
            have g0 := HD.out.bb.cell 0
            have g1 := HD.out.bb.cell 1
            have g2 := HD.out.bb.cell 2
            have g3 := HD.out.bb.cell 3
            simp only [macC] at e0 e1 e2 e3 g0 g1 g2 g3
            clear hi ht1 ht2 ht3
            go_wp2_with fail
            go_still_tail 8, (by kernel_rfl)
            go_wp2_with fail
            clear e0 e1 e2 e3 g0 g1 g2 g3 q0 q1 z0 z1
            refine (leadPair_any (HM.out.keep0 HD.out.fr.drew) (HM'.out.keep0 HD.out.fr.drew) HT.out (tp1, tp2) k HTI.out (by omega) hltk').mono ?_
            rintro _ w6 ⟨rfl, f6⟩
            have f6' : Frm (fun _ => False) wr w6 := f6
            generalize A.leadP a b (tp1, tp2) k = q at *
            obtain ⟨qa, qb⟩ := q
            have HD6 := Lib.hid (HD.out.call f6')
            have HDP := Lib.hid (HD6.out.put (qa, qb))
            have FS := Frm.set2 (w := w6) (w.heap.size + 2) (.int .i64 qa) (.int .i64 qb)
            have HLWo := HLW.out
            have HJP := Lib.hid (FS.jn (f6'.jn HJ.out id id) (by omega) (by omega))
            have HTP6 := Lib.hid (FS.row (f6'.row HTS.out (fun _ _ => id) (Nat.le_refl _)) (fun g hg e => by have := own_ge HTS.out g hg; omega) (Nat.le_refl _))
            have HSZ6 : Hid (w4.heap.size ≤ w6.heap.size) := Nat.le_trans HSZ.out f6'.1
            have q0 := HD6.out.bp.cell 0
            have q1 := HD6.out.bp.cell 1
            have z0 := HD6.out.bp.frozen 0
            have z1 := HD6.out.bp.frozen 1
            clear f6 f6' FS HLWo HD HJ HTS
            simp only [pairV]
            cases hJO : A.joinO f a.next.length jl' (qa, qb) with
            | none => have hi := HII.out; rw [hJO] at hi; cases hi
            | some jr =>
            obtain ⟨j2, b2⟩ := jr
            have hi := HII.out
            rw [hJO] at hi
            have HJO := Lib.hid hJO
            have HI2 := Lib.hid hi
            obtain ⟨⟨hq1, hq2⟩, hq3, hq4⟩ := HIQ.out
            dsimp only at hq1 hq2 hq3 hq4
            have HQB : Hid ((-1 ≤ qa ∧ qa ≤ 4000) ∧ (-1 ≤ qb ∧ qb ≤ 4000)) := ⟨⟨hq1, by omega⟩, hq3, by omega⟩
            clear hi hJO HII hq1 hq2 hq3 hq4
            go_wp2_with fail
            clear q0 q1 z0 z1
            refine (join_any (p := (qa, qb)) HJP.out HJO.out HQB.out.1 HQB.out.2 ⟨by omega, by omega⟩).mono ?_
            rintro _ w7 ⟨rfl, J7, -, f7⟩
            have HD7 := Lib.hid (HDP.out.frm (f7.mono fun b _ h => by subst h; exact hw2))
            have HLWo := HLW.out
            have HT7 := Lib.hid (f7.row HTP6.out (fun g hg e => by have := own_ge HTP6.out g hg; omega) (Nat.le_refl _))
            have HJ7 := Lib.hid J7
            have HSZ7 : Hid (w4.heap.size ≤ w7.heap.size) := by have := f7.1; have := HSZ6.out; simp at *; exact Nat.le_trans (by omega) (by assumption)
            clear f7 J7 HLWo HDP HJP HTP6 HD6
            cases b2 with
            | false =>
              have HI3 : Hid (A.innerO f a b at_ (tp1, tp2) ((List.range a.letters.toNat).drop (k + 1)) j2 ts' = some res) := HI2.out
              go_wp2_with fail
              go_roundg (a.letters.toNat + 1 - (k + 1))
              case measure => omega
              case rel => exact ⟨k + 1, ts', j2, (qa, qb), by omega, rfl, by go_num, by omega, HI3, HTP, HT7, HIN, HD7, HJ7, HSZ7⟩
            | true =>
              have hi := HI2.out
              simp only at hi
              have HI3 := Lib.hid hi
              have q0 := HD7.out.bp.cell 0
              have q1 := HD7.out.bp.cell 1
              obtain ⟨A7, c7, e7⟩ := own_form HT7.out
              injection e7 with e71 e72 e73
              subst e71 e73
              obtain ⟨i0, hi0, hz0, hz1, hz2⟩ := info_parts info_trail
              have HTL := Lib.hid htl
              have HNO := HNN.out
              clear hi HI2 e72
              go_wp2_with (at_builtin; refine wpList_append_own _ rfl _ _ 91 rfl w4.heap.size 90 i0 (.agg #[.int .i64 0, .int .i64 0, .int .i64 0, .int .i64 0]) 4 32 Try.underlying91 hi0 hz0 hz1 hz2 rfl (by decide) _ _ _ rfl (HT7.out.alloc _) ⟨w7.heap.size, 0, none⟩ 1 1 [.int .i64 qa, .int .i64 qb, .int .i64 at_, .int .i64 k] rfl rfl ?y1 ?y2 ?y3 ?y4 ?y5 ?_)
              case y1 => exact cell_four_at rfl
              case y2 => simp [Value.oneCell']
              case y3 => unfold maxLen; omega
              case y4 => omega
              case y5 => have := HSZ7.out; first | omega | (simp; omega)
              intro v8 w8 hown hgrow _
              have HLWo := HLW.out
              have F8 : Frm (fun b => w4.heap.size ≤ b) w7 w8 := ((Frm.refl _ w7).alloc _).grown hgrow (fun g hg _ => own_ge HT7.out g hg)
              have HT8 : Hid (Trs w8 w4.heap.size v8 (ts' ++ [⟨(qa, qb), at_, k⟩])) := by
                show w8.ownsRow _ _ _ _ _ _
                rw [List.length_append, List.flatMap_append]; exact hown
              have HD8 := Lib.hid (HD7.out.frm (F8.mono fun b _ h => by omega))
              have HJ8 := Lib.hid (F8.jn HJ7.out (by omega) (by omega))
              have HSZ8 : Hid (w4.heap.size ≤ w8.heap.size) := Nat.le_trans HSZ7.out F8.1
              have HIN8 : Hid (∀ t ∈ ts' ++ [⟨(qa, qb), at_, k⟩], A.InP a b t.p) := fun t ht => by
                rcases List.mem_append.1 ht with h | h
                · exact HIN.out t h
                · rw [List.mem_singleton] at h; subst h; exact HIQ.out
              have HTP8 : Hid (∃ t, (ts' ++ [(⟨(qa, qb), at_, k⟩ : A.Tr)])[at_]? = some t ∧ t.p = (tp1, tp2)) := by
                obtain ⟨t, h1, h2⟩ := HTP.out
                exact ⟨t, by rw [List.getElem?_append_left hlt2]; exact h1, h2⟩
              have HL8 : Hid ((ts' ++ [(⟨(qa, qb), at_, k⟩ : A.Tr)]).length ≤ ts.length + (k + 1)) := by rw [List.length_append, List.length_singleton]; show _ ≤ _; omega
              clear hown hgrow F8 HLWo hi0 hz0 hz1 hz2 q0 q1 HT7 HD7 HJ7
              have q0 := HD8.out.bp.cell 0
              have q1 := HD8.out.bp.cell 1
              have z0 := HD8.out.bp.frozen 0
              have z1 := HD8.out.bp.frozen 1
              have e0 := HD8.out.ba.cell 0
              have e1 := HD8.out.ba.cell 1
              have e2 := HD8.out.ba.cell 2
              have e3 := HD8.out.ba.cell 3
              have g0 := HD8.out.bb.cell 0
              have g1 := HD8.out.bb.cell 1
              have g2 := HD8.out.bb.cell 2
              have g3 := HD8.out.bb.cell 3
              simp only [macC] at e0 e1 e2 e3 g0 g1 g2 g3
              go_wp2_with fail
              clear e0 e1 e2 e3 g0 g1 g2 g3 q0 q1 z0 z1
              refine (agree_any (HM.out.keep0 HD8.out.fr) (HM'.out.keep0 HD8.out.fr) HT.out (qa, qb) HIQ.out).mono ?_
              rintro _ w9 ⟨rfl, f9⟩
              have HD9 := Lib.hid (HD8.out.call f9)
              have HJ9 := Lib.hid (f9.jn HJ8.out id id)
              have HT9 := Lib.hid (f9.row HT8.out (fun _ _ => id) (Nat.le_refl _))
              have HSZ9 : Hid (w4.heap.size ≤ w9.heap.size) := Nat.le_trans HSZ8.out f9.1
              have hi := HI3.out
              clear f9
              cases hag : A.agree a b (qa, qb) with
              | true =>
                rw [hag, if_pos rfl] at hi
                have HI4 := Lib.hid hi
                clear hi hag
                go_wp2_with fail
                go_roundg (a.letters.toNat + 1 - (k + 1))
                case measure => omega
                case rel => exact ⟨k + 1, _, j2, (qa, qb), by omega, rfl, by go_num, HL8.out, HI4, HTP8, HT9, HIN8, HD9, HJ9, HSZ9⟩
              | false =>
                rw [hag] at hi
                simp only [Bool.false_eq_true, if_false, Option.some.injEq] at hi
                subst hi
                clear hag
                go_wp2_with fail
                have ho2 := HOR.out
                simp only [Option.some.injEq] at ho2
                subst ho2
                have hr := HRO.out
                dsimp only at hr
                rw [Option.map_eq_some_iff] at hr
                obtain ⟨l, hw, hr2⟩ := hr
                subst hr2
                have HWO := Lib.hid hw
                have HL9 : Hid ((ts' ++ [(⟨(qa, qb), at_, k⟩ : A.Tr)]).length ≤ 1000000000) := show _ ≤ _ by have := HL8.out; have := HNN.out; omega
                have d9 := HD9.out
                have q0 := HD9.out.bp.cell 0
                have q1 := HD9.out.bp.cell 1
                have z0 := HD9.out.bp.frozen 0
                have z1 := HD9.out.bp.frozen 1
                clear hw HI3 HJ8 HT8 HD8
                go_region_held3 (fun w' => w'.cell? ⟨w.heap.size + 1 + 1, 0, none⟩ = some (.int .i64 qa) ∧ w'.cell? ⟨w.heap.size + 1 + 1, 1, none⟩ = some (.int .i64 qb) ∧ w'.frozen? ⟨w.heap.size + 1 + 1, 0, none⟩ = false ∧ w'.frozen? ⟨w.heap.size + 1 + 1, 1, none⟩ = false ∧ Dx w w' (macC a A1 c1 A2 c2) (macC b B1 d1 B2 d2) (qa, qb) ∧ Frm (· = w.heap.size + 2) w9 w')
                  (first | exact Dx.six d9 (Frm.refl _ _) | exact Dx.six (d9.call (Frm.refl _ _).drew) (Frm.refl _ _).drew | exact Dx.six (by assumption) (by assumption) | exact Dx.six (Dx.put (by assumption) (qa, qb)) (Frm.trans (by assumption) (Frm.set2 _ _ _)))
                  (first | (go_at_call_of 60 v8; obtain ⟨-, -, -, -, hDx, hFx⟩ := ‹_ ∧ _ ∧ _ ∧ _ ∧ Dx _ _ _ _ _ ∧ Frm _ _ _›; refine (wordOf_any (hFx.row HT9.out (fun g hg e => by have := own_ge HT9.out g hg; have := HLW.out; omega) (Nat.le_refl _)) HWO.out HL9.out (by omega)).mono ?_; rintro e w10 ⟨u, rfl, hI, f10⟩; have hD10 := hDx.call f10; have hF10 := hFx.trans (f10.mono fun _ _ h => h.elim); have y0 := hD10.bp.cell 0; have y1 := hD10.bp.cell 1; have y2 := hD10.bp.frozen 0; have y3 := hD10.bp.frozen 1))
                all_goals
                  have hs9 := HSZ9.out
                  have hlw := HLW.out
                  have FZ := Frm.set2 (w := w10) (w.heap.size + 2) (.int .i64 qa) (.int .i64 qb)
                  have hw9 : w9.drew.heap.size = w9.heap.size := rfl
                  obtain ⟨A9, c9, e9, hI9⟩ := hI.keep FZ (fun b hb h => by omega)
                  have HI9 : Hid (Ints ((w10.setCell ⟨w.heap.size + 2, 0, none⟩ (.int .i64 qa)).setCell ⟨w.heap.size + 2, 1, none⟩ (.int .i64 qb)) (fun b => w.heap.size ≤ b) u l) := ⟨A9, c9, e9, fun k hk => by obtain ⟨g, o, h1, h2, h3⟩ := hI9 k hk; exact ⟨g, o, h1, by omega, h3⟩⟩
                  have HDF := Lib.hid (Dx.put hD10 (qa, qb))
                  clear hI9 e9 FZ
                  go_wp2_with fail
                  refine bodyPost_ret (v := .tuple #[u, pairV (qa, qb), .bool true]) (by simp [results, Try.results34, go_sem, pairV, y0, y1]) rfl ?_
                  exact ⟨_, rfl, HI9.out, HDF.out.fr⟩
          · have hltk' : ¬ (k : Int) < a.letters := by omega
            have hi := HI.out
            rw [List.drop_of_length_le (by simp; omega)] at hi
            unfold A.innerO at hi
            simp only [Option.some.injEq] at hi
            subst hi
            have HOR2 := Lib.hid HOR.out
            have hat9 : at_ ≤ 40000000 := by have := HNN.out; omega
            have hat8 : IntKind.i64.wrap ((at_ : Int) + 1) = (at_ : Int) + 1 := IntWalk.i64_in _ (by omega)
            go_wp2_with fail
            go_roundg n
            case measure => omega
            case rel =>
              exact ⟨at_ + 1, ts', jl', p', by first | rfl | go_num | simp, by have := HNN.out; omega, HOR2, HTS, HIN, HD, HJ, HSZ⟩
      · have hlt' : ¬ (at_ : Int) < (ts.length : Int) := by omega
        rw [dif_neg hlt] at ho
        obtain rfl : none = ro := by simpa using ho
        obtain rfl : none = r := by simpa using HRO.out
        have q0 := HD.out.bp.cell 0
        have q1 := HD.out.bp.cell 1
        have z0 := HD.out.bp.frozen 0
        have z1 := HD.out.bp.frozen 1
        clear ho hn
        go_wp2_with fail
        have HDe := Lib.hid (HD.out.put (0, 0))
        refine bodyPost_ret (v := .tuple #[.slice none 0 0, pairV (0, 0), .bool false]) (by simp [results, Try.results34, go_sem, pairV, q0, q1]) rfl ?_
        exact ⟨rfl, HDe.out.fr⟩
end Go.Proofs.Ytldmjpnldgekaaa
end
section
namespace Go.Proofs.Ytldmjpnldgekaaa
open Go.RowKit
/-- What Differ hands back: where the machines can be looked at together, and r is what difference finds. -/
def DifferPost (w : World) (a b : A.Mac) (r : Option (List Int × A.Pr)) (e : Ending) (w' : World) : Prop := Frm (fun _ => False) w w' ∧
  if A.fit a b = 0 then (match r with
    | none => e = .returned (.tuple #[.slice none 0 0, .bool false, .int .i64 7])
    | some (l, q) => ∃ u, e = .returned (.tuple #[u, .bool (A.ends a q.1), .int .i64 0]) ∧ Ints w' (fun b => w.heap.size ≤ b) u l)
  else e = .returned (.tuple #[.slice none 0 0, .bool false, .int .i64 (A.fit a b)])
set_option maxRecDepth 100000 in
set_option maxHeartbeats 4000000 in
theorem differ_any {w : World} {P Q : Nat → Prop} {v v' : Value} {a b : A.Mac} {f : Nat} {r : Option (List Int × A.Pr)} (h : MachAt w P v a) (h' : MachAt w Q v' b) (hs : Sized a) (hs' : Sized b) (he : A.fit a b = 0 → A.diffO f a b = some r ∧ ∀ l q, r = some (l, q) → A.InP a b q) (hf : f ≤ 100000) :
    Calls Try.prog 20 #[v, v'] w (DifferPost w a b r) := by
  obtain ⟨A1, c1, A2, c2, rfl⟩ := h.form
  obtain ⟨B1, d1, B2, d2, rfl⟩ := h'.form
  have HB0 : Hid (Bx w _ (macC a A1 c1 A2 c2) (macC b B1 d1 B2 d2)) := Bx.new w _ _
  have HM := Lib.hid h
  have HM' := Lib.hid h'
  have HSZ := Lib.hid hs
  have HSZ' := Lib.hid hs'
  have HE := Lib.hid he
  have e0 := HB0.out.ba.cell 0
  have e1 := HB0.out.ba.cell 1
  have e2 := HB0.out.ba.cell 2
  have e3 := HB0.out.ba.cell 3
  have g0 := HB0.out.bb.cell 0
  have g1 := HB0.out.bb.cell 1
  have g2 := HB0.out.bb.cell 2
  have g3 := HB0.out.bb.cell 3
  simp only [macC] at e0 e1 e2 e3 g0 g1 g2 g3
  clear h h' hs hs' he
  go_enter Try.func20, Try.ntmps20
  go_wp2_with fail
  clear e0 e1 e2 e3 g0 g1 g2 g3
  refine (fit_any (HM.out.keep0 HB0.out.fr) (HM'.out.keep0 HB0.out.fr) HSZ.out HSZ'.out).mono ?_
  rintro _ w1 ⟨rfl, f1⟩
  have HB1 := Lib.hid (HB0.out.call f1)
  have HT : Hid (A.fit a b = 0 → A.Two a b) := A.fit_two
  clear f1
  by_cases hf0 : A.fit a b = 0
  · have HT1 := Lib.hid (HT.out hf0)
    have HE1 := Lib.hid (HE.out hf0)
    have HF0 := Lib.hid hf0
    rw [hf0]
    clear hf0
    have e0 := HB1.out.ba.cell 0
    have e1 := HB1.out.ba.cell 1
    have e2 := HB1.out.ba.cell 2
    have e3 := HB1.out.ba.cell 3
    have g0 := HB1.out.bb.cell 0
    have g1 := HB1.out.bb.cell 1
    have g2 := HB1.out.bb.cell 2
    have g3 := HB1.out.bb.cell 3
    simp only [macC] at e0 e1 e2 e3 g0 g1 g2 g3
    go_wp2_with fail
    clear e0 e1 e2 e3 g0 g1 g2 g3
    refine (diff_any (HM.out.keep0 HB1.out.fr) (HM'.out.keep0 HB1.out.fr) HT1.out HE1.out.1 hf).mono ?_
    cases r with
    | none =>
      rintro _ w2 ⟨rfl, f2⟩
      have HB2 := Lib.hid (HB1.out.call f2)
      clear f2
      simp only [pairV]
      go_wp2_with fail
      refine bodyPost_ret (v := .tuple #[.slice none 0 0, .bool false, .int .i64 7]) (by simp [results, Try.results20, go_sem]) rfl ?_
      refine ⟨by first | exact HB2.out.fr.alloc _ | exact HB2.out.fr, ?_⟩
      rw [if_pos HF0.out]
    | some r =>
      obtain ⟨l, q⟩ := r
      rintro _ w2 ⟨u, rfl, hI, f2⟩
      have HB2 := Lib.hid (HB1.out.call f2)
      have HI := Lib.hid hI
      have HQ := Lib.hid (HE1.out.2 l q rfl)
      obtain ⟨qa, qb⟩ := q
      have HB3 := Lib.hid (HB2.out.call ((Frm.refl _ w2).alloc (.cells #[.int .i64 qa, .int .i64 qb] 57)))
      have HI3 := Lib.hid (hI.keep ((Frm.refl (fun _ => False) w2).alloc (.cells #[.int .i64 qa, .int .i64 qb] 57)) (fun _ _ => id))
      have pb := Blk.new w2 57 #[.int .i64 qa, .int .i64 qb]
      have q0 := pb.cell 0
      have q1 := pb.cell 1
      clear hI f2 pb
      have e0 := HB3.out.ba.cell 0
      have e1 := HB3.out.ba.cell 1
      have e2 := HB3.out.ba.cell 2
      have e3 := HB3.out.ba.cell 3
      simp only [macC] at e0 e1 e2 e3
      simp only [pairV]
      go_wp2_with fail
      refine (ends_any (HM.out.keep0 HB3.out.fr) HT1.out.fa qa HQ.out.1).mono ?_
      rintro _ w3 ⟨rfl, f3⟩
      have HB4 := Lib.hid (HB3.out.call f3)
      have hI4 := HI3.out.keep f3 (fun _ _ => id)
      have HI4 : Hid (Ints w3 (fun b => w.heap.size ≤ b) u l) := by
        obtain ⟨A9, c9, e9, hI9⟩ := hI4
        have hle := HB1.out.fr.1
        exact ⟨A9, c9, e9, fun k hk => by obtain ⟨g, o, h1, h2, h3⟩ := hI9 k hk; exact ⟨g, o, h1, Nat.le_trans hle h2, h3⟩⟩
      clear f3 hI4 e0 e1 e2 e3 q0 q1
      go_wp2_with fail
      refine bodyPost_ret (v := .tuple #[u, .bool (A.ends a qa), .int .i64 0]) (by simp [results, Try.results20, go_sem]) rfl ?_
      refine ⟨HB4.out.fr, ?_⟩
      rw [if_pos HF0.out]
      exact ⟨u, rfl, HI4.out⟩
  · have hb : (A.fit a b != 0) = true := by rw [bne_iff_ne]; exact hf0
    have HF0 := Lib.hid hf0
    clear hf0
    go_wp2_with fail
    refine bodyPost_ret (v := .tuple #[.slice none 0 0, .bool false, .int .i64 (A.fit a b)]) (by simp [results, Try.results20, go_sem]) rfl ?_
    refine ⟨HB1.out.fr, ?_⟩
    rw [if_neg HF0.out]
end Go.Proofs.Ytldmjpnldgekaaa
end
section
namespace Go.Proofs.Ytldmjpnldgekaaa
open Go.RowKit
def u64Cs (l : List Int) : Array Value := (l.map fun x => Value.int .u64 x).toArray
theorem u64Cs_made (n : Nat) : madeCells #[.int .u64 0] n = u64Cs (List.replicate n 0) := by
  apply Array.toList_inj.1
  rw [toList_madeCells_one]
  simp [u64Cs]
theorem u64Cs_getD {l : List Int} {i : Nat} (hi : i < l.length) : (u64Cs l)[i]? = some (.int .u64 (l.getD i 0)) := by simp [u64Cs, hi]
theorem u64Cs_set (l : List Int) (i : Nat) (x : Int) : (u64Cs l).setIfInBounds i (.int .u64 x) = u64Cs (l.set i x) := by
  apply Array.toList_inj.1
  simp [u64Cs]
theorem info_u64 : (Try.prog.info? 33).map (fun i => (i.zero, i.size, i.bytes)) = some (some (.int .u64 0), 1, 8) := by kernel_rfl
namespace A
def addTo (ws : List Int) (c x : Int) : Int := if x = -1 then c else IntKind.u64.wrap (c + ws.getD x.toNat 0)
def sumRow (ws : List Int) (row : List Int) : Int := row.foldl (addTo ws) 0
def longer (m : Mac) (ws : List Int) : List Int := m.next.map (sumRow ws)
/-- The first k rows reckoned, the others 0. -/
def longTo (m : Mac) (ws : List Int) (k : Nat) : List Int := (m.next.take k).map (sumRow ws) ++ List.replicate (m.next.length - k) 0
theorem longTo_len (m : Mac) (ws : List Int) {k : Nat} (hk : k ≤ m.next.length) : (longTo m ws k).length = m.next.length := by
  simp [longTo]; omega
theorem longTo_set (m : Mac) (ws : List Int) {k : Nat} (hk : k < m.next.length) : (longTo m ws k).set k (sumRow ws m.next[k]) = longTo m ws (k + 1) := by
  unfold longTo
  rw [List.set_append_right _ _ (by simp; omega), List.take_succ_eq_append_getElem hk]
  have e : k - ((m.next.take k).map (sumRow ws)).length = 0 := by simp; omega
  rw [e, show m.next.length - k = (m.next.length - (k + 1)) + 1 by omega, List.replicate_succ, List.set_cons_zero, List.map_append, List.append_assoc]
  rfl
theorem longTo_end (m : Mac) (ws : List Int) : longTo m ws m.next.length = longer m ws := by simp [longTo, longer]
end A
set_option maxRecDepth 100000 in
set_option maxHeartbeats 4000000 in
theorem longer_any {w : World} {P : Nat → Prop} {v : Value} {m : A.Mac} {ws : List Int} {wg wc : Nat} (h : MachAt w P v m) (hf : A.Fits m) (hn : m.next.length ≤ 4000) (hlt3 : m.letters ≤ 300) (hb : Blk w wg 33 (u64Cs ws)) (hl : ws.length = m.next.length) :
    Calls Try.prog 28 #[v, .slice (some ⟨wg, 0, none⟩) ws.length wc] w fun e w' => e = .returned (.slice (some ⟨w.heap.size + 1, 0, none⟩) ws.length ws.length) ∧ Blk w' (w.heap.size + 1) 33 (u64Cs (A.longer m ws)) ∧ Frm (fun _ => False) w w' := by
  obtain ⟨A1, c1, A2, c2, rfl⟩ := h.form
  obtain ⟨N, hN⟩ : ∃ N, N = ws.length := ⟨_, rfl⟩
  have hmk := run_make_row' (P := Try.prog) 51 33 (.int .u64 0) 8 Try.underlying51 info_u64 rfl .i64 .i64 N (by omega) (by omega)
  have bx := Blk.new w 25 #[.int .i64 m.letters, .int .i64 m.start, .slice A1 m.next.length c1, .slice A2 m.fin.length c2]
  have x2 := bx.cell 2
  have x2' := (bx.alloc (.cells (madeCells #[.int .u64 0] N) 33)).cell 2
  rw [← hN]
  have HN := Lib.hid hN
  have HM := Lib.hid h
  have HF := Lib.hid hf
  have HB := Lib.hid hb
  have HL := Lib.hid hl
  clear h hf hb hN hl bx
  go_enter Try.func28, Try.ntmps28
  go_wp2_with fail
  clear hmk x2 x2'
  have hLN : m.next.length = N := by rw [HN.out, HL.out]
  rw [hLN] at hn ⊢
  have HLN := Lib.hid hLN
  clear hLN
  go_loopg [17] (N + 1) (fun n i wr => ∃ k : Nat, k ≤ N ∧ n = N + 1 - k ∧ i = .int .i64 (k : Int) ∧ Hid (Blk wr (w.heap.size + 1) 33 (u64Cs (A.longTo m ws k))) ∧ Hid (Frm (fun _ => False) w wr))
  case atStart =>
    refine ⟨0, Nat.zero_le _, rfl, rfl, show Blk _ _ _ _ from ?_, ((Frm.refl _ w).alloc _).alloc _⟩
    have : u64Cs (A.longTo m ws 0) = madeCells #[.int .u64 0] N := by rw [u64Cs_made]; simp [A.longTo, HLN.out]
    rw [this]
    exact blk_at (by simp)
  case round =>
    obtain ⟨k, hk, rfl, rfl, Y, F⟩ := hrel
    by_cases hlt : k < N
    · have hlt' : (k : Int) < (N : Int) := by omega
      have hltm : k < m.next.length := by rw [HLN.out]; exact hlt
      obtain ⟨g, o, A3, c3, hA, hc, hrow⟩ := HM.out.next_at hltm
      subst hA
      have c0 := F.out.cell id hc
      have HIN := Lib.hid (HF.out.rows _ (List.getElem_mem hltm)).2
      have HSET : Hid ((A.longTo m ws k).set k (A.sumRow ws (m.next[k]'hltm)) = A.longTo m ws (k + 1)) := A.longTo_set m ws hltm
      have hyl : (A.longTo m ws k).length = N := by rw [A.longTo_len m ws (Nat.le_of_lt hltm), HLN.out]
      have HYL := Lib.hid hyl
      have HROW := Lib.hid hrow
      have hrl : (m.next[k]'hltm).length ≤ 300 := by have := (HF.out.rows _ (List.getElem_mem hltm)).1; omega
      generalize m.next[k]'hltm = row at *
      clear hc hrow hyl hltm
      go_wp2_with fail
      go_loopg [8, 24] (row.length + 1) (fun n c i wr' => ∃ (j : Nat) (cv : Int), j ≤ row.length ∧ n = row.length + 1 - j ∧ i = .int .i64 (j : Int) ∧ c = .int .u64 cv ∧ Hid (A.sumRow ws row = (row.drop j).foldl (A.addTo ws) cv) ∧ wr' = wr)
      case atStart => exact ⟨0, 0, Nat.zero_le _, rfl, rfl, rfl, rfl, rfl⟩
      case round =>
        obtain ⟨j, cv, hj, rfl, rfl, rfl, HJ, rfl⟩ := hrel
        by_cases hltj : j < row.length
        · have hltj' : (j : Int) < (row.length : Int) := by omega
          obtain ⟨g3, o3, hA3, _, hcj⟩ := HROW.out j hltj
          subst hA3
          have c1 := F.out.cell id hcj
          have HJ1 : Hid ((row.drop j).foldl (A.addTo ws) cv = (row.drop (j + 1)).foldl (A.addTo ws) (A.addTo ws cv (row[j]'hltj))) := show _ = _ by rw [List.drop_eq_getElem_cons hltj]; rfl
          have HX := Lib.hid (HIN.out _ (List.getElem_mem hltj))
          generalize row[j]'hltj = x at *
          obtain ⟨hx1, hx2⟩ := HX.out
          clear hcj
          by_cases hx : x = -1
          · subst hx
            have HJ2 : Hid (A.sumRow ws row = (row.drop (j + 1)).foldl (A.addTo ws) cv) := show _ = _ by rw [HJ.out, HJ1.out]; rfl
            go_wp2_with fail
            go_roundg (row.length + 1 - (j + 1))
            case measure => omega
            case rel => exact ⟨j + 1, cv, by omega, rfl, by go_num, rfl, HJ2, rfl⟩
          · have hb : (x != -1) = true := by rw [bne_iff_ne]; exact hx
            obtain ⟨q, rfl⟩ : ∃ q : Nat, x = (q : Int) := ⟨x.toNat, by omega⟩
            have hqN : q < ws.length := by rw [HL.out]; omega
            have hqN' : (q : Int) < (N : Int) := by rw [HN.out]; omega
            have d0 := F.out.cell id ((HB.out.cell q).trans (u64Cs_getD hqN))
            have HJ2 : Hid (A.sumRow ws row = (row.drop (j + 1)).foldl (A.addTo ws) (IntKind.u64.wrap (cv + ws.getD q 0))) := show _ = _ by rw [HJ.out, HJ1.out]; simp [A.addTo, hx]
            generalize ws.getD q 0 = y at *
            clear hx HJ1 HJ hqN
            go_wp2_with fail
            go_roundg (row.length + 1 - (j + 1))
            case measure => omega
            case rel => exact ⟨j + 1, _, by omega, rfl, by go_num, rfl, HJ2, rfl⟩
        · have hltj' : ¬ (j : Int) < (row.length : Int) := by omega
          have HJ2 : Hid (A.sumRow ws row = cv) := show _ = _ by rw [HJ.out, List.drop_of_length_le (by omega)]; rfl
          have y0 := (Y.out.cell k).trans (u64Cs_getD (by rw [HYL.out]; exact hlt))
          have yf := Y.out.frozen k
          generalize (A.longTo m ws k).getD k 0 = y at y0
          go_wp2_with fail
          go_roundg (N + 1 - (k + 1))
          case measure => omega
          case rel =>
            have hY := Y.out.set_ k (.int .u64 cv)
            rw [u64Cs_set, ← HJ2.out, HSET.out] at hY
            rw [HJ2.out] at hY
            exact ⟨k + 1, by omega, rfl, by go_num, hY, F.out.set_ (fun h => by dsimp only at h; omega) _⟩
    · have hlt' : ¬ (k : Int) < (N : Int) := by omega
      obtain rfl : k = N := by omega
      go_wp2_with fail
      go_ret
      refine ⟨rfl, ?_, F.out⟩
      have := Y.out
      rw [← HLN.out, A.longTo_end] at this
      exact this
end Go.Proofs.Ytldmjpnldgekaaa
end
section
namespace Go.Proofs.Ytldmjpnldgekaaa
open Go.RowKit
namespace A
def words0 (m : Mac) : List Int := m.fin.map fun b => if b then 1 else 0
def longN (m : Mac) : Nat → List Int → List Int
  | 0, ws => ws
  | n + 1, ws => longN m n (longer m ws)
def count (m : Mac) (n : Int) : Int × Int :=
  if valid m = 0 ∧ 0 ≤ n ∧ n ≤ 1000 then (if m.start = -1 then (0, 0) else ((longN m n.toNat (words0 m)).getD m.start.toNat 0, 0)) else (0, 1)
def firstTo (m : Mac) (k : Nat) : List Int := (m.fin.take k).map (fun b => if b then 1 else 0) ++ List.replicate (m.fin.length - k) 0
theorem firstTo_len (m : Mac) {k : Nat} (hk : k ≤ m.fin.length) : (firstTo m k).length = m.fin.length := by
  simp [firstTo]; omega
theorem firstTo_set (m : Mac) {k : Nat} (hk : k < m.fin.length) : (firstTo m k).set k (if m.fin[k] then 1 else 0) = firstTo m (k + 1) := by
  unfold firstTo
  rw [List.set_append_right _ _ (by simp; omega), List.take_succ_eq_append_getElem hk]
  have e : k - ((m.fin.take k).map (fun b => if b then (1 : Int) else 0)).length = 0 := by simp; omega
  rw [e, show m.fin.length - k = (m.fin.length - (k + 1)) + 1 by omega, List.replicate_succ, List.set_cons_zero, List.map_append, List.append_assoc]
  rfl
theorem firstTo_skip (m : Mac) {k : Nat} (hk : k < m.fin.length) (h : m.fin[k] = false) : firstTo m k = firstTo m (k + 1) := by
  unfold firstTo
  rw [List.take_succ_eq_append_getElem hk, h, show m.fin.length - k = (m.fin.length - (k + 1)) + 1 by omega, List.replicate_succ, List.map_append, List.append_assoc]
  rfl
theorem firstTo_end (m : Mac) : firstTo m m.fin.length = words0 m := by simp [firstTo, words0]
theorem longer_len (m : Mac) (ws : List Int) : (longer m ws).length = m.next.length := by simp [longer]
theorem longN_len (m : Mac) : ∀ (n : Nat) (ws : List Int), ws.length = m.next.length → (longN m n ws).length = m.next.length
  | 0, _, h => h
  | n + 1, ws, _ => longN_len m n _ (longer_len m ws)
end A
set_option maxRecDepth 100000 in
set_option maxHeartbeats 4000000 in
theorem count_any {w : World} {P : Nat → Prop} {v : Value} {m : A.Mac} {n : Int} (h : MachAt w P v m) (hs : Sized m) :
    Calls Try.prog 15 #[v, .int .i64 n] w fun e w' => e = .returned (.tuple #[.int .u64 (A.count m n).1, .int .i64 (A.count m n).2]) ∧ Frm (fun _ => False) w w' := by
  obtain ⟨A1, c1, A2, c2, rfl⟩ := h.form
  have bx := Blk.new w 25 #[.int .i64 m.letters, .int .i64 m.start, .slice A1 m.next.length c1, .slice A2 m.fin.length c2]
  have HB0 := Lib.hid bx
  have HF0 : Hid (Frm (fun _ => False) w (w.alloc (.cells #[.int .i64 m.letters, .int .i64 m.start, .slice A1 m.next.length c1, .slice A2 m.fin.length c2] 25))) := (Frm.refl _ w).alloc _
  have HM := Lib.hid h
  have HSZ := Lib.hid hs
  have HX : Hid (A.count m n = if A.valid m = 0 ∧ 0 ≤ n ∧ n ≤ 1000 then (if m.start = -1 then (0, 0) else ((A.longN m n.toNat (A.words0 m)).getD m.start.toNat 0, 0)) else (0, 1)) := rfl
  have x0 := bx.cell 0
  have x1 := bx.cell 1
  have x2 := bx.cell 2
  have x3 := bx.cell 3
  clear h hs bx
  go_enter Try.func15, Try.ntmps15
  go_wp2_with fail
  refine (valid_any (HM.out.keep0 HF0.out) HSZ.out).mono ?_
  rintro _ w1 ⟨rfl, f1⟩
  have HF1 := Lib.hid (HF0.out.trans f1)
  have HB1 := Lib.hid (f1.blk HB0.out id)
  have HV : Hid (A.valid m = 0 → A.Fits m ∧ m.letters ≤ 300 ∧ m.next.length ≤ 4000) := A.valid_fits
  clear f1 x0 x1 x2 x3
  have x1 := HB1.out.cell 1
  generalize A.valid m = vm at *
  by_cases hv : vm = 0
  · subst hv
    obtain ⟨hfit, hl300, hn4⟩ := HV.out rfl
    have HFI := Lib.hid hfit
    clear hfit
    by_cases h0 : n < 0
    · have HZ : Hid (A.count m n = (0, 1)) := show _ = _ by rw [HX.out, if_neg (by omega)]
      go_wp2_with fail
      refine bodyPost_ret (v := .tuple #[.int .u64 0, .int .i64 1]) (by simp [results, Try.results15, go_sem]) rfl ⟨by rw [HZ.out], HF1.out⟩
    by_cases h1 : 1000 < n
    · have h0' : 0 ≤ n := by omega
      have HZ : Hid (A.count m n = (0, 1)) := show _ = _ by rw [HX.out, if_neg (by omega)]
      go_wp2_with fail
      refine bodyPost_ret (v := .tuple #[.int .u64 0, .int .i64 1]) (by simp [results, Try.results15, go_sem]) rfl ⟨by rw [HZ.out], HF1.out⟩
    have h0' : 0 ≤ n := by omega
    have h1' : n ≤ 1000 := by omega
    by_cases h2 : m.start = -1
    · have HZ : Hid (A.count m n = (0, 0)) := show _ = _ by rw [HX.out, if_pos ⟨rfl, h0', h1'⟩, if_pos h2]
      rw [h2] at x1
      go_wp2_with fail
      refine bodyPost_ret (v := .tuple #[.int .u64 0, .int .i64 0]) (by simp [results, Try.results15, go_sem]) rfl ⟨by rw [HZ.out], HF1.out⟩
    have HZ : Hid (A.count m n = ((A.longN m n.toNat (A.words0 m)).getD m.start.toNat 0, 0)) := show _ = _ by rw [HX.out, if_pos ⟨rfl, h0', h1'⟩, if_neg h2]
    have hb2 : (m.start != -1) = true := by rw [bne_iff_ne]; exact h2
    have hb3 : (m.start == -1) = false := by rw [beq_eq_false_iff_ne]; exact h2
    have HS2 := Lib.hid h2
    obtain ⟨nn, rfl⟩ : ∃ nn : Nat, n = (nn : Int) := ⟨n.toNat, by omega⟩
    have hmk := run_make_row' (P := Try.prog) 51 33 (.int .u64 0) 8 Try.underlying51 info_u64 rfl .i64 .i64 m.next.length (by omega) (by omega)
    have x2 := HB1.out.cell 2
    have x3 := HB1.out.cell 3
    have x3' := (HB1.out.alloc (.cells (madeCells #[.int .u64 0] m.next.length) 33)).cell 3
    clear h2 HV HX
    go_wp2_with fail
    have hfn := HFI.out.fin
    have HFN := Lib.hid hfn
    have HLW : Hid (w.heap.size < w1.heap.size) := HB1.out.lt
    clear hmk x1 x2 x3 x3' hfn
    go_loopg [30] (m.fin.length + 1) (fun g i wr => ∃ k : Nat, k ≤ m.fin.length ∧ g = m.fin.length + 1 - k ∧ i = .int .i64 (k : Int) ∧ Hid (Blk wr w1.heap.size 33 (u64Cs (A.firstTo m k))) ∧ Hid (Blk wr w.heap.size 25 #[.int .i64 m.letters, .int .i64 m.start, .slice A1 m.next.length c1, .slice A2 m.fin.length c2]) ∧ Hid (Frm (fun _ => False) w wr))
    case atStart =>
      refine ⟨0, Nat.zero_le _, rfl, rfl, show Blk _ _ _ _ from ?_, HB1.out.alloc _, HF1.out.alloc _⟩
      have : u64Cs (A.firstTo m 0) = madeCells #[.int .u64 0] m.next.length := by rw [u64Cs_made]; simp [A.firstTo, HFN.out]
      rw [this]
      exact Blk.new w1 _ _
    case round =>
      obtain ⟨k, hk, rfl, rfl, Y, X, F⟩ := hrel
      by_cases hlt : k < m.fin.length
      · have hlt' : (k : Int) < (m.fin.length : Int) := by omega
        obtain ⟨g, o, hA, hc⟩ := HM.out.fin_at hlt
        subst hA
        have c0 := F.out.cell id hc
        have hlw := HLW.out
        have HK : Hid ((A.firstTo m k).set k (if m.fin[k]'hlt then 1 else 0) = A.firstTo m (k + 1)) := A.firstTo_set m hlt
        have HK0 : Hid (m.fin[k]'hlt = false → A.firstTo m k = A.firstTo m (k + 1)) := A.firstTo_skip m hlt
        have hkn : (k : Int) < (m.next.length : Int) := by rw [HFN.out]; exact hlt'
        have y0 := (Y.out.cell k).trans (u64Cs_getD (by rw [A.firstTo_len m (Nat.le_of_lt hlt)]; exact hlt))
        have yf := Y.out.frozen k
        generalize (A.firstTo m k).getD k 0 = y at y0
        generalize m.fin[k]'hlt = b at *
        clear hc
        cases b with
        | false =>
          have HY : Hid (Blk wr w1.heap.size 33 (u64Cs (A.firstTo m (k + 1)))) := by rw [← HK0.out rfl]; exact Y.out
          go_wp2_with fail
          go_roundg (m.fin.length + 1 - (k + 1))
          case measure => omega
          case rel => exact ⟨k + 1, by omega, rfl, by go_num, HY, X, F⟩
        | true =>
          go_wp2_with fail
          go_roundg (m.fin.length + 1 - (k + 1))
          case measure => omega
          case rel =>
            have hY := Y.out.set_ k (.int .u64 1)
            rw [u64Cs_set] at hY
            have hk2 := HK.out
            simp only [if_true] at hk2
            rw [hk2] at hY
            exact ⟨k + 1, by omega, rfl, by go_num, hY, X.out.far (by dsimp only; omega) _, F.out.set_ (fun h => by dsimp only at h; omega) _⟩
      · have hlt' : ¬ (k : Int) < (m.fin.length : Int) := by omega
        obtain rfl : k = m.fin.length := by omega
        have HY := Y
        rw [A.firstTo_end] at HY
        go_wp2_with fail
        have HW0 : Hid ((A.words0 m).length = m.next.length) := show _ = _ by rw [A.words0, List.length_map, HFN.out]
        clear hlt hlt' hk
        go_loopg [6, 41] (nn + 1) (fun gk u6 i wr' => ∃ (j g : Nat) (ws : List Int), j ≤ nn ∧ gk = nn + 1 - j ∧ i = .int .i64 (j : Int) ∧ u6 = .slice (some ⟨g, 0, none⟩) m.next.length m.next.length ∧ ws.length = m.next.length ∧ Hid (A.longN m nn (A.words0 m) = A.longN m (nn - j) ws) ∧ Hid (Blk wr' g 33 (u64Cs ws)) ∧ Hid (Blk wr' w.heap.size 25 #[.int .i64 m.letters, .int .i64 m.start, .slice A1 m.next.length c1, .slice A2 m.fin.length c2]) ∧ Hid (Frm (fun _ => False) w wr'))
        case atStart => exact ⟨0, _, A.words0 m, Nat.zero_le _, rfl, rfl, rfl, HW0.out, rfl, HY, X, F⟩
        case round =>
          clear HY X F Y
          obtain ⟨j, g, ws, hj, rfl, rfl, rfl, hwl, HL, HG, X, F⟩ := hrel
          by_cases hltj : j < nn
          · have hltj' : (j : Int) < (nn : Int) := by omega
            have x0 := X.out.cell 0
            have x1 := X.out.cell 1
            have x2 := X.out.cell 2
            have x3 := X.out.cell 3
            have HLS : Hid (A.longN m (nn - j) ws = A.longN m (nn - (j + 1)) (A.longer m ws)) := show _ = _ by rw [show nn - j = (nn - (j + 1)) + 1 by omega]; rfl
            have HWL := Lib.hid hwl
            clear hwl
            go_wp2_with fail
            have hlo := longer_any (wc := m.next.length) (HM.out.keep0 F.out) HFI.out hn4 hl300 HG.out HWL.out
            rw [HWL.out] at hlo
            refine hlo.mono ?_
            rintro _ w4 ⟨rfl, hb4, f4⟩
            have HG4 := Lib.hid hb4
            have X4 := Lib.hid (f4.blk X.out id)
            have F4 := Lib.hid (F.out.trans f4)
            clear hlo hb4 f4 x0 x1 x2 x3
            go_wp2_with fail
            go_roundg (nn + 1 - (j + 1))
            case measure => omega
            case rel => exact ⟨j + 1, _, A.longer m ws, by omega, rfl, by go_num, rfl, A.longer_len m ws, HL.out.trans HLS.out, HG4, X4, F4⟩
          · have hltj' : ¬ (j : Int) < (nn : Int) := by omega
            obtain rfl : j = nn := by omega
            have hl := HL.out
            rw [Nat.sub_self] at hl
            have hst := HFI.out.start
            obtain ⟨hst1, hst2⟩ := hst
            have hs2 := HS2.out
            obtain ⟨q, hq⟩ : ∃ q : Nat, m.start = (q : Int) := ⟨m.start.toNat, by omega⟩
            have hqn : (q : Int) < (m.next.length : Int) := by omega
            have hqw : q < ws.length := by omega
            have d0 := (HG.out.cell q).trans (u64Cs_getD hqw)
            have x1 := X.out.cell 1
            have HZ2 : Hid (A.count m j = (ws.getD q 0, 0)) := show _ = _ by
              rw [HZ.out, Int.toNat_natCast, hl, hq]; rfl
            rw [hq] at x1
            generalize ws.getD q 0 = y at *
            clear hl hs2 hst1 hst2 hq hb2 hb3 hqw
            go_wp2_with fail
            refine bodyPost_ret (v := .tuple #[.int .u64 y, .int .i64 0]) (by simp [results, Try.results15, go_sem]) rfl ⟨by rw [HZ2.out], F.out⟩
  · have hb : (vm != 0) = true := by rw [bne_iff_ne]; exact hv
    have HZ : Hid (A.count m n = (0, 1)) := show _ = _ by rw [HX.out, if_neg (fun h => hv h.1)]
    clear hv
    go_wp2_with fail
    refine bodyPost_ret (v := .tuple #[.int .u64 0, .int .i64 1]) (by simp [results, Try.results15, go_sem]) rfl ⟨by rw [HZ.out], HF1.out⟩
end Go.Proofs.Ytldmjpnldgekaaa
end
section
namespace Go.Proofs.Ytldmjpnldgekaaa
open Go.RowKit
set_option maxRecDepth 100000 in
set_option maxHeartbeats 4000000 in
/-- Relate's closure, its machines in boxes ab and bb. -/
theorem relate1_any {w : World} {P Q : Nat → Prop} {a b : A.Mac} {ab bb : Nat} {A1 A2 B1 B2 : Option Addr} {c1 c2 d1 d2 : Nat} (hA : Blk w ab 25 (macC a A1 c1 A2 c2)) (hB : Blk w bb 25 (macC b B1 d1 B2 d2)) (h : MachAt w P (macV a A1 c1 A2 c2) a) (h' : MachAt w Q (macV b B1 d1 B2 d2) b) (ht : A.Two a b) (p : A.Pr) (k : Int) (hp : A.InP a b p) (h0 : 0 ≤ k) (hk : k < a.letters) :
    Calls Try.prog 38 #[pairV p, .int .i64 k, .pointer (some ⟨ab, 0, none⟩), .pointer (some ⟨bb, 0, none⟩)] w fun e w' => e = .returned (pairV (A.leadP a b p k)) ∧ Frm (fun _ => False) w w' := by
  obtain ⟨p1, p2⟩ := p
  have HF0 : Hid (Frm (fun _ => False) w ((w.alloc (.cells #[.int .i64 p1, .int .i64 p2] 57)).alloc (.cells #[.int .i64 0, .int .i64 0] 57))) := ((Frm.refl _ w).alloc _).alloc _
  have hA2 := HF0.out.blk hA id
  have hB2 := HF0.out.blk hB id
  have q0 := ((Blk.new w 57 #[.int .i64 p1, .int .i64 p2]).alloc (.cells #[.int .i64 0, .int .i64 0] 57)).cell 0
  have q1 := ((Blk.new w 57 #[.int .i64 p1, .int .i64 p2]).alloc (.cells #[.int .i64 0, .int .i64 0] 57)).cell 1
  have HR : Hid (Blk ((w.alloc (.cells #[.int .i64 p1, .int .i64 p2] 57)).alloc (.cells #[.int .i64 0, .int .i64 0] 57)) (w.heap.size + 1) 57 #[.int .i64 0, .int .i64 0]) := blk_at (by simp)
  have e0 := hA2.cell 0
  have e1 := hA2.cell 1
  have e2 := hA2.cell 2
  have e3 := hA2.cell 3
  have g0 := hB2.cell 0
  have g1 := hB2.cell 1
  have g2 := hB2.cell 2
  have g3 := hB2.cell 3
  simp only [macC] at e0 e1 e2 e3 g0 g1 g2 g3
  have HM := Lib.hid (h.keep0 HF0.out)
  have HM' := Lib.hid (h'.keep0 HF0.out)
  have HT := Lib.hid ht
  have HP := Lib.hid hp
  clear h h' ht hp hA hB hA2 hB2
  simp only [pairV]
  go_enter Try.func38, Try.ntmps38
  go_wp2_with fail
  clear e0 e1 e2 e3 g0 g1 g2 g3 q0 q1
  refine (leadPair_any HM.out HM'.out HT.out (p1, p2) k HP.out h0 hk).mono ?_
  rintro _ w2 ⟨rfl, f2⟩
  have HF2 := Lib.hid (HF0.out.trans f2)
  have HR2 := Lib.hid (f2.blk HR.out id)
  have r0 := HR2.out.cell 0
  have r1 := HR2.out.cell 1
  have s0 := HR2.out.frozen 0
  have s1 := HR2.out.frozen 1
  generalize hq : A.leadP a b (p1, p2) k = q
  obtain ⟨qa, qb⟩ := q
  have HQ := Lib.hid hq
  clear hq
  simp only [pairV]
  clear f2
  go_wp2_with fail
  have FZ := Frm.set2 (w := w2) (w.heap.size + 1) (.int .i64 qa) (.int .i64 qb)
  have HRF := Lib.hid ((HR2.out.set_ 0 (.int .i64 qa)).set_ 1 (.int .i64 qb))
  have d0 := HRF.out.cell 0
  have d1 := HRF.out.cell 1
  refine bodyPost_ret (v := pairV (qa, qb)) (by simp [results, Try.results38, go_sem, pairV, r0, r1]) rfl ⟨by first | rfl | (rw [HQ.out]; rfl) | rw [HQ.out], ?_⟩
  exact Frm.mono (E := fun b => b = w.heap.size + 1) ((HF2.out.mono fun _ _ h => h.elim).trans FZ) fun b hb h => by omega
end Go.Proofs.Ytldmjpnldgekaaa
end
section
namespace Go.Proofs.Ytldmjpnldgekaaa
open Go.RowKit
def updF {α : Type} (f : Nat → α) (i : Nat) (x : α) : Nat → α := fun k => if k = i then x else f k
theorem updF_same {α : Type} (f : Nat → α) (i : Nat) (x : α) : updF f i x i = x := by simp [updF]
theorem updF_other {α : Type} (f : Nat → α) {i k : Nat} (x : α) (h : k ≠ i) : updF f i x k = f k := by simp [updF, h]
def cellsOf (n : Nat) (vf : Nat → Value) : Array Value := ((List.range n).map vf).toArray
theorem cellsOf_get {n : Nat} (vf : Nat → Value) {i : Nat} (hi : i < n) : (cellsOf n vf)[i]? = some (vf i) := by simp [cellsOf, hi]
theorem cellsOf_set {n : Nat} (vf : Nat → Value) (i : Nat) (v : Value) : (cellsOf n vf).setIfInBounds i v = cellsOf n (updF vf i v) := by
  apply Array.toList_inj.1
  simp only [cellsOf, Array.toList_setIfInBounds]
  apply List.ext_getElem
  · simp
  · intro k h1 h2
    simp only [List.length_set, List.length_map, List.length_range] at h1
    simp only [List.getElem_set, List.getElem_map, List.getElem_range, updF]
    by_cases h : i = k
    · subst h; simp
    · rw [if_neg h, if_neg (fun e => h e.symm)]
structure GT where
  oty : TypeId
  e : TypeId
  sz : Nat
/-- The outer block ob of n slices vf, whose rows hold the cells cf, ln elements each; all lie in S. -/
structure Grp (T : GT) (w : World) (S : Nat → Prop) (ob n : Nat) (vf : Nat → Value) (ln : Nat → Nat) (cf : Nat → List Value) : Prop where
  out : Blk w ob T.oty (cellsOf n vf)
  so : S ob
  own : ∀ i, i < n → w.ownsRow 0 T.e T.sz (vf i) (ln i) (cf i)
  lie : ∀ i, i < n → ∀ g, (vf i).ownBlock = some g → S g ∧ g ≠ ob
  dis : ∀ i j, i < n → j < n → i ≠ j → ∀ g, (vf i).ownBlock = some g → (vf j).ownBlock ≠ some g
section
variable {T : GT} {w w' : World} {S S' E : Nat → Prop} {ob n : Nat} {vf : Nat → Value} {ln : Nat → Nat} {cf : Nat → List Value}
theorem Grp.mono (h : Grp T w S ob n vf ln cf) (hS : ∀ b, b < w.heap.size → S b → S' b) : Grp T w S' ob n vf ln cf :=
  ⟨h.out, hS _ h.out.lt h.so, h.own, fun i hi g hg => ⟨hS _ ((h.own i hi).lt g hg).2 (h.lie i hi g hg).1, (h.lie i hi g hg).2⟩, h.dis⟩
theorem Grp.frm (h : Grp T w S ob n vf ln cf) (F : Frm E w w') (hE : ∀ b, b < w.heap.size → S b → ¬ E b) : Grp T w' S ob n vf ln cf :=
  ⟨F.blk h.out (hE _ h.out.lt h.so), h.so, fun i hi => F.row (h.own i hi) (fun g hg => hE g ((h.own i hi).lt g hg).2 (h.lie i hi g hg).1) (Nat.le_refl _), h.lie, h.dis⟩
theorem Grp.frm0 (h : Grp T w S ob n vf ln cf) (F : Frm (fun _ => False) w w') : Grp T w' S ob n vf ln cf := h.frm F fun _ _ _ => id
theorem Grp.congr {ln' : Nat → Nat} {cf' : Nat → List Value} (h : Grp T w S ob n vf ln cf) (h1 : ∀ i, i < n → ln' i = ln i) (h2 : ∀ i, i < n → cf' i = cf i) : Grp T w S ob n vf ln' cf' :=
  ⟨h.out, h.so, fun i hi => by rw [h1 i hi, h2 i hi]; exact h.own i hi, h.lie, h.dis⟩
/-- The slice at i: its form, its cell in the outer block. -/
theorem Grp.slot (h : Grp T w S ob n vf ln cf) {i : Nat} (hi : i < n) : ∃ A c, vf i = .slice A (ln i) c ∧ w.cell? ⟨ob, i, none⟩ = some (.slice A (ln i) c) ∧ w.frozen? ⟨ob, i, none⟩ = false ∧ (0 < ln i → ∃ g, A = some ⟨g, 0, none⟩) ∧ (ln i ≤ c) := by
  obtain ⟨A, c, e⟩ := own_form (h.own i hi)
  refine ⟨A, c, e, by rw [h.out.cell i, cellsOf_get vf hi, e], h.out.frozen i, fun hp => ?_, ?_⟩
  · obtain ⟨g, cap, e'⟩ := (h.own i hi).form hp
    obtain ⟨e', _⟩ := e'
    rw [e] at e'
    injection e' with e1
    exact ⟨g, e1⟩
  · rcases (h.own i hi).2 with ⟨e', hn⟩ | ⟨g, cap, cur, e', _, _, hle, _⟩
    · omega
    · rw [e] at e'
      injection e' with e1 e2 e3
      omega
/-- A cell of the row i. -/
theorem Grp.cell (h : Grp T w S ob n vf ln cf) {i : Nat} (hi : i < n) {g c : Nat} (e : vf i = .slice (some ⟨g, 0, none⟩) (ln i) c) {j : Nat} {u : Value} (hj : (cf i)[j]? = some u) : w.cell? ⟨g, j, none⟩ = some u ∧ w.frozen? ⟨g, j, none⟩ = false ∧ S g ∧ g ≠ ob ∧ g < w.heap.size := by
  have ho := h.own i hi
  have hb : (vf i).ownBlock = some g := by rw [e]; rfl
  have hc := ho.cells hb j u hj
  rw [add_zero_off] at hc
  have hlt := (ho.lt g hb).2
  refine ⟨hc, ?_, (h.lie i hi g hb).1, (h.lie i hi g hb).2, hlt⟩
  rcases ho.2 with ⟨e', _⟩ | ⟨g', cap, cur, e', _, hx, _⟩
  · rw [e] at e'; cases e'
  · rw [e] at e'
    injection e' with e1
    injection e1 with e1
    injection e1 with e1
    subst e1
    exact Blk.frozen (cs := cur) hx j
/-- A store into the row i. -/
theorem Grp.store (h : Grp T w S ob n vf ln cf) {i : Nat} (hi : i < n) {g c : Nat} (e : vf i = .slice (some ⟨g, 0, none⟩) (ln i) c) {j : Nat} (hj : j < (cf i).length) (u : Value) : Grp T (w.setCell ⟨g, j, none⟩ u) S ob n vf ln (updF cf i ((cf i).set j u)) := by
  have hb : (vf i).ownBlock = some g := by rw [e]; rfl
  have hne := (h.lie i hi g hb).2
  refine ⟨h.out.far (fun e => hne e.symm) u, h.so, fun k hk => ?_, h.lie, h.dis⟩
  by_cases hki : k = i
  · subst hki
    rw [updF_same]
    have ho := h.own k hk
    rcases ho.2 with ⟨e', _⟩ | ⟨g', cap, cur, e', hbase, hx, h1, h2, h3, h4⟩
    · rw [e] at e'; cases e'
    · rw [e] at e'
      injection e' with e1 e2 e3
      injection e1 with e1
      injection e1 with e1
      subst e1
      have hx' : Blk w g T.e cur := hx
      refine ⟨by rw [List.length_set]; exact ho.1, .inr ⟨g, c, cur.setIfInBounds j u, e, hbase, hx'.set_ j u, by omega, by omega, by rw [Array.size_setIfInBounds, h3, e3], ?_⟩⟩
      rw [Array.toList_setIfInBounds, List.take_set, h4]
  · rw [updF_other _ _ hki]
    have ho := h.own k hk
    have hd := h.dis i k hi hk (fun e => hki e.symm) g hb
    refine ⟨ho.1, ho.2.imp id fun ⟨g', cap, cur, e', hbase, hx, h1⟩ => ⟨g', cap, cur, e', hbase, ?_, h1⟩⟩
    have hg' : g' ≠ g := fun e2 => hd (by rw [e', ← e2]; rfl)
    exact Blk.far (cs := cur) hx hg' u
/-- The slice at i replaced by v', which owns its own row in the world w1 that an append left. -/
theorem Grp.put (h : Grp T w S ob n vf ln cf) {i : Nat} (hi : i < n) {w1 : World} {v' : Value} {m : Nat} {xs : List Value} (hg : w.grownBy w1 (vf i).ownBlock) (ho : w1.ownsRow 0 T.e T.sz v' m xs) (hl : v'.ownBlock = (vf i).ownBlock ∨ ∀ g, v'.ownBlock = some g → w.heap.size ≤ g) :
    Grp T (w1.setCell ⟨ob, i, none⟩ v') (fun b => S b ∨ w.heap.size ≤ b) ob n (updF vf i v') (updF ln i m) (updF cf i xs) := by
  have hnew : ∀ g, v'.ownBlock = some g → (vf i).ownBlock = some g ∨ w.heap.size ≤ g := fun g hgv => by
    rcases hl with hl | hl
    · exact .inl (by rw [← hl]; exact hgv)
    · exact .inr (hl g hgv)
  have hobne : ∀ g, v'.ownBlock = some g → g ≠ ob := fun g hgv => by
    rcases hnew g hgv with h1 | h1
    · exact (h.lie i hi g h1).2
    · have := h.out.lt; omega
  have hobrow : some ob ≠ (vf i).ownBlock := fun e => (h.lie i hi ob e.symm).2 rfl
  have hout : Blk w1 ob T.oty (cellsOf n vf) := h.out.grown hg hobrow
  have hrow : ∀ {v : Value} {k : Nat} {ys : List Value}, w1.ownsRow 0 T.e T.sz v k ys → (∀ g, v.ownBlock = some g → g ≠ ob) → (w1.setCell ⟨ob, i, none⟩ v').ownsRow 0 T.e T.sz v k ys := fun {v k ys} h1 h2 =>
    ⟨h1.1, h1.2.imp id fun ⟨g', cap, cur, e', hbase, hx, h3⟩ => ⟨g', cap, cur, e', hbase, Blk.far (cs := cur) hx (h2 g' (by rw [e']; rfl)) v', h3⟩⟩
  refine ⟨by rw [← cellsOf_set vf i]; exact hout.set_ i v', .inl h.so, fun k hk => ?_, fun k hk g hgk => ?_, fun k j hk hj hne g hgk => ?_⟩
  · by_cases hki : k = i
    · subst hki
      simp only [updF_same]
      exact hrow ho hobne
    · simp only [updF_other _ _ hki]
      have h1 := h.own k hk
      refine hrow (h1.kept hg ?_) fun g hgk => (h.lie k hk g hgk).2
      cases hv : (vf k).ownBlock with
      | none => exact .inl rfl
      | some g => exact .inr fun e => h.dis k i hk hi hki g hv e.symm
  · by_cases hki : k = i
    · subst hki
      rw [updF_same] at hgk
      refine ⟨?_, hobne g hgk⟩
      rcases hnew g hgk with h1 | h1
      · exact .inl (h.lie k hk g h1).1
      · exact .inr h1
    · rw [updF_other _ _ hki] at hgk
      exact ⟨.inl (h.lie k hk g hgk).1, (h.lie k hk g hgk).2⟩
  · by_cases hki : k = i
    · subst hki
      rw [updF_same] at hgk
      rw [updF_other _ _ (fun e => hne e.symm)]
      rcases hnew g hgk with h1 | h1
      · exact h.dis k j hk hj hne g h1
      · intro e
        have := ((h.own j hj).lt g e).2
        omega
    · rw [updF_other _ _ hki] at hgk
      by_cases hji : j = i
      · subst hji
        rw [updF_same]
        intro e
        rcases hnew g e with h1 | h1
        · exact h.dis k j hk hj hne g hgk h1
        · have := ((h.own k hk).lt g hgk).2
          omega
      · rw [updF_other _ _ hji]
        exact h.dis k j hk hj hne g hgk
theorem Grp.drew (h : Grp T w S ob n vf ln cf) : Grp T w.drew S ob n vf ln cf := ⟨h.out.drew, h.so, h.own, h.lie, h.dis⟩
/-- What an append to row i and the store behind it do to the frame. -/
theorem Grp.put_frm (h : Grp T w S ob n vf ln cf) {i : Nat} (hi : i < n) {w1 : World} {v' : Value} (hg : w.grownBy w1 (vf i).ownBlock) : Frm S w (w1.setCell ⟨ob, i, none⟩ v') :=
  ((Frm.refl S w).grown hg fun g e _ => (h.lie i hi g e.symm.symm).1).set_ (fun _ => h.so) v'
theorem Grp.store_frm (h : Grp T w S ob n vf ln cf) {i : Nat} (hi : i < n) {g c : Nat} (e : vf i = .slice (some ⟨g, 0, none⟩) (ln i) c) (j : Nat) (u : Value) : Frm S w (w.setCell ⟨g, j, none⟩ u) :=
  (Frm.refl S w).set_ (fun _ => (h.lie i hi g (by rw [e]; rfl)).1) u
end
end Go.Proofs.Ytldmjpnldgekaaa
end
section
namespace Go.Proofs.Ytldmjpnldgekaaa
open Go.RowKit
namespace A
abbrev Ar := Int × Int
/-- The ways out of the state s by the letters from k on, each put into its state's list. -/
def addAr (s : Int) : Int → List Int → List (List Ar) → List (List Ar)
  | _, [], acc => acc
  | k, x :: r, acc => addAr s (k + 1) r (if x = -1 then acc else acc.set x.toNat (acc.getD x.toNat [] ++ [(s, k)]))
def addRows : Int → List (List Int) → List (List Ar) → List (List Ar)
  | _, [], acc => acc
  | s, row :: r, acc => addRows (s + 1) r (addAr s 0 row acc)
def arrive (m : Mac) : List (List Ar) := addRows 0 m.next (List.replicate m.next.length [])
end A
def arC (a : A.Ar) : List Value := [.int .i64 a.1, .int .i64 a.2]
def arT : GT := ⟨108, 110, 2⟩
def lnOf {α : Type} (acc : List (List α)) (i : Nat) : Nat := (acc.getD i []).length
def cfOf {α : Type} (f : α → List Value) (acc : List (List α)) (i : Nat) : List Value := (acc.getD i []).flatMap f
theorem lnOf_set {α : Type} (acc : List (List α)) {i : Nat} (hi : i < acc.length) (l : List α) : lnOf (acc.set i l) = updF (lnOf acc) i l.length := by
  funext k
  unfold lnOf updF
  by_cases h : k = i
  · subst h; simp [hi]
  · have h' : ¬ i = k := fun e => h e.symm
    simp [h, h']
theorem cfOf_set {α : Type} (f : α → List Value) (acc : List (List α)) {i : Nat} (hi : i < acc.length) (l : List α) : cfOf f (acc.set i l) = updF (cfOf f acc) i (l.flatMap f) := by
  funext k
  unfold cfOf updF
  by_cases h : k = i
  · subst h; simp [hi]
  · have h' : ¬ i = k := fun e => h e.symm
    simp [h, h']
/-- The arrivals in memory. -/
def Rws {α : Type} (T : GT) (f : α → List Value) (w : World) (S : Nat → Prop) (ob : Nat) (acc : List (List α)) : Prop := ∃ vf, Grp T w S ob acc.length vf (lnOf acc) (cfOf f acc)
def Ars (w : World) (S : Nat → Prop) (ob : Nat) (acc : List (List A.Ar)) : Prop := Rws arT arC w S ob acc
theorem Grp.rws0 {α : Type} {T : GT} {f : α → List Value} {w : World} {S : Nat → Prop} {ob k : Nat} {vf : Nat → Value} (h : Grp T w S ob k vf (fun _ => 0) (fun _ => [])) : Rws T f w S ob (List.replicate k []) := by
  refine ⟨vf, ?_⟩
  rw [List.length_replicate]
  have e : ∀ i, (List.replicate k ([] : List α)).getD i [] = [] := fun i => by simp only [List.getD_eq_getElem?_getD, List.getElem?_replicate]; split <;> rfl
  exact h.congr (fun i _ => by unfold lnOf; rw [e]; rfl) (fun i _ => by unfold cfOf; rw [e]; rfl)
theorem Grp.add {α : Type} {T : GT} {f : α → List Value} {w w1 : World} {S : Nat → Prop} {ob : Nat} {vf : Nat → Value} {acc : List (List α)} (h : Grp T w S ob acc.length vf (lnOf acc) (cfOf f acc)) {q : Nat} (hq : q < acc.length) {v' : Value} (x : α) (hg : w.grownBy w1 (vf q).ownBlock) (ho : w1.ownsRow 0 T.e T.sz v' (lnOf acc q + 1) (cfOf f acc q ++ f x)) (hl : v'.ownBlock = (vf q).ownBlock ∨ ∀ g, v'.ownBlock = some g → w.heap.size ≤ g) :
    Rws T f (w1.setCell ⟨ob, q, none⟩ v') (fun b => S b ∨ w.heap.size ≤ b) ob (acc.set q (acc.getD q [] ++ [x])) := by
  refine ⟨updF vf q v', ?_⟩
  rw [List.length_set, lnOf_set acc hq, cfOf_set f acc hq]
  have := h.put hq hg ho hl
  refine this.congr (fun i _ => ?_) (fun i _ => ?_)
  · rw [List.length_append]; rfl
  · rw [List.flatMap_append, show [x].flatMap f = f x by simp]; rfl
theorem Rws.mono {α : Type} {T : GT} {f : α → List Value} {w : World} {S S' : Nat → Prop} {ob : Nat} {acc : List (List α)} (h : Rws T f w S ob acc) (hS : ∀ b, b < w.heap.size → S b → S' b) : Rws T f w S' ob acc := by
  obtain ⟨vf, h⟩ := h
  exact ⟨vf, h.mono hS⟩
theorem Rws.frm {α : Type} {T : GT} {f : α → List Value} {w w' : World} {S E : Nat → Prop} {ob : Nat} {acc : List (List α)} (h : Rws T f w S ob acc) (F : Frm E w w') (hE : ∀ b, b < w.heap.size → S b → ¬ E b) : Rws T f w' S ob acc := by
  obtain ⟨vf, h⟩ := h
  exact ⟨vf, h.frm F hE⟩
theorem info_arS : (Try.prog.info? 108).map (fun i => (i.zero, i.size, i.bytes)) = some (some (.slice none 0 0), 1, 24) := by kernel_rfl
theorem info_ar : (Try.prog.info? 110).map (fun i => (i.zero, i.size, i.bytes)) = some (some (.agg #[.int .i64 0, .int .i64 0]), 2, 16) := by kernel_rfl
theorem cell_two_at {w : World} {u v : Value} {e : TypeId} {n : Nat} (hn : w.heap.size = n) : ∀ (j : Nat) (z : Value), [u, v][j]? = some z → (w.alloc (.cells #[u, v] e)).cell? ((⟨n, 0, none⟩ : Addr).add j) = some z := by
  subst hn
  intro j z hz
  rw [add_zero_off, (Blk.new w e #[u, v]).cell j]
  simpa using hz
theorem cellsOf_made (n : Nat) (z : Value) : madeCells #[z] n = cellsOf n (fun _ => z) := by
  apply Array.toList_inj.1
  rw [toList_madeCells_one]
  simp only [cellsOf]
  apply List.ext_getElem <;> simp
/-- A new outer block of nil slices. -/
theorem Grp.made (T : GT) (w : World) (n : Nat) : Grp T (w.alloc (.cells (madeCells #[.slice none 0 0] n) T.oty)) (fun b => w.heap.size ≤ b) w.heap.size n (fun _ => .slice none 0 0) (fun _ => 0) (fun _ => []) :=
  ⟨by rw [cellsOf_made]; exact Blk.new w _ _, Nat.le_refl _, fun _ _ => World.ownsRow_nil _ _ _ _, fun _ _ _ h => (by cases h), fun _ _ _ _ _ _ h => (by cases h)⟩
def Cnts (wr : World) (g n B : Nat) (cs : List Int) : Prop := Blk wr g 3 (intCs cs) ∧ cs.length = n ∧ ∀ x ∈ cs, 0 ≤ x ∧ x ≤ B
theorem Cnts.at_ {wr : World} {g n B : Nat} {cs : List Int} (h : Cnts wr g n B cs) {k : Nat} (hk : k < n) : wr.cell? ⟨g, k, none⟩ = some (.int .i64 (cs.getD k 0)) ∧ wr.frozen? ⟨g, k, none⟩ = false ∧ 0 ≤ cs.getD k 0 ∧ cs.getD k 0 ≤ B := by
  have hk' : k < cs.length := by rw [h.2.1]; exact hk
  have hm := h.2.2 _ (List.getElem_mem hk')
  have e : cs.getD k 0 = cs[k] := by simp [hk']
  exact ⟨(h.1.cell k).trans (intCs_getD hk'), h.1.frozen k, by rw [e]; exact hm.1, by rw [e]; exact hm.2⟩
theorem Cnts.inc {wr : World} {g n B : Nat} {cs : List Int} (h : Cnts wr g n B cs) {k : Nat} (hk : k < n) : Cnts (wr.setCell ⟨g, k, none⟩ (.int .i64 (cs.getD k 0 + 1))) g n (B + 1) (cs.set k (cs.getD k 0 + 1)) := by
  have hq := h.at_ hk
  refine ⟨by rw [← intCs_set]; exact h.1.set_ k _, by rw [List.length_set]; exact h.2.1, fun x hx => ?_⟩
  rcases List.mem_or_eq_of_mem_set hx with hx | hx
  · have := h.2.2 x hx; omega
  · omega
theorem Cnts.wide {wr : World} {g n B B' : Nat} {cs : List Int} (h : Cnts wr g n B cs) (hB : B ≤ B') : Cnts wr g n B' cs := ⟨h.1, h.2.1, fun x hx => by have := h.2.2 x hx; omega⟩
theorem Cnts.frm {E : Nat → Prop} {wr w' : World} {g n B : Nat} {cs : List Int} (h : Cnts wr g n B cs) (F : Frm E wr w') (hE : ¬ E g) : Cnts w' g n B cs := ⟨F.blk h.1 hE, h.2⟩
namespace A
/-- Each list has at most n elements. -/
def Short {α : Type} (acc : List (List α)) (n : Nat) : Prop := ∀ i, (acc.getD i []).length ≤ n
theorem Short.mono {α : Type} {acc : List (List α)} {n n' : Nat} (h : Short acc n) (hn : n ≤ n') : Short acc n' := fun i => Nat.le_trans (h i) hn
theorem Short.add {α : Type} {acc : List (List α)} {n : Nat} (h : Short acc n) (q : Nat) (x : α) : Short (acc.set q (acc.getD q [] ++ [x])) (n + 1) := fun i => by
  have hi := h i
  have hq := h q
  simp only [List.getD_eq_getElem?_getD, List.getElem?_set] at *
  by_cases e : q = i
  · subst e
    by_cases hl : q < acc.length
    · simp [hl] at *; omega
    · simp [hl]
  · simp [e] at *; omega
end A
set_option maxRecDepth 100000 in
set_option maxHeartbeats 4000000 in
theorem arrivals_any {w : World} {P : Nat → Prop} {v : Value} {m : A.Mac} (h : MachAt w P v m) (hf : A.Fits m) (hn : m.next.length ≤ 100000) (hlt3 : m.letters ≤ 300) :
    Calls Try.prog 51 #[v] w fun e w' => ∃ ob, e = .returned (.slice (some ⟨ob, 0, none⟩) m.next.length m.next.length) ∧ Ars w' (fun b => w.heap.size ≤ b) ob (A.arrive m) ∧ Frm (fun _ => False) w w' := by
  obtain ⟨A1, c1, A2, c2, rfl⟩ := h.form
  obtain ⟨N, hN⟩ : ∃ N, N = m.next.length := ⟨_, rfl⟩
  have HB0 : Hid (Blk (w.alloc (.cells #[.int .i64 m.letters, .int .i64 m.start, .slice A1 m.next.length c1, .slice A2 m.fin.length c2] 25)) w.heap.size 25 #[.int .i64 m.letters, .int .i64 m.start, .slice A1 m.next.length c1, .slice A2 m.fin.length c2]) := Blk.new w _ _
  have HF0 : Hid (Frm (fun _ => False) w (w.alloc (.cells #[.int .i64 m.letters, .int .i64 m.start, .slice A1 m.next.length c1, .slice A2 m.fin.length c2] 25))) := (Frm.refl _ w).alloc _
  have HM := Lib.hid h
  have HFI := Lib.hid hf
  rw [← hN] at hn HB0 HF0 ⊢
  have HN := Lib.hid hN
  clear h hf hN
  have hmk := run_make_row' (P := Try.prog) 37 3 (.int .i64 0) 8 Try.underlying37 info_int rfl .i64 .i64 N (by omega) (by omega)
  have x2 := HB0.out.cell 2
  go_enter Try.func51, Try.ntmps51
  go_wp2_with fail
  have HC1 : Hid (Cnts ((w.alloc (.cells #[.int .i64 m.letters, .int .i64 m.start, .slice A1 N c1, .slice A2 m.fin.length c2] 25)).alloc (.cells (madeCells #[.int .i64 0] N) 3)) (w.heap.size + 1) N 0 (List.replicate N 0)) := by
    refine ⟨by rw [intCs_made]; exact blk_at (by simp), by simp, fun x hx => ?_⟩
    rw [List.mem_replicate] at hx; omega
  have HB1 := Lib.hid (HB0.out.alloc (.cells (madeCells #[.int .i64 0] N) 3))
  have HF1 := Lib.hid (HF0.out.alloc (.cells (madeCells #[.int .i64 0] N) 3))
  clear hmk x2
  have x2 := HB1.out.cell 2
  go_wp2_with fail
  go_loopg [22] (N + 1) (fun n i wr => ∃ (k : Nat) (cs : List Int), k ≤ N ∧ n = N + 1 - k ∧ i = .int .i64 (k : Int) ∧ Hid (Cnts wr (w.heap.size + 1) N (300 * k) cs) ∧ Hid (Blk wr w.heap.size 25 #[.int .i64 m.letters, .int .i64 m.start, .slice A1 N c1, .slice A2 m.fin.length c2]) ∧ Hid (Frm (fun _ => False) w wr))
  case atStart => exact ⟨0, _, Nat.zero_le _, rfl, rfl, HC1, HB1, HF1⟩
  case round =>
    obtain ⟨k, cs, hk, rfl, rfl, C, X, F⟩ := hrel
    by_cases hlt : k < N
    · have hlt' : (k : Int) < (N : Int) := by omega
      have hltm : k < m.next.length := by rw [← HN.out]; exact hlt
      obtain ⟨g, o, A3, c3, hA, hc, hrow⟩ := HM.out.next_at hltm
      subst hA
      have c0 := F.out.cell id hc
      have HIN := Lib.hid (HFI.out.rows _ (List.getElem_mem hltm)).2
      have hrl : (m.next[k]'hltm).length ≤ 300 := by have := (HFI.out.rows _ (List.getElem_mem hltm)).1; omega
      have HROW := Lib.hid hrow
      generalize m.next[k]'hltm = row at *
      clear hc hrow hltm
      go_wp2_with fail
      go_loopg [28] (row.length + 1) (fun n i wr' => ∃ (j : Nat) (cs : List Int), j ≤ row.length ∧ n = row.length + 1 - j ∧ i = .int .i64 (j : Int) ∧ Hid (Cnts wr' (w.heap.size + 1) N (300 * k + j) cs) ∧ Hid (Blk wr' w.heap.size 25 #[.int .i64 m.letters, .int .i64 m.start, .slice (some ⟨g, o, none⟩) N c1, .slice A2 m.fin.length c2]) ∧ Hid (Frm (fun _ => False) w wr'))
      case atStart => exact ⟨0, cs, Nat.zero_le _, rfl, rfl, C, X, F⟩
      case round =>
        clear C X F c0
        obtain ⟨j, cs, hj, rfl, rfl, C, X, F⟩ := hrel
        by_cases hltj : j < row.length
        · have hltj' : (j : Int) < (row.length : Int) := by omega
          obtain ⟨g3, o3, hA3, _, hcj⟩ := HROW.out j hltj
          subst hA3
          have c1 := F.out.cell id hcj
          have HX := Lib.hid (HIN.out _ (List.getElem_mem hltj))
          generalize row[j]'hltj = x at *
          obtain ⟨hx1, hx2⟩ := HX.out
          clear hcj
          by_cases hx : x = -1
          · subst hx
            have HC2 := Lib.hid (C.out.wide (B' := 300 * k + (j + 1)) (by omega))
            go_wp2_with fail
            go_roundg (row.length + 1 - (j + 1))
            case measure => omega
            case rel => exact ⟨j + 1, cs, by omega, rfl, by go_num, HC2, X, F⟩
          · have hb : (x != -1) = true := by rw [bne_iff_ne]; exact hx
            obtain ⟨q, rfl⟩ : ∃ q : Nat, x = (q : Int) := ⟨x.toNat, by omega⟩
            have hqN : q < N := by rw [HN.out]; omega
            have hqN' : (q : Int) < (N : Int) := by omega
            obtain ⟨d0, df, hd0, hd1⟩ := C.out.at_ hqN
            have HC2 := Lib.hid (C.out.inc hqN)
            generalize cs.getD q 0 = y at *
            have hd2 : y ≤ 60000000 := by omega
            clear hx
            go_wp2_with fail
            go_roundg (row.length + 1 - (j + 1))
            case measure => omega
            case rel => exact ⟨j + 1, _, by omega, rfl, by go_num, HC2, X.out.far (by dsimp only; omega) _, F.out.set_ (fun h => by dsimp only at h; omega) _⟩
        · have hltj' : ¬ (j : Int) < (row.length : Int) := by omega
          have HC2 := Lib.hid (C.out.wide (B' := 300 * (k + 1)) (by omega))
          go_wp2_with fail
          go_roundg (N + 1 - (k + 1))
          case measure => omega
          case rel => exact ⟨k + 1, cs, by omega, rfl, by go_num, HC2, X, F⟩
    · have hlt' : ¬ (k : Int) < (N : Int) := by omega
      obtain rfl : k = N := by omega
      have x2 := X.out.cell 2
      have hmk := run_make_row' (P := Try.prog) 74 108 (.slice none 0 0) 24 Try.underlying74 info_arS rfl .i64 .i64 k (by omega) (by omega)
      have HG1 := Lib.hid (Grp.made arT wr k)
      go_wp2_with fail
      have HLW : Hid (w.heap.size + 2 ≤ wr.heap.size) := by have := C.out.1.lt; show _ ≤ _; omega
      have HC3 := Lib.hid (C.out.frm ((Frm.refl (fun _ => False) wr).alloc (.cells (madeCells #[.slice none 0 0] k) 108)) id)
      have HX3 := Lib.hid (X.out.alloc (.cells (madeCells #[.slice none 0 0] k) 108))
      have HF3 := Lib.hid (F.out.alloc (.cells (madeCells #[.slice none 0 0] k) 108))
      have HG3 := Lib.hid (HG1.out.mono (S' := fun b => w.heap.size + 2 ≤ b) fun b _ hb => Nat.le_trans HLW.out hb)
      obtain ⟨ob, hob⟩ : ∃ ob, ob = wr.heap.size := ⟨_, rfl⟩
      obtain ⟨i0, hi0, hz0, hz1, hz2⟩ := info_parts info_ar
      have HMK : Hid (∀ (y : Int) (W : World), 0 ≤ y → y ≤ 300 * k → (Instr.makeSlice 108 (.int .i64 0) (.int .i64 y)).run Try.prog W = .ok (.slice (some ⟨W.heap.size, 0, none⟩) 0 y.toNat) (W.alloc (.cells (madeCells #[.int .i64 0, .int .i64 0] (y.toNat * 2)) 110))) := fun y W h0 h1 => by
        have := run_make (P := Try.prog) W 108 110 i0 (.agg #[.int .i64 0, .int .i64 0]) Try.underlying108 hi0 hz0 .i64 .i64 0 y (Int.le_refl _) h0 (by rw [hz2]; omega) (by omega)
        rw [hz1] at this
        exact this
      have HB300 : Hid (300 * k ≤ 30000000) := show _ ≤ _ by omega
      rw [← hob] at HG3 ⊢
      clear C X F x2 hmk HG1 HC1 HB1 HF1 HB0 HF0 hlt' hlt hk hob hi0 hz0 hz1 hz2
      go_loopg [48] (k + 1) (fun n i wr' => ∃ (j : Nat) (vf : Nat → Value), j ≤ k ∧ n = k + 1 - j ∧ i = .int .i64 (j : Int) ∧ Hid (Grp arT wr' (fun b => w.heap.size + 2 ≤ b) ob k vf (fun _ => 0) (fun _ => [])) ∧ Hid (∀ i, j ≤ i → vf i = .slice none 0 0) ∧ Hid (Cnts wr' (w.heap.size + 1) k (300 * k) cs) ∧ Hid (Blk wr' w.heap.size 25 #[.int .i64 m.letters, .int .i64 m.start, .slice A1 k c1, .slice A2 m.fin.length c2]) ∧ Hid (Frm (fun _ => False) w wr'))
      case atStart => exact ⟨0, _, Nat.zero_le _, rfl, rfl, HG3, fun _ _ => rfl, HC3, HX3, HF3⟩
      case round =>
        clear HG3 HC3 HX3 HF3
        obtain ⟨j, vf, hj, rfl, rfl, G, V, C, X, F⟩ := hrel
        by_cases hlt : j < k
        · have hlt' : (j : Int) < (k : Int) := by omega
          obtain ⟨d0, df, hd0, hd1⟩ := C.out.at_ hlt
          obtain ⟨A4, c4, e4, o4, f4, _, _⟩ := G.out.slot hlt
          have o4' := fun o => ((Frm.refl (fun _ => False) wr).alloc o).cell id o4
          have f4' := fun o => (G.out.out.alloc o).frozen j
          generalize cs.getD j 0 = y at *
          have hmk := HMK.out y wr hd0 (by omega)
          have HD : Hid (0 ≤ y ∧ y ≤ 300 * k) := ⟨hd0, by omega⟩
          clear e4 hd0 hd1
          go_wp2_with fail
          have hv0 := V.out j (Nat.le_refl _)
          have hp := G.out.put hlt (w1 := wr.alloc (.cells (madeCells #[.int .i64 0, .int .i64 0] (y.toNat * 2)) 110)) (v' := .slice (some ⟨wr.heap.size, 0, none⟩) 0 y.toNat) (m := 0) (xs := []) (World.grownBy_alloc _ _ _) (World.ownsRow_made _ _ _ (Nat.zero_le _) (by have := HD.out; have := HB300.out; unfold maxLen; omega) (by simp [arT, madeCells])) (.inr fun g hg => by simp only [Value.ownBlock, Option.some.injEq] at hg; omega)
          have HFS : Hid (Frm (fun _ => False) w ((wr.alloc (.cells (madeCells #[.int .i64 0, .int .i64 0] (y.toNat * 2)) 110)).setCell ⟨ob, j, none⟩ (.slice (some ⟨wr.heap.size, 0, none⟩) 0 y.toNat))) := (F.out.alloc _).set_ (fun h => by have := G.out.so; dsimp only at h this; omega) _
          have HP := Lib.hid hp
          clear hp hmk d0 df o4 f4 o4' f4'
          go_roundg (k + 1 - (j + 1))
          case measure => omega
          case rel =>
            have hob := G.out.so
            have FO : Frm (fun b => b = ob) wr ((wr.alloc (.cells (madeCells #[.int .i64 0, .int .i64 0] (y.toNat * 2)) 110)).setCell ⟨ob, j, none⟩ (.slice (some ⟨wr.heap.size, 0, none⟩) 0 y.toNat)) := Frm.set_ (E := fun b => b = ob) (p := ⟨ob, j, none⟩) ((Frm.refl _ wr).alloc _) (fun _ => rfl) _
            refine ⟨j + 1, updF vf j (.slice (some ⟨wr.heap.size, 0, none⟩) 0 y.toNat), by omega, rfl, by go_num, show Grp _ _ _ _ _ _ _ _ from ?_, show ∀ i, _ from fun i hi => ?_, show Cnts _ _ _ _ _ from C.out.frm FO (by omega), show Blk _ _ _ _ from FO.blk X.out (by omega), HFS⟩
            · exact (HP.out.mono fun b _ hb => by have := F.out.1; have := HLW.out; have := G.out.out.lt; rcases hb with hb | hb <;> omega).congr (fun i hi => by unfold updF; split <;> rfl) (fun i hi => by unfold updF; split <;> rfl)
            · rw [updF_other _ _ (by omega)]; exact V.out i (by omega)
        · have hlt' : ¬ (j : Int) < (k : Int) := by omega
          obtain rfl : j = k := by omega
          have HA0 : Hid (Ars wr (fun b => w.heap.size + 2 ≤ b) ob (List.replicate j [])) := Grp.rws0 G.out
          have HAR : Hid (A.arrive m = A.addRows 0 (m.next.drop 0) (List.replicate j [])) := show _ = _ by rw [HN.out]; rfl
          have HS0 : Hid (A.Short (List.replicate j ([] : List A.Ar)) (300 * 0)) := fun i => by simp only [List.getD_eq_getElem?_getD, List.getElem?_replicate]; split <;> simp
          have x2 := X.out.cell 2
          go_wp2_with fail
          clear G V C hj hlt hlt' HMK x2
          go_loopg [62] (j + 1) (fun n i wr => ∃ (r : Nat) (acc : List (List A.Ar)), r ≤ j ∧ n = j + 1 - r ∧ i = .int .i64 (r : Int) ∧ acc.length = j ∧ Hid (A.arrive m = A.addRows r (m.next.drop r) acc) ∧ Hid (A.Short acc (300 * r)) ∧ Hid (Ars wr (fun b => w.heap.size + 2 ≤ b) ob acc) ∧ Hid (Blk wr w.heap.size 25 #[.int .i64 m.letters, .int .i64 m.start, .slice A1 j c1, .slice A2 m.fin.length c2]) ∧ Hid (Frm (fun _ => False) w wr))
          case atStart => exact ⟨0, _, Nat.zero_le _, rfl, rfl, by simp, HAR, HS0, HA0, X, F⟩
          case round =>
            clear HAR HS0 HA0 X F
            obtain ⟨r, acc, hr, rfl, rfl, hacc, HAR, HS, HA, X, F⟩ := hrel
            by_cases hlt : r < j
            · have hlt' : (r : Int) < (j : Int) := by omega
              have hltm : r < m.next.length := by rw [← HN.out]; exact hlt
              obtain ⟨g, o, A3, c3, hA, hc, hrow⟩ := HM.out.next_at hltm
              subst hA
              have c0 := F.out.cell id hc
              have HIN := Lib.hid (HFI.out.rows _ (List.getElem_mem hltm)).2
              have hrl : (m.next[r]'hltm).length ≤ 300 := by have := (HFI.out.rows _ (List.getElem_mem hltm)).1; omega
              have HROW := Lib.hid hrow
              have HA1 : Hid (A.arrive m = A.addRows (r + 1) (m.next.drop (r + 1)) (A.addAr r ((0 : Nat) : Int) ((m.next[r]'hltm).drop 0) acc)) := show _ = _ by rw [HAR.out, List.drop_eq_getElem_cons hltm]; rfl
              generalize m.next[r]'hltm = row at *
              clear hc hrow hltm HAR
              go_wp2_with fail
              go_loopg [69] (row.length + 1) (fun n i wr => ∃ (q : Nat) (acc : List (List A.Ar)), q ≤ row.length ∧ n = row.length + 1 - q ∧ i = .int .i64 (q : Int) ∧ acc.length = j ∧ Hid (A.arrive m = A.addRows (r + 1) (m.next.drop (r + 1)) (A.addAr r (q : Int) (row.drop q) acc)) ∧ Hid (A.Short acc (300 * r + q)) ∧ Hid (Ars wr (fun b => w.heap.size + 2 ≤ b) ob acc) ∧ Hid (Blk wr w.heap.size 25 #[.int .i64 m.letters, .int .i64 m.start, .slice (some ⟨g, o, none⟩) j c1, .slice A2 m.fin.length c2]) ∧ Hid (Frm (fun _ => False) w wr))
              case atStart => exact ⟨0, _, Nat.zero_le _, rfl, rfl, hacc, HA1, HS, HA, X, F⟩
              case round =>
                clear HA1 HS HA X F c0
                obtain ⟨q, acc, hq, rfl, rfl, hacc, HA1, HS, HA, X, F⟩ := hrel
                by_cases hltq : q < row.length
                · have hltq' : (q : Int) < (row.length : Int) := by omega
                  obtain ⟨g3, o3, hA3, _, hcj⟩ := HROW.out q hltq
                  subst hA3
                  have cq := F.out.cell id hcj
                  have HX := Lib.hid (HIN.out _ (List.getElem_mem hltq))
                  have HA2 : Hid (A.arrive m = A.addRows (r + 1) (m.next.drop (r + 1)) (A.addAr r ((q + 1 : Nat) : Int) (row.drop (q + 1)) (if row[q]'hltq = -1 then acc else acc.set (row[q]'hltq).toNat (acc.getD (row[q]'hltq).toNat [] ++ [((r : Int), (q : Int))])))) := show _ = _ by rw [HA1.out, List.drop_eq_getElem_cons hltq]; rfl
                  generalize row[q]'hltq = x at *
                  obtain ⟨hx1, hx2⟩ := HX.out
                  clear hcj HA1
                  by_cases hx : x = -1
                  · subst hx
                    have HA3 := HA2.out
                    rw [if_pos rfl] at HA3
                    have HA4 := Lib.hid HA3
                    clear HA3
                    go_wp2_with fail
                    go_roundg (row.length + 1 - (q + 1))
                    case measure => omega
                    case rel => exact ⟨q + 1, acc, by omega, rfl, by go_num, hacc, HA4, HS.out.mono (by omega), HA, X, F⟩
                  · have hb : (x != -1) = true := by rw [bne_iff_ne]; exact hx
                    have HA3 := HA2.out
                    rw [if_neg hx] at HA3
                    obtain ⟨t, rfl⟩ : ∃ t : Nat, x = (t : Int) := ⟨x.toNat, by omega⟩
                    rw [Int.toNat_natCast] at HA3
                    have HA4 := Lib.hid HA3
                    clear HA3 HA2
                    have htN : t < acc.length := by rw [hacc, HN.out]; omega
                    have htN' : (t : Int) < (j : Int) := by omega
                    obtain ⟨vf, hG⟩ := HA.out
                    have HG := Lib.hid hG
                    obtain ⟨A4, c4, e4, o4, f4, _, _⟩ := hG.slot htN
                    have HE4 := Lib.hid e4
                    have HOW := hG.own t htN
                    rw [e4] at HOW
                    have HOW' := Lib.hid HOW
                    have hs := HS.out t
                    have HLN : Hid (lnOf acc t ≤ 300 * r + q) := hs
                    generalize hln : lnOf acc t = ln at *
                    obtain ⟨i0, hi0, hz0, hz1, hz2⟩ := info_parts info_ar
                    clear hx hG HOW hs e4
                    go_wp2_with (at_builtin; refine wpList_append_own_at _ rfl _ _ 108 rfl 0 110 i0 (.agg #[.int .i64 0, .int .i64 0]) 2 16 Try.underlying108 hi0 hz0 hz1 hz2 rfl (by decide) _ _ _ rfl (HOW'.out.alloc _) ⟨wr.heap.size, 0, none⟩ 1 1 [.int .i64 (r : Int), .int .i64 (q : Int)] rfl rfl ?y1 ?y2 ?y3 ?y4 ?y5 ?_)
                    case y1 => exact cell_two_at rfl
                    case y2 => simp [Value.oneCell']
                    case y3 => have := HLN.out; have := HB300.out; unfold maxLen; omega
                    case y4 => have := HLN.out; have := HB300.out; omega
                    case y5 => exact Nat.zero_le _
                    intro v' w1 hown1 hgrow _ hat
                    obtain ⟨A9, c9, rfl⟩ := own_form hown1
                    have hall : wr.grownBy w1 (vf t).ownBlock := by rw [HE4.out]; exact (World.grownBy_alloc wr _ _).trans hgrow
                    have hloc : (Value.slice A9 (ln + 1) c9).ownBlock = (vf t).ownBlock ∨ ∀ g, (Value.slice A9 (ln + 1) c9).ownBlock = some g → wr.heap.size ≤ g := by
                      rw [HE4.out]
                      exact hat.imp id fun h g hg => by rw [h] at hg; simp at hg; omega
                    have hadd := HG.out.add htN ((r : Int), (q : Int)) hall (by rw [hln]; exact hown1) hloc
                    have HFS : Hid (Frm (fun _ => False) w (w1.setCell ⟨ob, t, none⟩ (.slice A9 (ln + 1) c9))) := Frm.mono (E := fun b => w.heap.size + 2 ≤ b) ((F.out.mono fun _ _ h => h.elim).trans (HG.out.put_frm htN hall)) fun b hb h => by omega
                    have HX1 : Hid (Blk (w1.setCell ⟨ob, t, none⟩ (.slice A9 (ln + 1) c9)) w.heap.size 25 #[.int .i64 m.letters, .int .i64 m.start, .slice (some ⟨g, o, none⟩) j c1, .slice A2 m.fin.length c2]) := (HG.out.put_frm htN hall).blk X.out (by omega)
                    have HA5 : Hid (Ars (w1.setCell ⟨ob, t, none⟩ (.slice A9 (ln + 1) c9)) (fun b => w.heap.size + 2 ≤ b) ob (acc.set t (acc.getD t [] ++ [((r : Int), (q : Int))]))) := hadd.mono fun b _ hb => by have := HG.out.out.lt; have := HG.out.so; have := X.out.lt; rcases hb with hb | hb <;> omega
                    have o5 : w1.frozen? ⟨ob, t, none⟩ = false := (HG.out.out.grown hall fun e => (HG.out.lie t htN ob e.symm).2 rfl).frozen t
                    have c5 := (HG.out.out.grown hall fun e => (HG.out.lie t htN ob e.symm).2 rfl).cell t
                    rw [cellsOf_get _ htN, HE4.out] at c5
                    clear hadd hall hloc hat hgrow hown1 hi0 hz0 hz1 hz2 o4 f4
                    go_wp2_with fail
                    go_roundg (row.length + 1 - (q + 1))
                    case measure => omega
                    case rel => exact ⟨q + 1, _, by omega, rfl, by go_num, by rw [List.length_set]; exact hacc, HA4, (HS.out.add t _).mono (by omega), HA5, HX1, HFS⟩
                · have hltq' : ¬ (q : Int) < (row.length : Int) := by omega
                  obtain rfl : q = row.length := by omega
                  have HA2 := HA1.out
                  rw [List.drop_length] at HA2
                  have HA3 := Lib.hid HA2
                  clear HA2
                  go_wp2_with fail
                  go_roundg (j + 1 - (r + 1))
                  case measure => omega
                  case rel => exact ⟨r + 1, acc, by omega, rfl, by go_num, hacc, HA3, HS.out.mono (by omega), HA, X, F⟩
            · have hlt' : ¬ (r : Int) < (j : Int) := by omega
              obtain rfl : r = j := by omega
              have HA2 := HAR.out
              rw [List.drop_of_length_le (by rw [HN.out]; exact Nat.le_refl _)] at HA2
              have HA3 : Hid (A.arrive m = acc) := HA2
              clear HA2
              go_wp2_with fail
              go_ret
              refine ⟨ob, rfl, ?_, F.out⟩
              rw [HA3.out]
              exact Rws.mono HA.out fun b _ h => by omega
end Go.Proofs.Ytldmjpnldgekaaa
end
section
namespace Go.Proofs.Ytldmjpnldgekaaa
open Go.RowKit
def boolCs (l : List Bool) : Array Value := (l.map fun x => Value.bool x).toArray
theorem boolCs_made (n : Nat) : madeCells #[.bool false] n = boolCs (List.replicate n false) := by
  apply Array.toList_inj.1
  rw [toList_madeCells_one]
  simp [boolCs]
theorem boolCs_getD {l : List Bool} {i : Nat} (hi : i < l.length) : (boolCs l)[i]? = some (.bool (l.getD i false)) := by simp [boolCs, hi]
theorem boolCs_set (l : List Bool) (i : Nat) (x : Bool) : (boolCs l).setIfInBounds i (.bool x) = boolCs (l.set i x) := by
  apply Array.toList_inj.1
  simp [boolCs]
theorem info_boolE : (Try.prog.info? 4).map (fun i => (i.zero, i.size, i.bytes)) = some (some (.bool false), 1, 1) := by kernel_rfl
/-- A row of ints of one's own. -/
def OwnInts (w : World) (base : Nat) (v : Value) (l : List Int) : Prop := w.ownsRow base 3 1 v l.length (l.map fun x => Value.int .i64 x)
theorem OwnInts.at_ {w : World} {base c : Nat} {A0 : Option Addr} {l : List Int} (h : OwnInts w base (.slice A0 l.length c) l) {k : Nat} (hk : k < l.length) : ∃ g, A0 = some ⟨g, 0, none⟩ ∧ base ≤ g ∧ w.cell? ⟨g, k, none⟩ = some (.int .i64 (l.getD k 0)) := by
  rcases h.2 with ⟨_, hn⟩ | ⟨g, cap, cur, e, hb, _⟩
  · omega
  · injection e with e1 e2 e3
    subst e1
    have hc := @World.ownsRow.cells _ _ _ _ _ _ _ h g rfl k (.int .i64 (l.getD k 0)) (by simp [hk])
    rw [add_zero_off] at hc
    exact ⟨g, rfl, hb, hc⟩
theorem OwnInts.frm {E : Nat → Prop} {w w' : World} {base : Nat} {v : Value} {l : List Int} (h : OwnInts w base v l) (F : Frm E w w') (hE : ∀ g, base ≤ g → ¬ E g) : OwnInts w' base v l := F.row h (fun g hg => hE g (own_ge h g hg)) (Nat.le_refl _)
theorem arC_get {acc : List (List A.Ar)} {q j : Nat} (hj : j < (acc.getD q []).length) : (cfOf arC acc q)[j * 2]? = some (.int .i64 ((acc.getD q [])[j]'hj).1) ∧ (cfOf arC acc q)[j * 2 + 1]? = some (.int .i64 ((acc.getD q [])[j]'hj).2) := by
  have key : ∀ (l : List A.Ar) (j : Nat) (hj : j < l.length), (l.flatMap arC)[j * 2]? = some (.int .i64 l[j].1) ∧ (l.flatMap arC)[j * 2 + 1]? = some (.int .i64 l[j].2) := by
    intro l
    induction l with
    | nil => intro j hj; simp at hj
    | cons a l ih =>
      intro j hj
      rw [List.flatMap_cons]
      cases j with
      | zero => exact ⟨rfl, rfl⟩
      | succ j =>
        have := ih j (by simpa using hj)
        have e : (j + 1) * 2 = (arC a).length + j * 2 := by simp [arC]; omega
        rw [List.getElem?_append_right (by rw [e]; omega), List.getElem?_append_right (by rw [e]; omega), e, Nat.add_sub_cancel_left, show (arC a).length + j * 2 + 1 - (arC a).length = j * 2 + 1 by omega]
        exact this
  exact key _ j hj
theorem cell_one_at {w : World} {u : Value} {e : TypeId} {n : Nat} (hn : w.heap.size = n) : ∀ (j : Nat) (z : Value), [u][j]? = some z → (w.alloc (.cells #[u] e)).cell? ((⟨n, 0, none⟩ : Addr).add j) = some z := by
  subst hn
  intro j z hz
  rw [add_zero_off, (Blk.new w e #[u]).cell j]
  simpa using hz
theorem Frm.one {w : World} (g i : Nat) (u : Value) : Frm (fun b => b = g) w (w.setCell ⟨g, i, none⟩ u) := Frm.set_ (E := fun b => b = g) (p := ⟨g, i, none⟩) (Frm.refl _ w) (fun _ => rfl) u
theorem OwnInts.grown {w1 : World} {base n : Nat} {v' : Value} {l : List Int} {x : Int} (hn : n = l.length) (h : w1.ownsRow base 3 1 v' (n + 1) (l.map (fun x => Value.int .i64 x) ++ [.int .i64 x])) : OwnInts w1 base v' (l ++ [x]) := by
  subst hn
  unfold OwnInts
  rw [List.length_append, List.map_append]
  exact h
namespace A
def boolTo (l : List Bool) (k : Nat) : List Bool := l.take k ++ List.replicate (l.length - k) false
theorem boolTo_len (l : List Bool) {k : Nat} (hk : k ≤ l.length) : (boolTo l k).length = l.length := by simp [boolTo]; omega
theorem boolTo_set (l : List Bool) {k : Nat} (hk : k < l.length) : (boolTo l k).set k l[k] = boolTo l (k + 1) := by
  unfold boolTo
  rw [List.set_append_right _ _ (by simp; omega), List.take_succ_eq_append_getElem hk]
  have e : k - (l.take k).length = 0 := by simp; omega
  rw [e, show l.length - k = (l.length - (k + 1)) + 1 by omega, List.replicate_succ, List.set_cons_zero, List.append_assoc]
  rfl
theorem boolTo_skip (l : List Bool) {k : Nat} (hk : k < l.length) (h : l[k] = false) : boolTo l k = boolTo l (k + 1) := by
  unfold boolTo
  rw [List.take_succ_eq_append_getElem hk, h, show l.length - k = (l.length - (k + 1)) + 1 by omega, List.replicate_succ, List.append_assoc]
  rfl
theorem boolTo_end (l : List Bool) : boolTo l l.length = l := by simp [boolTo]
def trues (l : List Bool) : Nat → List Int
  | 0 => []
  | k + 1 => if l.getD k false then trues l k ++ [(k : Int)] else trues l k
theorem trues_len (l : List Bool) : ∀ k, (trues l k).length ≤ k
  | 0 => Nat.le_refl _
  | k + 1 => by
    have := trues_len l k
    unfold trues
    split
    · simp; omega
    · omega
theorem trues_in (l : List Bool) : ∀ k, ∀ x ∈ trues l k, 0 ≤ x ∧ x < k
  | 0, x, h => by simp [trues] at h
  | k + 1, x, h => by
    unfold trues at h
    split at h
    · rw [List.mem_append, List.mem_singleton] at h
      rcases h with h | h
      · have := trues_in l k x h; omega
      · omega
    · have := trues_in l k x h; omega
def reach1 (s : List Bool × List Int) (a : Ar) : List Bool × List Int := if s.1.getD a.1.toNat false then s else (s.1.set a.1.toNat true, s.2 ++ [a.1])
def livO (into : List (List Ar)) : Nat → Nat → List Bool → List Int → Option (List Bool)
  | f, at_, al, kn => if h : at_ < kn.length then (match f with
    | 0 => none
    | n + 1 => livO into n (at_ + 1) ((into.getD kn[at_].toNat []).foldl reach1 (al, kn)).1 ((into.getD kn[at_].toNat []).foldl reach1 (al, kn)).2) else some al
/-- All ways come from states. -/
def FromIn (acc : List (List Ar)) (n : Nat) : Prop := ∀ q, ∀ a ∈ acc.getD q [], 0 ≤ a.1 ∧ a.1 < n
end A
set_option maxRecDepth 100000 in
set_option maxHeartbeats 4000000 in
theorem living_any {w : World} {P S : Nat → Prop} {v : Value} {m : A.Mac} {ob f : Nat} {acc : List (List A.Ar)} {al : List Bool} (h : MachAt w P v m) (hf : A.Fits m) (hn : m.next.length ≤ 100000) (hin : Ars w S ob acc) (hacc : acc.length = m.next.length) (hs : A.Short acc 30000000) (hfr : A.FromIn acc m.next.length) (hl : A.livO acc f 0 m.fin (A.trues m.fin m.next.length) = some al) (hfl : f ≤ 100000) :
    Calls Try.prog 52 #[v, .slice (some ⟨ob, 0, none⟩) m.next.length m.next.length] w fun e w' => ∃ ga, e = .returned (.slice (some ⟨ga, 0, none⟩) m.next.length m.next.length) ∧ w.heap.size ≤ ga ∧ Blk w' ga 4 (boolCs al) ∧ al.length = m.next.length ∧ Frm (fun _ => False) w w' := by
  obtain ⟨A1, c1, A2, c2, rfl⟩ := h.form
  obtain ⟨N, hN⟩ : ∃ N, N = m.next.length := ⟨_, rfl⟩
  have hNf : N = m.fin.length := by rw [hN]; exact hf.fin
  have HB0 : Hid (Blk (w.alloc (.cells #[.int .i64 m.letters, .int .i64 m.start, .slice A1 m.next.length c1, .slice A2 m.fin.length c2] 25)) w.heap.size 25 #[.int .i64 m.letters, .int .i64 m.start, .slice A1 m.next.length c1, .slice A2 m.fin.length c2]) := Blk.new w _ _
  have HF0 : Hid (Frm (fun _ => False) w (w.alloc (.cells #[.int .i64 m.letters, .int .i64 m.start, .slice A1 m.next.length c1, .slice A2 m.fin.length c2] 25))) := (Frm.refl _ w).alloc _
  have HM := Lib.hid h
  have HFI := Lib.hid hf
  have HIN := Lib.hid hin
  have HFR := Lib.hid hfr
  have HS := Lib.hid hs
  have HL := Lib.hid hl
  rw [← hNf, ← hN] at HB0 HF0
  rw [← hN] at hn hacc HL HFR ⊢
  have HN := Lib.hid hN
  have HNF := Lib.hid hNf
  clear h hf hN hNf hin hs hfr hl
  have hmk := run_make_row' (P := Try.prog) 23 4 (.bool false) 1 Try.underlying23 info_boolE rfl .i64 .i64 N (by omega) (by omega)
  have x2 := HB0.out.cell 2
  rw [← HNF.out]
  go_enter Try.func52, Try.ntmps52
  go_wp2_with fail
  have HA1 : Hid (Blk ((w.alloc (.cells #[.int .i64 m.letters, .int .i64 m.start, .slice A1 N c1, .slice A2 N c2] 25)).alloc (.cells (madeCells #[.bool false] N) 4)) (w.heap.size + 1) 4 (boolCs (A.boolTo m.fin 0))) := by
    have e : A.boolTo m.fin 0 = List.replicate N false := by unfold A.boolTo; rw [← HNF.out]; simp
    rw [e, ← boolCs_made]
    exact blk_at (by simp)
  have HF1 := Lib.hid (HF0.out.alloc (.cells (madeCells #[.bool false] N) 4))
  have HLW : Hid (w.heap.size + 2 ≤ ((w.alloc (.cells #[.int .i64 m.letters, .int .i64 m.start, .slice A1 N c1, .slice A2 N c2] 25)).alloc (.cells (madeCells #[.bool false] N) 4)).heap.size) := by show _ ≤ _; simp
  generalize (w.alloc (.cells #[.int .i64 m.letters, .int .i64 m.start, .slice A1 N c1, .slice A2 N c2] 25)).alloc (.cells (madeCells #[.bool false] N) 4) = W1 at HA1 HF1 HLW ⊢
  clear hmk x2 HB0 HF0
  obtain ⟨i0, hi0, hz0, hz1, hz2⟩ := info_parts info_int
  go_loopg [6, 19] (N + 1) (fun n u i wr => ∃ k : Nat, k ≤ N ∧ n = N + 1 - k ∧ i = .int .i64 (k : Int) ∧ Hid (OwnInts wr (w.heap.size + 2) u (A.trues m.fin k)) ∧ Hid (Blk wr (w.heap.size + 1) 4 (boolCs (A.boolTo m.fin k))) ∧ Hid (Frm (fun _ => False) w wr) ∧ Hid (w.heap.size + 2 ≤ wr.heap.size))
  case atStart => exact ⟨0, Nat.zero_le _, rfl, rfl, World.ownsRow_nil _ _ _ _, HA1, HF1, HLW⟩
  case round =>
    clear HA1 HF1 HLW
    obtain ⟨k, hk, rfl, rfl, HO, HA, HF, HLW⟩ := hrel
    by_cases hlt : k < N
    · have hlt' : (k : Int) < (N : Int) := by omega
      have hltf : k < m.fin.length := by rw [← HNF.out]; exact hlt
      obtain ⟨g, o, hA, hc⟩ := HM.out.fin_at hltf
      subst hA
      have c0 := HF.out.cell id hc
      have hget : m.fin.getD k false = m.fin[k]'hltf := by simp [hltf]
      have HT : Hid (A.trues m.fin (k + 1) = if m.fin[k]'hltf then A.trues m.fin k ++ [(k : Int)] else A.trues m.fin k) := show _ = _ by rw [← hget]; rfl
      have HK : Hid ((A.boolTo m.fin k).set k (m.fin[k]'hltf) = A.boolTo m.fin (k + 1)) := A.boolTo_set m.fin hltf
      have HK0 : Hid (m.fin[k]'hltf = false → A.boolTo m.fin k = A.boolTo m.fin (k + 1)) := A.boolTo_skip m.fin hltf
      have y0 := (HA.out.cell k).trans (boolCs_getD (by rw [A.boolTo_len m.fin (Nat.le_of_lt hltf)]; exact hltf))
      have yf := HA.out.frozen k
      have HTL := Lib.hid (A.trues_len m.fin k)
      generalize (A.boolTo m.fin k).getD k false = y at y0
      generalize m.fin[k]'hltf = b at *
      obtain ⟨A6, c6, rfl⟩ := own_form HO.out
      clear hc hget
      cases b with
      | false =>
        have HO2 : Hid (OwnInts wr (w.heap.size + 2) (.slice A6 (A.trues m.fin k).length c6) (A.trues m.fin (k + 1))) := by
          have e := HT.out; simp only [Bool.false_eq_true, if_false] at e; rw [e]; exact HO.out
        have HA2 : Hid (Blk wr (w.heap.size + 1) 4 (boolCs (A.boolTo m.fin (k + 1)))) := by rw [← HK0.out rfl]; exact HA.out
        go_wp2_with fail
        go_roundg (N + 1 - (k + 1))
        case measure => omega
        case rel => exact ⟨k + 1, by omega, rfl, by go_num, HO2, HA2, HF, HLW⟩
      | true =>
        have HA2 : Hid (Blk (wr.setCell ⟨w.heap.size + 1, k, none⟩ (.bool true)) (w.heap.size + 1) 4 (boolCs (A.boolTo m.fin (k + 1)))) := by rw [← HK.out, ← boolCs_set]; exact HA.out.set_ k _
        have HFS : Hid (Frm (fun _ => False) w (wr.setCell ⟨w.heap.size + 1, k, none⟩ (.bool true))) := HF.out.set_ (fun h => by dsimp only at h; omega) _
        have HO2 : Hid (OwnInts (wr.setCell ⟨w.heap.size + 1, k, none⟩ (.bool true)) (w.heap.size + 2) (.slice A6 (A.trues m.fin k).length c6) (A.trues m.fin k)) := HO.out.frm (E := fun b => b = w.heap.size + 1) (Frm.one _ _ _) fun g hg => by omega
        have HLW2 : Hid (w.heap.size + 2 ≤ (wr.setCell ⟨w.heap.size + 1, k, none⟩ (.bool true)).heap.size) := by show _ ≤ _; simpa using HLW.out
        go_wp2_with (at_builtin; refine wpList_append_own _ rfl _ _ 37 rfl (w.heap.size + 2) 3 i0 (.int .i64 0) 1 8 Try.underlying37 hi0 hz0 hz1 hz2 rfl (by decide) _ _ _ rfl (HO2.out.alloc _) ⟨wr.heap.size, 0, none⟩ 1 1 [.int .i64 (k : Int)] rfl rfl ?y1 ?y2 ?y3 ?y4 ?y5 ?_)
        case y2 => simp [Value.oneCell']
        case y3 => have := HTL.out; unfold maxLen; omega
        case y4 => have := HTL.out; omega
        case y5 => have := HLW2.out; simp at this ⊢; omega
        intro v' w1 hown1 hgrow _
        obtain ⟨A9, c9, rfl⟩ := own_form hown1
        have HF1 : Hid (Frm (fun _ => False) w w1) := (HFS.out.alloc _).grown hgrow fun g hg _ => by have := own_ge HO2.out g hg.symm.symm; omega
        have HO3 : Hid (OwnInts w1 (w.heap.size + 2) (.slice A9 ((A.trues m.fin k).length + 1) c9) (A.trues m.fin (k + 1))) := by
          have e := HT.out
          simp only [if_true] at e
          rw [e]
          exact OwnInts.grown rfl hown1
        have HA3 : Hid (Blk w1 (w.heap.size + 1) 4 (boolCs (A.boolTo m.fin (k + 1)))) := (HA2.out.alloc _).grown hgrow fun e => by have := own_ge HO2.out _ e.symm; omega
        have HLW3 : Hid (w.heap.size + 2 ≤ w1.heap.size) := Nat.le_trans (by have h := HLW2.out; simp at h ⊢; omega) hgrow.size
        clear hown1 hgrow HO2 HFS HA2 HLW2 yf y0 c0
        go_wp2_with fail
        go_roundg (N + 1 - (k + 1))
        case measure => omega
        case rel => exact ⟨k + 1, by omega, rfl, by go_num, HO3, HA3, HF1, HLW3⟩
    · have hlt' : ¬ (k : Int) < (N : Int) := by omega
      obtain rfl : k = N := by omega
      have HA1 : Hid (Blk wr (w.heap.size + 1) 4 (boolCs m.fin)) := by
        have h := HA.out
        rw [HNF.out, A.boolTo_end] at h
        exact h
      have HKB : Hid (∀ x ∈ A.trues m.fin k, 0 ≤ x ∧ x < k) := A.trues_in m.fin k
      have htl := A.trues_len m.fin k
      generalize A.trues m.fin k = kn0 at *
      clear HA hk hlt hlt'
      go_wp2_with fail
      go_loopg [6, 9] f (fun n u i wr => ∃ (at_ : Nat) (av : List Bool) (kn : List Int), i = .int .i64 (at_ : Int) ∧ kn.length + 30000000 * n ≤ k + 30000000 * f ∧ av.length = k ∧ Hid (A.livO acc n at_ av kn = some al) ∧ Hid (∀ x ∈ kn, 0 ≤ x ∧ x < k) ∧ Hid (OwnInts wr (w.heap.size + 2) u kn) ∧ Hid (Blk wr (w.heap.size + 1) 4 (boolCs av)) ∧ Hid (Frm (fun _ => False) w wr) ∧ Hid (w.heap.size + 2 ≤ wr.heap.size))
      case atStart => exact ⟨0, m.fin, kn0, rfl, by omega, HNF.out.symm, HL, HKB, HO, HA1, HF, HLW⟩
      case round =>
        clear HL HKB HO HA1 HF HLW htl
        obtain ⟨at_, av, kn, rfl, hkn, hav, HL, HKB, HO, HA, HF, HLW⟩ := hrel
        obtain ⟨A6, c6, rfl⟩ := own_form HO.out
        have hl := HL.out
        unfold A.livO at hl
        by_cases hlt : at_ < kn.length
        · have hlt' : (at_ : Int) < (kn.length : Int) := by omega
          rw [dif_pos hlt] at hl
          cases gk with
          | zero => cases hl
          | succ n =>
          dsimp only at hl
          obtain ⟨g6, rfl, hg6, d0⟩ := OwnInts.at_ (l := kn) HO.out hlt
          have hkb := HKB.out _ (List.getElem_mem hlt)
          have hge : kn.getD at_ 0 = kn[at_]'hlt := by simp [hlt]
          rw [← hge] at hkb hl
          generalize kn.getD at_ 0 = x at *
          obtain ⟨q, rfl⟩ : ∃ q : Nat, x = (q : Int) := ⟨x.toNat, by omega⟩
          rw [Int.toNat_natCast] at hl
          have hq : q < acc.length := by omega
          have hq' : (q : Int) < (k : Int) := hkb.2
          obtain ⟨vf, hG⟩ := HIN.out
          obtain ⟨A7, c7, e7, o7, f7, n7, _⟩ := hG.slot hq
          have o7' := HF.out.cell id o7
          have HQ : Hid (∀ a ∈ acc.getD q [], 0 ≤ a.1 ∧ a.1 < k) := HFR.out q
          have HGC : Hid (∀ j (hj : j < (acc.getD q []).length), ∃ g, A7 = some ⟨g, 0, none⟩ ∧ w.cell? ⟨g, j * 2, none⟩ = some (.int .i64 ((acc.getD q [])[j]'hj).1) ∧ w.cell? ⟨g, j * 2 + 1, none⟩ = some (.int .i64 ((acc.getD q [])[j]'hj).2)) := fun j hj => by
            obtain ⟨g, rfl⟩ := n7 (Nat.lt_of_le_of_lt (Nat.zero_le _) hj)
            obtain ⟨h1, h2⟩ := arC_get hj
            exact ⟨g, rfl, (hG.cell hq e7 h1).1, (hG.cell hq e7 h2).1⟩
          have hln : lnOf acc q = (acc.getD q []).length := rfl
          have HSQ : Hid ((acc.getD q []).length ≤ 30000000) := HS.out q
          rw [hln] at o7'
          have hl0 : A.livO acc n (at_ + 1) (((acc.getD q []).drop 0).foldl A.reach1 (av, kn)).1 (((acc.getD q []).drop 0).foldl A.reach1 (av, kn)).2 = some al := hl
          generalize acc.getD q [] = ws at *
          have HL0 := Lib.hid hl0
          have hwl := HSQ.out
          clear hl hl0 hG o7 f7 e7 n7 hln hge HL
          go_wp2_with fail
          go_loopg [6, 47] (ws.length + 1) (fun nn u i wr => ∃ (j : Nat) (av : List Bool) (kn' : List Int), j ≤ ws.length ∧ nn = ws.length + 1 - j ∧ i = .int .i64 (j : Int) ∧ kn'.length ≤ kn.length + j ∧ av.length = k ∧ Hid (A.livO acc n (at_ + 1) ((ws.drop j).foldl A.reach1 (av, kn')).1 ((ws.drop j).foldl A.reach1 (av, kn')).2 = some al) ∧ Hid (∀ x ∈ kn', 0 ≤ x ∧ x < k) ∧ Hid (OwnInts wr (w.heap.size + 2) u kn') ∧ Hid (Blk wr (w.heap.size + 1) 4 (boolCs av)) ∧ Hid (Frm (fun _ => False) w wr) ∧ Hid (w.heap.size + 2 ≤ wr.heap.size))
          case atStart => exact ⟨0, av, kn, Nat.zero_le _, rfl, rfl, Nat.le_refl _, hav, HL0, HKB, HO, HA, HF, HLW⟩
          case round =>
            clear HL0 HKB HO HA HF HLW hav
            obtain ⟨j, av, kn', hj, rfl, rfl, hkl, hav, HL, HKB, HO, HA, HF, HLW⟩ := hrel
            obtain ⟨A6', c6', rfl⟩ := own_form HO.out
            by_cases hltj : j < ws.length
            · have hltj' : (j : Int) < (ws.length : Int) := by omega
              obtain ⟨g, rfl, e0, e1⟩ := HGC.out j hltj
              have e0' := HF.out.cell id e0
              have e1' := HF.out.cell id e1
              have hqa := HQ.out _ (List.getElem_mem hltj)
              have hl := HL.out
              rw [List.drop_eq_getElem_cons hltj, List.foldl_cons] at hl
              generalize ws[j]'hltj = a at *
              obtain ⟨a1, a2⟩ := a
              dsimp only at hqa e0' e1' hl e0 e1
              obtain ⟨t, rfl⟩ : ∃ t : Nat, a1 = (t : Int) := ⟨a1.toNat, by omega⟩
              have htk : t < av.length := by omega
              have htk' : (t : Int) < (k : Int) := hqa.2
              have hr : A.reach1 (av, kn') ((t : Int), a2) = if av.getD t false then (av, kn') else (av.set t true, kn' ++ [(t : Int)]) := rfl
              rw [hr] at hl
              have y0 := (HA.out.cell t).trans (boolCs_getD htk)
              have yf := HA.out.frozen t
              have y0' := fun o => ((Frm.refl (fun _ => False) wr).alloc o).cell id y0
              have yf' := fun o => (HA.out.alloc o).frozen t
              generalize av.getD t false = b at *
              have HL2 := Lib.hid hl
              clear hl hr e0 e1 HL
              have hkn' : kn'.length ≤ 100000 + 30000000 * 100000 + 30000000 := by have := HSQ.out; omega
              cases b with
              | true =>
                have HL3 : Hid (A.livO acc n (at_ + 1) ((ws.drop (j + 1)).foldl A.reach1 (av, kn')).1 ((ws.drop (j + 1)).foldl A.reach1 (av, kn')).2 = some al) := by
                  have h := HL2.out
                  simp only [if_true] at h
                  exact h
                have HFA := Lib.hid (HF.out.alloc (.cells #[.int .i64 (t : Int), .int .i64 a2] 110))
                have HAA := Lib.hid (HA.out.alloc (.cells #[.int .i64 (t : Int), .int .i64 a2] 110))
                have HOA := Lib.hid (HO.out.alloc (.cells #[.int .i64 (t : Int), .int .i64 a2] 110))
                have HLA : Hid (w.heap.size + 2 ≤ (wr.alloc (.cells #[.int .i64 (t : Int), .int .i64 a2] 110)).heap.size) := Nat.le_trans HLW.out (by simp)
                go_wp2_with fail
                go_roundg (ws.length + 1 - (j + 1))
                case measure => omega
                case rel => exact ⟨j + 1, av, kn', by omega, rfl, by go_num, by omega, hav, HL3, HKB, HOA, HAA, HFA, HLA⟩
              | false =>
                have HL3 : Hid (A.livO acc n (at_ + 1) ((ws.drop (j + 1)).foldl A.reach1 (av.set t true, kn' ++ [(t : Int)])).1 ((ws.drop (j + 1)).foldl A.reach1 (av.set t true, kn' ++ [(t : Int)])).2 = some al) := by
                  have h := HL2.out
                  simp only [Bool.false_eq_true, if_false] at h
                  exact h
                have HKB2 : Hid (∀ x ∈ kn' ++ [(t : Int)], 0 ≤ x ∧ x < k) := fun x hx => by
                  rw [List.mem_append, List.mem_singleton] at hx
                  rcases hx with hx | hx
                  · exact HKB.out x hx
                  · omega
                have FW : Frm (fun b => b = w.heap.size + 1) wr ((wr.alloc (.cells #[.int .i64 (t : Int), .int .i64 a2] 110)).setCell ⟨w.heap.size + 1, t, none⟩ (.bool true)) := Frm.set_ (E := fun b => b = w.heap.size + 1) (p := ⟨w.heap.size + 1, t, none⟩) ((Frm.refl _ wr).alloc _) (fun _ => rfl) _
                have HA2 : Hid (Blk ((wr.alloc (.cells #[.int .i64 (t : Int), .int .i64 a2] 110)).setCell ⟨w.heap.size + 1, t, none⟩ (.bool true)) (w.heap.size + 1) 4 (boolCs (av.set t true))) := by rw [← boolCs_set]; exact (HA.out.alloc _).set_ t _
                have HFS : Hid (Frm (fun _ => False) w ((wr.alloc (.cells #[.int .i64 (t : Int), .int .i64 a2] 110)).setCell ⟨w.heap.size + 1, t, none⟩ (.bool true))) := Frm.mono (E := fun b => b = w.heap.size + 1) ((HF.out.mono fun _ _ h => h.elim).trans FW) fun b hb h => by omega
                have HO2 : Hid (OwnInts ((wr.alloc (.cells #[.int .i64 (t : Int), .int .i64 a2] 110)).setCell ⟨w.heap.size + 1, t, none⟩ (.bool true)) (w.heap.size + 2) (.slice A6' kn'.length c6') kn') := HO.out.frm FW fun g hg => by omega
                have HLW2 : Hid (w.heap.size + 2 ≤ ((wr.alloc (.cells #[.int .i64 (t : Int), .int .i64 a2] 110)).setCell ⟨w.heap.size + 1, t, none⟩ (.bool true)).heap.size) := Nat.le_trans HLW.out FW.1
                have q0 := ((Blk.new wr 110 #[.int .i64 (t : Int), .int .i64 a2]).far (p := ⟨w.heap.size + 1, t, none⟩) (by have := HLW.out; dsimp only; omega) (.bool true)).cell 0
                have HKN := Lib.hid hkn'
                have HKL := Lib.hid hkl
                have HFLX := Lib.hid hfl
                have HNX := Lib.hid hn
                clear FW hkn' hkl hkn hfl hn
                go_wp2_with (at_builtin; refine wpList_append_own _ rfl _ _ 37 rfl (w.heap.size + 2) 3 i0 (.int .i64 0) 1 8 Try.underlying37 hi0 hz0 hz1 hz2 rfl (by decide) _ _ _ rfl (HO2.out.alloc _) ⟨wr.heap.size + 1, 0, none⟩ 1 1 [.int .i64 (t : Int)] rfl rfl ?z1 ?z2 ?z3 ?z4 ?z5 ?_)
                case z1 => exact cell_one_at (by simp)
                case z2 => simp [Value.oneCell']
                case z3 => have := HKN.out; unfold maxLen; omega
                case z4 => have := HKN.out; omega
                case z5 => have := HLW2.out; simp at this ⊢; omega
                intro v' w1 hown1 hgrow _
                obtain ⟨A9, c9, rfl⟩ := own_form hown1
                have HF1 : Hid (Frm (fun _ => False) w w1) := (HFS.out.alloc _).grown hgrow fun g hg _ => by have := own_ge HO2.out g hg.symm.symm; omega
                have HO3 : Hid (OwnInts w1 (w.heap.size + 2) (.slice A9 (kn'.length + 1) c9) (kn' ++ [(t : Int)])) := OwnInts.grown rfl hown1
                have HA3 : Hid (Blk w1 (w.heap.size + 1) 4 (boolCs (av.set t true))) := (HA2.out.alloc _).grown hgrow fun e => by have := own_ge HO2.out _ e.symm; omega
                have HLW3 : Hid (w.heap.size + 2 ≤ w1.heap.size) := Nat.le_trans (by have h := HLW2.out; simp at h ⊢; omega) hgrow.size
                clear hown1 hgrow HO2 HFS HA2 HLW2 yf y0 y0' yf' q0
                go_wp2_with fail
                go_roundg (ws.length + 1 - (j + 1))
                case measure => omega
                case rel => exact ⟨j + 1, _, _, by omega, rfl, by go_num, by have := HKL.out; simp only [List.length_append, List.length_cons, List.length_nil]; omega, by rw [List.length_set]; exact hav, HL3, HKB2, HO3, HA3, HF1, HLW3⟩
            · have hltj' : ¬ (j : Int) < (ws.length : Int) := by omega
              have hl := HL.out
              rw [List.drop_of_length_le (by omega)] at hl
              have HL2 : Hid (A.livO acc n (at_ + 1) av kn' = some al) := hl
              have HSW := HSQ.out
              clear hl
              go_wp2_with fail
              go_roundg n
              case measure => omega
              case rel => exact ⟨at_ + 1, av, kn', by go_num, by omega, hav, HL2, HKB, HO, HA, HF, HLW⟩
        · have hlt' : ¬ (at_ : Int) < (kn.length : Int) := by omega
          rw [dif_neg hlt] at hl
          obtain rfl : av = al := by simpa using hl
          have HAV := Lib.hid hav
          clear hl hav
          go_wp2_with fail
          go_ret
          exact ⟨_, rfl, by omega, HA.out, HAV.out, HF.out⟩
end Go.Proofs.Ytldmjpnldgekaaa
end
