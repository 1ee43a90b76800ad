/- shows. Check. wordOf: up to the reversal. difference. Differ. longer: how many words, one letter longer. Count. Relate's closure. Rows of own rows: an outer block whose cells are slices, each with a row of its own. Contracts of the program's functions, with no condition beyond what each theorem states. -/
import Derived.Test.YtmoniecknimmdaaC02
import Derived.Test.YtmoniecknimmdaaShelf
import Derived.Maps.AppendAt
section
namespace Go.Proofs.Ytmoniecknimmdaa
open Go.RowKit
/-- What a run of shows keeps: the boxes of its machines, of the width, the table. -/
structure Sh (w0 w : World) (ca cb : Array Value) (a b : A.Mac) (M : Nat) (S : A.Pr → Bool) : Prop where
  fr : Frm (fun _ => False) w0 w
  ba : Blk w w0.heap.size 25 ca
  bb : Blk w (w0.heap.size + 1) 25 cb
  bw : Blk w (w0.heap.size + 2) 3 #[.int .i64 (1 + (b.next.length : Int))]
  tb : Tb w (w0.heap.size + 3) a b M S
theorem Sh.call {w0 w w' : World} {ca cb : Array Value} {a b : A.Mac} {M : Nat} {S : A.Pr → Bool} (h : Sh w0 w ca cb a b M S) (F : Frm (fun _ => False) w w') : Sh w0 w' ca cb a b M S :=
  ⟨h.fr.trans F, F.blk h.ba id, F.blk h.bb id, F.blk h.bw id, h.tb.frm F id⟩
theorem Sh.set_ {w0 w : World} {ca cb : Array Value} {a b : A.Mac} {M : Nat} {S S' : A.Pr → Bool} (h : Sh w0 w ca cb a b M S) {p : A.Pr} (hp : A.InP a b p) (hS : ∀ q, S' q = (decide (q = p) || S q)) (i : Nat) (hi : (A.place b.next.length p).toNat = i) :
    Sh w0 (w.setCell ⟨w0.heap.size + 3, i, none⟩ (.bool true)) ca cb a b M S' := by
  subst hi
  exact ⟨h.fr.set_ (fun hlt => by dsimp only at hlt; omega) _, h.ba.far (by dsimp only; omega) _, h.bb.far (by dsimp only; omega) _, h.bw.far (by dsimp only; omega) _, h.tb.set_ hp hS⟩
namespace A
theorem among_nil (q : Pr) : among [] q = (decide (q = (-1, -1)) || false) := by simp [among]
theorem among_take {l : List Pr} {k : Nat} (hk : k < l.length) (q : Pr) : among (l.take (k + 1)) q = (decide (q = l[k]) || among (l.take k) q) := by
  unfold among
  rw [List.take_succ_eq_append_getElem hk]
  simp only [List.mem_append, List.mem_singleton, Bool.decide_or]
  cases decide (q = (-1, -1)) <;> cases decide (q = l[k]) <;> cases decide (q ∈ List.take k l) <;> rfl
def rowOk (a b : Mac) (l : List Pr) (p : Pr) : Bool := agree a b p && (List.range a.letters.toNat).all fun (k : Nat) => among l (leadP a b p k)
theorem shows_eq (a b : Mac) (l : List Pr) : shows a b l = (among l (a.start, b.start) && l.all (rowOk a b l)) := rfl
theorem range_drop {n j : Nat} (h : j < n) (f : Nat → Bool) : ((List.range n).drop j).all f = (f j && ((List.range n).drop (j + 1)).all f) := by
  rw [List.drop_eq_getElem_cons (by simpa using h), List.all_cons, List.getElem_range]
theorem range_end {n j : Nat} (h : n ≤ j) (f : Nat → Bool) : ((List.range n).drop j).all f = true := by rw [List.drop_of_length_le (by simpa using h)]; rfl
theorem all_drop {l : List Pr} {k : Nat} (h : k < l.length) (f : Pr → Bool) : (l.drop k).all f = (f l[k] && (l.drop (k + 1)).all f) := by rw [List.drop_eq_getElem_cons h, List.all_cons]
end A
set_option maxRecDepth 100000 in
set_option maxHeartbeats 4000000 in
theorem shows_any {w : World} {P Q R : Nat → Prop} {v v' vl : Value} {a b : A.Mac} {l : List A.Pr} (h : MachAt w P v a) (h' : MachAt w Q v' b) (hl : Prs2 w R vl l) (ht : A.Two a b) (hin : ∀ p ∈ l, A.InP a b p) (hll : l.length ≤ maxLen) :
    Calls Try.prog 34 #[v, v', vl] w fun e w' => e = .returned (.bool (A.shows a b l)) ∧ Frm (fun _ => False) w w' := by
  obtain ⟨A1, c1, A2, c2, rfl⟩ := h.form
  obtain ⟨B1, d1, B2, d2, rfl⟩ := h'.form
  obtain ⟨AL, cl, rfl, hL⟩ := hl
  have HL := Lib.hid hL
  have HM := Lib.hid h
  have HM' := Lib.hid h'
  have HT := Lib.hid ht
  have HIN := Lib.hid hin
  have hna := ht.na
  have hnb := ht.nb
  have hla := ht.la
  unfold maxLen at hll
  clear h h' hL ht hin
  obtain ⟨M, hM⟩ : ∃ M : Nat, M = (1 + a.next.length) * (1 + b.next.length) := ⟨_, rfl⟩
  have hMb : M ≤ 16008001 := by rw [hM]; exact Nat.mul_le_mul (show 1 + a.next.length ≤ 4001 by omega) (show 1 + b.next.length ≤ 4001 by omega)
  have hmk := run_make_row' (P := Try.prog) 23 4 (.bool false) 1 Try.underlying23 info_bool rfl .i64 .i64 M (by omega) (by omega)
  have hM1 : (M : Int) = (1 + (a.next.length : Int)) * (1 + (b.next.length : Int)) := by rw [hM, Int.natCast_mul, Int.natCast_add, Int.natCast_add]; rfl
  have hM2 : IntKind.i64.wrap ((1 + (a.next.length : Int)) * (1 + (b.next.length : Int))) = M := by rw [← hM1]; exact IntWalk.i64_in _ (by omega)
  have HMM := Lib.hid hM1
  clear hM hM1
  have HPM : Hid (∀ q, A.InP a b q → ∃ i : Nat, A.place b.next.length q = (i : Int) ∧ (A.place b.next.length q).toNat = i ∧ (i : Int) < M) := fun q hq => by
    obtain ⟨h1, h2⟩ := A.place_in hq
    exact ⟨(A.place b.next.length q).toNat, by omega, rfl, by rw [HMM.out]; omega⟩
  obtain ⟨W, hW⟩ : ∃ W, W = (((w.alloc (.cells (macC a A1 c1 A2 c2) 25)).alloc (.cells (macC b B1 d1 B2 d2) 25)).alloc (.cells #[.int .i64 (1 + (b.next.length : Int))] 3)).alloc (.cells (madeCells #[.bool false] M) 4) := ⟨_, rfl⟩
  have HSH : Hid (Sh w W (macC a A1 c1 A2 c2) (macC b B1 d1 B2 d2) a b M fun _ => false) := show Sh _ _ _ _ _ _ _ _ by
    subst hW
    refine ⟨((((Frm.refl _ w).alloc _).alloc _).alloc _).alloc _, (((Blk.new w _ _).alloc _).alloc _).alloc _, ((blk_at (by simp)).alloc _).alloc _, (blk_at (by simp)).alloc _, ?_⟩
    have := Tb.new (w := (((w.alloc (.cells (macC a A1 c1 A2 c2) 25)).alloc (.cells (macC b B1 d1 B2 d2) 25)).alloc (.cells #[.int .i64 (1 + (b.next.length : Int))] 3))) HMM.out
    simpa using this
  simp only [macC] at hW
  have HWW := Lib.hid hW
  clear hW
  go_enter Try.func34, Try.ntmps34
  go_wp2_with fail
  rw [← HWW.out]
  clear hmk hM2
  refine (nowhere_any _).mono ?_
  rintro _ w1 ⟨rfl, f1⟩
  have HS1 := Lib.hid (HSH.out.call f1)
  clear f1
  have hinN : A.InP a b (-1, -1) := ⟨⟨by simp, by dsimp only; omega⟩, by simp, by dsimp only; omega⟩
  go_wp2_with fail
  refine (place_any HS1.out.bw hinN hna hnb).mono ?_
  rintro _ w2 ⟨rfl, f2⟩
  have HS2 := Lib.hid (HS1.out.call f2)
  clear f2
  obtain ⟨i0, hi0, hj0, hi1⟩ := HPM.out _ hinN
  rw [hi0]
  have t0 := HS2.out.tb.cell hinN
  have t1 := HS2.out.tb.frozen i0
  rw [hj0] at t0
  have HJ0 := Lib.hid hj0
  clear hi0 hj0
  go_wp2_with fail
  have HSA := Lib.hid ((HS2.out.set_ hinN (S' := A.among []) A.among_nil i0 HJ0.out))
  clear t0 t1 hi1 hinN
  go_loopg [34] (l.length + 1) (fun n i wr => ∃ k : Nat, k ≤ l.length ∧ n = l.length + 1 - k ∧ i = .int .i64 (k : Int) ∧ Hid (Sh w wr (macC a A1 c1 A2 c2) (macC b B1 d1 B2 d2) a b M (A.among (l.take k))))
  case atStart => exact ⟨0, Nat.zero_le _, rfl, rfl, HSA⟩
  case round =>
    obtain ⟨k, hk, rfl, rfl, HS⟩ := hrel
    by_cases hlt : k < l.length
    · have hlt' : (k : Int) < (l.length : Int) := by omega
      obtain ⟨g, o, hA, _, hc0, hc1⟩ := HL.out k hlt
      subst hA
      have c0 := HS.out.fr.cell id hc0
      have c1' := HS.out.fr.cell id hc1
      have hpin := HIN.out _ (List.getElem_mem hlt)
      have HTK : Hid (∀ q, A.among (l.take (k + 1)) q = (decide (q = l[k]) || A.among (l.take k) q)) := A.among_take hlt
      generalize l[k] = p at *
      obtain ⟨p1, p2⟩ := p
      dsimp only at c0 c1'
      have pb := Blk.new wr 50 #[.int .i64 p1, .int .i64 p2]
      have q0 := pb.cell 0
      have q1 := pb.cell 1
      have HSP := Lib.hid (HS.out.call ((Frm.refl _ wr).alloc (.cells #[.int .i64 p1, .int .i64 p2] 50)))
      clear hc0 hc1 pb
      go_wp2_with fail
      refine (place_any (p := (p1, p2)) HSP.out.bw hpin hna hnb).mono ?_
      rintro _ w3 ⟨rfl, f3⟩
      have HS3 := Lib.hid (HSP.out.call f3)
      obtain ⟨i3, hi3, hj3, hlt3⟩ := HPM.out _ hpin
      rw [hi3]
      have t0 := HS3.out.tb.cell hpin
      have t1 := HS3.out.tb.frozen i3
      rw [hj3] at t0
      have HJ3 := Lib.hid hj3
      have HPIN := Lib.hid hpin
      clear hi3 hj3 f3 hpin q0 q1 c0 c1'
      go_wp2_with fail
      go_roundg (l.length + 1 - (k + 1))
      case measure => omega
      case rel => exact ⟨k + 1, by omega, rfl, by go_num, HS3.out.set_ HPIN.out HTK.out i3 HJ3.out⟩
    · have hlt' : ¬ (k : Int) < (l.length : Int) := by omega
      obtain rfl : k = l.length := by omega
      rw [List.take_length] at HS
      have e0 := HS.out.ba.cell 0
      have e1 := HS.out.ba.cell 1
      have e2 := HS.out.ba.cell 2
      have e3 := HS.out.ba.cell 3
      have g0 := HS.out.bb.cell 0
      have g1 := HS.out.bb.cell 1
      have g2 := HS.out.bb.cell 2
      have g3 := HS.out.bb.cell 3
      simp only [macC] at e0 e1 e2 e3 g0 g1 g2 g3
      go_wp2_with fail
      clear e0 e1 e2 e3 g0 g1 g2 g3
      refine (starts_any (HM.out.keep0 HS.out.fr) (HM'.out.keep0 HS.out.fr)).mono ?_
      rintro _ w3 ⟨rfl, f3⟩
      have HS3 := Lib.hid (HS.out.call f3)
      clear f3
      have HIS : Hid (A.InP a b (a.start, b.start)) := ⟨HT.out.fa.start, HT.out.fb.start⟩
      go_wp2_with fail
      refine (place_any HS3.out.bw HIS.out hna hnb).mono ?_
      rintro _ w4 ⟨rfl, f4⟩
      have HS4 := Lib.hid (HS3.out.call f4)
      obtain ⟨i4, hi4, hj4, hlt4⟩ := HPM.out _ HIS.out
      rw [hi4]
      have t0 := HS4.out.tb.cell HIS.out
      rw [hj4] at t0
      have HAA : Hid (A.shows a b l = (A.among l (a.start, b.start) && l.all (A.rowOk a b l))) := A.shows_eq a b l
      clear hi4 hj4 f4
      generalize A.among l (a.start, b.start) = st at *
      cases st with
      | false =>
        go_wp2_with fail
        go_ret
        exact ⟨ret_bool (by rw [HAA.out]; rfl), HS4.out.fr⟩
      | true =>
        go_wp2_with fail
        have HS0 : Hid (A.shows a b l = (l.drop 0).all (A.rowOk a b l)) := HAA.out
        have hl0 := HT.out.fa.letters
        clear t0 HAA hlt4
        go_loopg [55] (l.length + 1) (fun n i wr => ∃ k : Nat, k ≤ l.length ∧ n = l.length + 1 - k ∧ i = .int .i64 (k : Int) ∧ Hid (A.shows a b l = (l.drop k).all (A.rowOk a b l)) ∧ Hid (Sh w wr (macC a A1 c1 A2 c2) (macC b B1 d1 B2 d2) a b M (A.among l)))
        case atStart => exact ⟨0, Nat.zero_le _, rfl, rfl, HS0, HS4⟩
        case round =>
          obtain ⟨k, hk, rfl, rfl, HK, HS⟩ := hrel
          by_cases hlt : k < l.length
          · have hlt' : (k : Int) < (l.length : Int) := by omega
            obtain ⟨g, o, hA, _, hc0, hc1⟩ := HL.out k hlt
            subst hA
            have c0 := HS.out.fr.cell id hc0
            have c1' := HS.out.fr.cell id hc1
            have HPIN : Hid (A.InP a b l[k]) := HIN.out _ (List.getElem_mem hlt)
            have HK1 : Hid ((l.drop k).all (A.rowOk a b l) = (A.rowOk a b l l[k] && (l.drop (k + 1)).all (A.rowOk a b l))) := A.all_drop hlt _
            generalize l[k] = p at *
            obtain ⟨p1, p2⟩ := p
            dsimp only at c0 c1'
            have HPB : Hid (Blk (wr.alloc (.cells #[.int .i64 p1, .int .i64 p2] 50)) wr.heap.size 50 #[.int .i64 p1, .int .i64 p2]) := Blk.new wr _ _
            have HSP := Lib.hid (HS.out.call ((Frm.refl _ wr).alloc (.cells #[.int .i64 p1, .int .i64 p2] 50)))
            have q0 := HPB.out.cell 0
            have q1 := HPB.out.cell 1
            have e0 := HSP.out.ba.cell 0
            have e1 := HSP.out.ba.cell 1
            have e2 := HSP.out.ba.cell 2
            have e3 := HSP.out.ba.cell 3
            have g0 := HSP.out.bb.cell 0
            have g1 := HSP.out.bb.cell 1
            have g2 := HSP.out.bb.cell 2
            have g3 := HSP.out.bb.cell 3
            simp only [macC] at e0 e1 e2 e3 g0 g1 g2 g3
            clear hc0 hc1
            go_wp2_with fail
            clear e0 e1 e2 e3 g0 g1 g2 g3 q0 q1 c0 c1'
            refine (agree_any (HM.out.keep0 HSP.out.fr) (HM'.out.keep0 HSP.out.fr) HT.out (p1, p2) HPIN.out).mono ?_
            rintro _ w5 ⟨rfl, f5⟩
            have HS5 := Lib.hid (HSP.out.call f5)
            have HPB5 := Lib.hid (f5.blk HPB.out id)
            have HRO : Hid (A.rowOk a b l (p1, p2) = (A.agree a b (p1, p2) && ((List.range a.letters.toNat).drop 0).all fun (k : Nat) => A.among l (A.leadP a b (p1, p2) k))) := rfl
            clear f5
            generalize A.agree a b (p1, p2) = ag at *
            cases ag with
            | false =>
              have HZ : Hid (A.shows a b l = false) := show _ = _ by rw [HK.out, HK1.out, HRO.out]; rfl
              go_wp2_with fail
              go_ret
              exact ⟨ret_bool HZ.out.symm, HS5.out.fr⟩
            | true =>
              have HK2 : Hid (A.shows a b l = (((List.range a.letters.toNat).drop 0).all (fun (k : Nat) => A.among l (A.leadP a b (p1, p2) k)) && (l.drop (k + 1)).all (A.rowOk a b l))) := show _ = _ by rw [HK.out, HK1.out, HRO.out]; rfl
              have e0 := HS5.out.ba.cell 0
              simp only [macC] at e0
              clear HK1 HRO
              go_wp2_with fail
              go_loopg [66] (a.letters.toNat + 1) (fun n i wr' => ∃ j : Nat, j ≤ a.letters.toNat ∧ n = a.letters.toNat + 1 - j ∧ i = .int .i64 (j : Int) ∧ Hid (A.shows a b l = (((List.range a.letters.toNat).drop j).all (fun (k : Nat) => A.among l (A.leadP a b (p1, p2) k)) && (l.drop (k + 1)).all (A.rowOk a b l))) ∧ Hid (Sh w wr' (macC a A1 c1 A2 c2) (macC b B1 d1 B2 d2) a b M (A.among l)) ∧ Hid (Blk wr' wr.heap.size 50 #[.int .i64 p1, .int .i64 p2]))
              case atStart => exact ⟨0, Nat.zero_le _, rfl, rfl, HK2, HS5, HPB5⟩
              case round =>
                clear HK2 HS5 HPB5 e0
                obtain ⟨j, hj, rfl, rfl, HJ, HS6, HPB6⟩ := hrel
                by_cases hltj : j < a.letters.toNat
                · have hltj' : (j : Int) < a.letters := by omega
                  have HJ1 : Hid (((List.range a.letters.toNat).drop j).all (fun (k : Nat) => A.among l (A.leadP a b (p1, p2) k)) = (A.among l (A.leadP a b (p1, p2) j) && ((List.range a.letters.toNat).drop (j + 1)).all (fun (k : Nat) => A.among l (A.leadP a b (p1, p2) k)))) := A.range_drop hltj _
                  have q0 := HPB6.out.cell 0
                  have q1 := HPB6.out.cell 1
                  have e0 := HS6.out.ba.cell 0
                  have e1 := HS6.out.ba.cell 1
                  have e2 := HS6.out.ba.cell 2
                  have e3 := HS6.out.ba.cell 3
                  have g0 := HS6.out.bb.cell 0
                  have g1 := HS6.out.bb.cell 1
                  have g2 := HS6.out.bb.cell 2
                  have g3 := HS6.out.bb.cell 3
                  simp only [macC] at e0 e1 e2 e3 g0 g1 g2 g3
                  go_wp2_with fail
                  clear e0 e1 e2 e3 g0 g1 g2 g3 q0 q1
                  refine (leadPair_any (HM.out.keep0 HS6.out.fr) (HM'.out.keep0 HS6.out.fr) HT.out (p1, p2) j HPIN.out (by omega) hltj').mono ?_
                  rintro _ w7 ⟨rfl, f7⟩
                  have HS7 := Lib.hid (HS6.out.call f7)
                  have HPB7 := Lib.hid (f7.blk HPB6.out id)
                  have HIL : Hid (A.InP a b (A.leadP a b (p1, p2) j)) := HT.out.lead HPIN.out (by omega) hltj'
                  clear f7
                  generalize A.leadP a b (p1, p2) j = q at *
                  go_wp2_with fail
                  refine (place_any HS7.out.bw HIL.out hna hnb).mono ?_
                  rintro _ w8 ⟨rfl, f8⟩
                  have HS8 := Lib.hid (HS7.out.call f8)
                  have HPB8 := Lib.hid (f8.blk HPB7.out id)
                  obtain ⟨i8, hi8, hj8, hlt8⟩ := HPM.out _ HIL.out
                  rw [hi8]
                  have t0 := HS8.out.tb.cell HIL.out
                  rw [hj8] at t0
                  clear hi8 hj8 f8
                  generalize A.among l q = am at *
                  cases am with
                  | false =>
                    have HZ : Hid (A.shows a b l = false) := show _ = _ by rw [HJ.out, HJ1.out]; rfl
                    go_wp2_with fail
                    go_ret
                    exact ⟨ret_bool HZ.out.symm, HS8.out.fr⟩
                  | true =>
                    have HJ2 : Hid (A.shows a b l = (((List.range a.letters.toNat).drop (j + 1)).all (fun (k : Nat) => A.among l (A.leadP a b (p1, p2) k)) && (l.drop (k + 1)).all (A.rowOk a b l))) := show _ = _ by rw [HJ.out, HJ1.out]; rfl
                    go_wp2_with fail
                    go_roundg (a.letters.toNat + 1 - (j + 1))
                    case measure => omega
                    case rel => exact ⟨j + 1, by omega, rfl, by go_num, HJ2, HS8, HPB8⟩
                · have hltj' : ¬ (j : Int) < a.letters := by omega
                  have HJ2 : Hid (A.shows a b l = (l.drop (k + 1)).all (A.rowOk a b l)) := show _ = _ by rw [HJ.out, A.range_end (by omega)]; rfl
                  go_wp2_with fail
                  go_roundg (l.length + 1 - (k + 1))
                  case measure => omega
                  case rel => exact ⟨k + 1, by omega, rfl, by go_num, HJ2, HS6⟩
          · have hlt' : ¬ (k : Int) < (l.length : Int) := by omega
            have HZ : Hid (A.shows a b l = true) := show _ = _ by rw [HK.out, List.drop_of_length_le (by omega)]; rfl
            go_wp2_with fail
            go_ret
            exact ⟨ret_bool HZ.out.symm, HS.out.fr⟩
end Go.Proofs.Ytmoniecknimmdaa
end
section
namespace Go.Proofs.Ytmoniecknimmdaa
open Go.RowKit
namespace A
def check (a b : Mac) (l : List Pr) : Int := if fit a b = 0 then (if isRel a b l then (if shows a b l then 0 else 8) else 2) else fit a b
theorem relFrom_in {a b : Mac} : ∀ {l : List Pr} {last : Pr}, relFrom a b last l = true → ∀ p ∈ l, InP a b p
  | [], _, _, p, hp => by cases hp
  | q :: l, last, h, p, hp => by
    unfold relFrom at h
    simp only [Bool.and_eq_true] at h
    obtain ⟨h1, _, h3⟩ := h
    rcases List.mem_cons.1 hp with rfl | hp
    · exact okPair_in.1 h1
    · exact relFrom_in h3 p hp
end A
/-- What a run with two machines keeps: their boxes. -/
structure Bx (w0 w : World) (ca cb : Array Value) : Prop where
  fr : Frm (fun _ => False) w0 w
  ba : Blk w w0.heap.size 25 ca
  bb : Blk w (w0.heap.size + 1) 25 cb
theorem Bx.call {w0 w w' : World} {ca cb : Array Value} (h : Bx w0 w ca cb) (F : Frm (fun _ => False) w w') : Bx w0 w' ca cb := ⟨h.fr.trans F, F.blk h.ba id, F.blk h.bb id⟩
theorem Bx.new (w0 : World) (ca cb : Array Value) : Bx w0 ((w0.alloc (.cells ca 25)).alloc (.cells cb 25)) ca cb :=
  ⟨((Frm.refl _ w0).alloc _).alloc _, (Blk.new w0 _ _).alloc _, blk_at (by simp)⟩
set_option maxRecDepth 100000 in
set_option maxHeartbeats 4000000 in
theorem check_any {w : World} {P Q R : Nat → Prop} {v v' vl : Value} {a b : A.Mac} {l : List A.Pr} (h : MachAt w P v a) (h' : MachAt w Q v' b) (hl : Prs2 w R vl l) (hs : Sized a) (hs' : Sized b) (hll : l.length ≤ maxLen) :
    Calls Try.prog 15 #[v, v', vl] w fun e w' => e = .returned (.int .i64 (A.check a b l)) ∧ Frm (fun _ => False) w w' := by
  obtain ⟨A1, c1, A2, c2, rfl⟩ := h.form
  obtain ⟨B1, d1, B2, d2, rfl⟩ := h'.form
  obtain ⟨AL, cl, rfl, hL⟩ := id hl
  have HF0 : Hid (Bx w _ (macC a A1 c1 A2 c2) (macC b B1 d1 B2 d2)) := Bx.new w _ _
  have HM := Lib.hid h
  have HM' := Lib.hid h'
  have HL := Lib.hid hl
  have HSZ := Lib.hid hs
  have HSZ' := Lib.hid hs'
  have HLL := Lib.hid hll
  have HX : Hid (A.check a b l = if A.fit a b = 0 then (if A.isRel a b l then (if A.shows a b l then 0 else 8) else 2) else A.fit a b) := rfl
  clear h h' hl hs hs' hll hL
  have e0 := HF0.out.ba.cell 0
  have e1 := HF0.out.ba.cell 1
  have e2 := HF0.out.ba.cell 2
  have e3 := HF0.out.ba.cell 3
  have g0 := HF0.out.bb.cell 0
  have g1 := HF0.out.bb.cell 1
  have g2 := HF0.out.bb.cell 2
  have g3 := HF0.out.bb.cell 3
  simp only [macC] at e0 e1 e2 e3 g0 g1 g2 g3
  go_enter Try.func15, Try.ntmps15
  go_wp2_with fail
  clear e0 e1 e2 e3 g0 g1 g2 g3
  refine (fit_any (HM.out.keep0 HF0.out.fr) (HM'.out.keep0 HF0.out.fr) HSZ.out HSZ'.out).mono ?_
  rintro _ w1 ⟨rfl, f1⟩
  have HF1 := Lib.hid (HF0.out.call f1)
  have HT : Hid (A.fit a b = 0 → A.Two a b) := A.fit_two
  clear f1
  generalize A.fit a b = ft at *
  by_cases hf : ft = 0
  · subst hf
    have HT1 := Lib.hid (HT.out rfl)
    have HI : Hid (A.isRel a b l = true → ∀ p ∈ l, A.InP a b p) := A.relFrom_in
    have e0 := HF1.out.ba.cell 0
    have e1 := HF1.out.ba.cell 1
    have e2 := HF1.out.ba.cell 2
    have e3 := HF1.out.ba.cell 3
    have g0 := HF1.out.bb.cell 0
    have g1 := HF1.out.bb.cell 1
    have g2 := HF1.out.bb.cell 2
    have g3 := HF1.out.bb.cell 3
    simp only [macC] at e0 e1 e2 e3 g0 g1 g2 g3
    go_wp2_with fail
    clear e0 e1 e2 e3 g0 g1 g2 g3
    refine (isRel_any (HM.out.keep0 HF1.out.fr) (HM'.out.keep0 HF1.out.fr) (HL.out.keep HF1.out.fr fun _ _ => id) HT1.out.na HT1.out.nb HLL.out).mono ?_
    rintro _ w2 ⟨rfl, f2⟩
    have HF2 := Lib.hid (HF1.out.call f2)
    clear f2
    generalize A.isRel a b l = rl at *
    cases rl with
    | false =>
      go_wp2_with fail
      go_ret
      exact ⟨ret_int (by rw [HX.out]; rfl), HF2.out.fr⟩
    | true =>
      have HI1 := Lib.hid (HI.out rfl)
      have e0 := HF2.out.ba.cell 0
      have e1 := HF2.out.ba.cell 1
      have e2 := HF2.out.ba.cell 2
      have e3 := HF2.out.ba.cell 3
      have g0 := HF2.out.bb.cell 0
      have g1 := HF2.out.bb.cell 1
      have g2 := HF2.out.bb.cell 2
      have g3 := HF2.out.bb.cell 3
      simp only [macC] at e0 e1 e2 e3 g0 g1 g2 g3
      go_wp2_with fail
      clear e0 e1 e2 e3 g0 g1 g2 g3
      refine (shows_any (HM.out.keep0 HF2.out.fr) (HM'.out.keep0 HF2.out.fr) (HL.out.keep HF2.out.fr fun _ _ => id) HT1.out HI1.out HLL.out).mono ?_
      rintro _ w3 ⟨rfl, f3⟩
      have HF3 := Lib.hid (HF2.out.call f3)
      clear f3
      generalize A.shows a b l = sh at *
      cases sh with
      | false =>
        go_wp2_with fail
        go_ret
        exact ⟨ret_int (by rw [HX.out]; rfl), HF3.out.fr⟩
      | true =>
        go_wp2_with fail
        go_ret
        exact ⟨ret_int (by rw [HX.out]; rfl), HF3.out.fr⟩
  · have hb : (ft != 0) = true := by rw [bne_iff_ne]; exact hf
    have HY : Hid (A.check a b l = ft) := show _ = _ by rw [HX.out, if_neg hf]
    clear hf
    go_wp2_with fail
    go_ret
    exact ⟨ret_int HY.out.symm, HF1.out.fr⟩
end Go.Proofs.Ytmoniecknimmdaa
end
section
namespace Go.Proofs.Ytmoniecknimmdaa
open Go.RowKit
namespace A
structure Tr where
  p : Pr
  before : Int
  letter : Int
/-- The letters back from a trail; none if the steps do not suffice or a number is no trail. -/
def back : Nat → List Tr → Int → List Int → Option (List Int)
  | 0, _, _, _ => none
  | f + 1, ts, at_, acc =>
    if at_ ≤ 0 then some acc
    else if h : at_.toNat < ts.length then back f ts ts[at_.toNat].before (acc ++ [ts[at_.toNat].letter]) else none
def wordO (f : Nat) (ts : List Tr) : Option (List Int) := (back f ts ((ts.length : Int) - 1) []).map List.reverse
end A
def trC (t : A.Tr) : List Value := [.int .i64 t.p.1, .int .i64 t.p.2, .int .i64 t.before, .int .i64 t.letter]
theorem trC_get : ∀ (ts : List A.Tr) (k i : Nat) (hk : k < ts.length), i < 4 → (ts.flatMap trC)[k * 4 + i]? = (trC ts[k])[i]?
  | t :: ts, 0, i, _, hi => by
    rw [List.flatMap_cons, Nat.zero_mul, Nat.zero_add, List.getElem?_append_left (by simpa [trC] using hi)]
    rfl
  | t :: ts, k + 1, i, hk, hi => by
    rw [List.flatMap_cons, List.getElem?_append_right (by simp only [trC, List.length_cons, List.length_nil]; omega)]
    have e : (k + 1) * 4 + i - (trC t).length = k * 4 + i := by simp only [trC, List.length_cons, List.length_nil]; omega
    rw [e, trC_get ts k i (by simpa using hk) hi]
    rfl
theorem add_zero_off (g j : Nat) : (⟨g, 0, none⟩ : Addr).add j = ⟨g, j, none⟩ := by unfold Addr.add; split <;> simp_all
/-- The trails that were found. -/
def Trs (w : World) (base : Nat) (v : Value) (ts : List A.Tr) : Prop := w.ownsRow base 86 4 v ts.length (ts.flatMap trC)
theorem Trs.at_ {w : World} {base : Nat} {TA : Option Addr} {c : Nat} {ts : List A.Tr} (h : Trs w base (.slice TA ts.length c) ts) {k : Nat} (hk : k < ts.length) : ∃ g, TA = some ⟨g, 0, none⟩ ∧ base ≤ g ∧ w.cell? ⟨g, k * 4, none⟩ = some (.int .i64 ts[k].p.1) ∧ w.cell? ⟨g, k * 4 + 1, none⟩ = some (.int .i64 ts[k].p.2) ∧ w.cell? ⟨g, k * 4 + 2, none⟩ = some (.int .i64 ts[k].before) ∧ w.cell? ⟨g, k * 4 + 3, none⟩ = some (.int .i64 ts[k].letter) := by
  rcases h.2 with ⟨e, hn⟩ | ⟨g, cap, cur, e, hb, _⟩
  · omega
  · injection e with e1 e2 e3
    subst e1
    have hc := @World.ownsRow.cells _ _ _ _ _ _ _ h g rfl
    have key : ∀ i (hi : i < 4) u, (trC ts[k])[i]? = some u → w.cell? ⟨g, k * 4 + i, none⟩ = some u := fun i hi u hu => by
      have this := hc (k * 4 + i) u (by rw [trC_get ts k i hk hi]; exact hu)
      rwa [add_zero_off] at this
    exact ⟨g, rfl, hb, key 0 (by omega) _ rfl, key 1 (by omega) _ rfl, key 2 (by omega) _ rfl, key 3 (by omega) _ rfl⟩
theorem own_form {w : World} {base size n : Nat} {e : TypeId} {v : Value} {xs : List Value} (h : w.ownsRow base e size v n xs) : ∃ A c, v = .slice A n c := by
  rcases h.2 with ⟨rfl, hn⟩ | ⟨g, cap, cur, rfl, _⟩
  · exact ⟨none, 0, by rw [hn]⟩
  · exact ⟨_, cap, rfl⟩
theorem own_ge {w : World} {base size n : Nat} {e : TypeId} {v : Value} {xs : List Value} (h : w.ownsRow base e size v n xs) : ∀ g, v.ownBlock = some g → base ≤ g := by
  intro g hg
  rcases h.2 with ⟨rfl, hn⟩ | ⟨g', cap, cur, rfl, h1, _⟩
  · cases hg
  · simp only [Value.ownBlock, Option.some.injEq] at hg
    omega
theorem Frm.setCells {E : Nat → Prop} {w : World} {g : Nat} (hE : g < w.heap.size → E g) : ∀ (vs : List Value) (o : Nat) (w' : World), Frm E w w' → Frm E w (w'.setCells g o vs)
  | [], _, _, F => F
  | v :: r, o, w', F => by
    unfold World.setCells
    exact Frm.setCells hE r (o + 1) _ (F.set_ (p := ⟨g, o, none⟩) hE v)
theorem reverse_any {w : World} {base : Nat} {u : Value} {l : List Int} (h : w.ownsRow base 3 1 u l.length (l.map fun x => Value.int .i64 x)) (hl : l.length ≤ 1000000000) :
    Calls Try.prog 62 #[u] w fun e w' => e = .returned (.tuple #[]) ∧ Ints w' (fun b => base ≤ b) u l.reverse ∧ Frm (fun b => base ≤ b) w w' := by
  have hc := @World.ownsRow.cells _ _ _ _ _ _ _ h
  rcases h.2 with ⟨rfl, hn⟩ | ⟨g, cap, cur, rfl, hb, hx, h1, h2, h3, h4⟩
  · obtain rfl : l = [] := List.length_eq_zero_iff.1 hn
    refine (Try.slices_Reverse_int_empty none 0 w).mono ?_
    rintro e w' ⟨rfl, rfl⟩
    exact ⟨rfl, ⟨none, 0, rfl, fun k hk => by simp at hk⟩, Frm.refl _ _⟩
  · have hcell : ∀ j, j < l.length → w.cell? ⟨g, 0 + j, none⟩ = some (.int .i64 (l.getD j 0)) := fun j hj => by
      have this := hc rfl j (.int .i64 (l.getD j 0)) (by simp [hj])
      rw [add_zero_off] at this
      rwa [Nat.zero_add]
    refine (Try.slices_Reverse_int_cells g 0 l.length cap l w (Nat.le_refl _) (by omega) hcell (fun j hj => Blk.frozen (cs := cur) hx _)).mono ?_
    rintro e w' ⟨rfl, q, rfl⟩
    rw [List.take_length]
    refine ⟨rfl, ⟨some ⟨g, 0, none⟩, cap, by rw [List.length_reverse], fun k hk => ⟨g, 0, rfl, hb, ?_⟩⟩, Frm.setCells (fun _ => hb) _ _ _ ((Frm.refl _ w).drewN q)⟩
    have hk' : k < l.length := by simpa using hk
    have := World.cell?_setCells_in g (l.reverse.map (Value.int .i64)) 0 (w.drewN q) (fun j hj => by
      have h := hcell j (by simpa using hj)
      have h' : (w.drewN q).cell? ⟨g, 0 + j, none⟩ = _ := h
      rw [h']; rfl) k (by simpa using hk')
    rw [this]
    simp
set_option maxRecDepth 100000 in
set_option maxHeartbeats 4000000 in
theorem wordOf_any {w : World} {base f : Nat} {v : Value} {ts : List A.Tr} {l : List Int} (h : Trs w base v ts) (he : A.wordO f ts = some l) (hlen : ts.length ≤ 1000000000) (hf : f ≤ 1000000000) :
    Calls Try.prog 50 #[v] w fun e w' => ∃ u, e = .returned u ∧ Ints w' (fun b => w.heap.size ≤ b) u l ∧ Frm (fun _ => False) w w' := by
  obtain ⟨TA, tc, rfl⟩ := own_form h
  have HT := Lib.hid h
  have HE := Lib.hid he
  clear h he
  go_enter Try.func50, Try.ntmps50
  go_wp2_with fail
  have he := HE.out
  unfold A.wordO at he
  rw [Option.map_eq_some_iff] at he
  obtain ⟨l', hb, rfl⟩ := he
  have HB := Lib.hid hb
  clear hb HE
  go_loopg [3, 4] f (fun n u i wr => ∃ (acc : List Int) (at_ : Int), i = .int .i64 at_ ∧ acc.length + n ≤ f ∧ Hid (A.back n ts at_ acc = some l') ∧ Hid (wr.ownsRow w.heap.size 3 1 u acc.length (acc.map fun x => Value.int .i64 x)) ∧ Hid (Frm (fun _ => False) w wr))
  case atStart => exact ⟨[], _, rfl, by simp, HB, World.ownsRow_nil _ _ _ _, Frm.refl _ w⟩
  case round =>
    obtain ⟨acc, at_, rfl, hal, HB, HO, HF⟩ := hrel
    cases gk with
    | zero => exact absurd HB.out (by simp [A.back])
    | succ n =>
    have hb := HB.out
    unfold A.back at hb
    split at hb
    · rename_i hle
      have hle' : ¬ (0 < at_) := by omega
      simp only [Option.some.injEq] at hb
      subst hb
      go_wp2_with fail
      refine (reverse_any HO.out (by omega)).mono ?_
      rintro _ w2 ⟨rfl, hI, f2⟩
      have HI := Lib.hid hI
      have HF2 : Hid (Frm (fun _ => False) w w2) := Frm.mono (E := fun b => w.heap.size ≤ b) ((HF.out.mono fun _ _ h => h.elim).trans f2) fun b hb h => by omega
      clear hI f2
      go_wp2_with fail
      go_ret
      exact ⟨_, rfl, HI.out, HF2.out⟩
    · rename_i hgt
      split at hb
      · rename_i hlt
        obtain ⟨q, rfl⟩ : ∃ q : Nat, at_ = (q : Int) := ⟨at_.toNat, by omega⟩
        simp only [Int.toNat_natCast] at hb hlt
        have hq : (q : Int) < (ts.length : Int) := by omega
        have hq0 : (0 : Int) < (q : Int) := by omega
        obtain ⟨g, rfl, hg, hc0, hc1, hc2, hc3⟩ := HT.out.at_ hlt
        have d2 := HF.out.cell id hc2
        have d3 := HF.out.cell id hc3
        obtain ⟨t, ht⟩ : ∃ t, t = ts[q]'hlt := ⟨_, rfl⟩
        rw [← ht] at d2 d3 hb
        have hc2' := hc2
        rw [← ht] at hc2'
        clear ht
        obtain ⟨⟨t1, t2⟩, bf, lt⟩ := t
        dsimp only at d2 d3 hb hc2'
        have HB2 := Lib.hid hb
        obtain ⟨A0, c0, rfl⟩ := own_form HO.out
        obtain ⟨i0, hi, hz0, hz1, hz2⟩ := info_parts info_int
        clear hb hc0 hc1 hc2 hc3
        go_wp2_with (at_builtin; refine wpList_append_own _ rfl _ _ 35 rfl w.heap.size 3 i0 (.int .i64 0) 1 8 Try.underlying35 hi hz0 hz1 hz2 rfl (by decide) _ _ _ rfl (HO.out.alloc _) ⟨wr.heap.size, 0, none⟩ 1 1 [.int .i64 lt] rfl rfl ?y1 ?y2 ?y3 ?y4 ?y5 ?_)
        case y2 => simp [Value.oneCell']
        case y3 => unfold maxLen; omega
        case y4 => omega
        case y5 => have := HF.out.1; first | omega | (simp; omega)
        intro v' w1 hown1 hgrow _
        have HF1 : Hid (Frm (fun _ => False) w w1) := (HF.out.alloc _).own (HO.out.alloc _) hgrow
        have HO1 : Hid (w1.ownsRow w.heap.size 3 1 v' (acc ++ [lt]).length ((acc ++ [lt]).map fun x => Value.int .i64 x)) := by
          rw [List.length_append, List.map_append]; exact hown1
        have HC2 := Lib.hid hc2'
        clear hown1 hgrow d2 d3 hi hz0 hz1 hz2
        have d2 := HF1.out.cell id HC2.out
        go_wp2_with fail
        go_roundg n
        case measure => omega
        case rel => exact ⟨_, _, rfl, by simp only [List.length_append, List.length_cons, List.length_nil]; omega, HB2, HO1, HF1⟩
      · cases hb
end Go.Proofs.Ytmoniecknimmdaa
end
section
namespace Go.Proofs.Ytmoniecknimmdaa
open Go.RowKit
namespace A
def innerO (f : Nat) (a b : Mac) (at_ : Int) (p : Pr) : List Nat → List Int → List Tr → Option (List Int × List Tr × Option Pr)
  | [], j, ts => some (j, ts, none)
  | k :: ks, j, ts => match joinO f a.next.length j (leadP a b p k) with
    | none => none
    | some (j', false) => innerO f a b at_ p ks j' ts
    | some (j', true) => if agree a b (leadP a b p k) then innerO f a b at_ p ks j' (ts ++ [⟨leadP a b p k, at_, k⟩]) else some (j', ts ++ [⟨leadP a b p k, at_, k⟩], some (leadP a b p k))
def outerO (f : Nat) (a b : Mac) : Nat → Nat → List Int → List Tr → Option (Option (List Tr × Pr))
  | fuel, at_, j, ts => if h : at_ < ts.length then (match fuel with
    | 0 => none
    | n + 1 => match innerO f a b at_ ts[at_].p (List.range a.letters.toNat) j ts with
      | none => none
      | some (j', ts', none) => outerO f a b n (at_ + 1) j' ts'
      | some (_, ts', some q) => some (some (ts', q))) else some none
def diffO (f : Nat) (a b : Mac) : Option (Option (List Int × Pr)) :=
  if agree a b (a.start, b.start) then (match joinO f a.next.length (upTo (1 + a.next.length + b.next.length) (1 + a.next.length + b.next.length)) (a.start, b.start) with
    | none => none
    | some (j, _) => match outerO f a b f 0 j [⟨(a.start, b.start), 0, 0⟩] with
      | none => none
      | some none => some none
      | some (some (ts, q)) => (wordO f ts).map fun l => some (l, q))
  else some (some ([], (a.start, b.start)))
end A
/-- What a run of difference keeps: the boxes of its machines and of the pair. -/
structure Dx (w0 w : World) (ca cb : Array Value) (p : A.Pr) : Prop where
  fr : Frm (fun _ => False) w0 w
  ba : Blk w w0.heap.size 25 ca
  bb : Blk w (w0.heap.size + 1) 25 cb
  bp : Blk w (w0.heap.size + 2) 50 #[.int .i64 p.1, .int .i64 p.2]
section
variable {w0 w w' : World} {ca cb : Array Value} {p : A.Pr}
theorem Dx.new (w0 : World) (ca cb : Array Value) : Dx w0 (((w0.alloc (.cells ca 25)).alloc (.cells cb 25)).alloc (.cells #[.int .i64 0, .int .i64 0] 50)) ca cb (0, 0) :=
  ⟨(((Frm.refl _ w0).alloc _).alloc _).alloc _, ((Blk.new w0 _ _).alloc _).alloc _, (blk_at (by simp)).alloc _, blk_at (by simp)⟩
theorem Dx.frm (h : Dx w0 w ca cb p) (F : Frm (fun b => w0.heap.size + 3 ≤ b) w w') : Dx w0 w' ca cb p :=
  ⟨Frm.mono (E := fun b => w0.heap.size + 3 ≤ b) ((h.fr.mono fun _ _ h => h.elim).trans F) fun b hb h => by omega, F.blk h.ba (by omega), F.blk h.bb (by omega), F.blk h.bp (by omega)⟩
theorem Dx.call (h : Dx w0 w ca cb p) (F : Frm (fun _ => False) w w') : Dx w0 w' ca cb p := h.frm (F.mono fun _ _ h => h.elim)
theorem Dx.put (h : Dx w0 w ca cb p) (q : A.Pr) : Dx w0 ((w.setCell ⟨w0.heap.size + 2, 0, none⟩ (.int .i64 q.1)).setCell ⟨w0.heap.size + 2, 1, none⟩ (.int .i64 q.2)) ca cb q := by
  have F := Frm.set2 (w := w) (w0.heap.size + 2) (.int .i64 q.1) (.int .i64 q.2)
  exact ⟨Frm.mono (E := fun b => b = w0.heap.size + 2) ((h.fr.mono fun _ _ h => h.elim).trans F) fun b hb h => by omega, F.blk h.ba (by omega), F.blk h.bb (by omega), (h.bp.set_ 0 _).set_ 1 _⟩
theorem Dx.six {E : Nat → Prop} {w9 : World} (h : Dx w0 w ca cb p) (F : Frm E w9 w) : w.cell? ⟨w0.heap.size + 1 + 1, 0, none⟩ = some (.int .i64 p.1) ∧ w.cell? ⟨w0.heap.size + 1 + 1, 1, none⟩ = some (.int .i64 p.2) ∧ w.frozen? ⟨w0.heap.size + 1 + 1, 0, none⟩ = false ∧ w.frozen? ⟨w0.heap.size + 1 + 1, 1, none⟩ = false ∧ Dx w0 w ca cb p ∧ Frm E w9 w :=
  ⟨h.bp.cell 0, h.bp.cell 1, h.bp.frozen 0, h.bp.frozen 1, h, F⟩
theorem Dx.lt (h : Dx w0 w ca cb p) : w0.heap.size + 3 ≤ w.heap.size := by have := h.bp.lt; omega
end
theorem info_trail : (Try.prog.info? 86).map (fun i => (i.zero, i.size, i.bytes)) = some (some (.agg #[.int .i64 0, .int .i64 0, .int .i64 0, .int .i64 0]), 4, 32) := by kernel_rfl
theorem cell_four_at {w : World} {u v x y : Value} {e : TypeId} {n : Nat} (hn : w.heap.size = n) : ∀ (j : Nat) (z : Value), [u, v, x, y][j]? = some z → (w.alloc (.cells #[u, v, x, y] e)).cell? ((⟨n, 0, none⟩ : Addr).add j) = some z := by
  subst hn
  intro j z hz
  rw [add_zero_off, (Blk.new w e #[u, v, x, y]).cell j]
  simpa using hz
/-- What difference hands back. -/
def DiffPost (w : World) (r : Option (List Int × A.Pr)) (e : Ending) (w' : World) : Prop := match r with
  | none => e = .returned (.tuple #[.slice none 0 0, pairV (0, 0), .bool false]) ∧ Frm (fun _ => False) w w'
  | some (l, q) => ∃ u, e = .returned (.tuple #[u, pairV q, .bool true]) ∧ Ints w' (fun b => w.heap.size ≤ b) u l ∧ Frm (fun _ => False) w w'
set_option maxRecDepth 100000 in
set_option maxHeartbeats 4000000 in
theorem diff_any {w : World} {P Q : Nat → Prop} {v v' : Value} {a b : A.Mac} {f : Nat} {r : Option (List Int × A.Pr)} (h : MachAt w P v a) (h' : MachAt w Q v' b) (ht : A.Two a b) (he : A.diffO f a b = some r) (hf : f ≤ 100000) :
    Calls Try.prog 24 #[v, v'] w (DiffPost w r) := by
  obtain ⟨A1, c1, A2, c2, rfl⟩ := h.form
  obtain ⟨B1, d1, B2, d2, rfl⟩ := h'.form
  have HB0 : Hid (Dx w _ (macC a A1 c1 A2 c2) (macC b B1 d1 B2 d2) (0, 0)) := Dx.new w _ _
  have HM := Lib.hid h
  have HM' := Lib.hid h'
  have HT := Lib.hid ht
  have HE := Lib.hid he
  have HIS : Hid (A.InP a b (a.start, b.start)) := ⟨ht.fa.start, ht.fb.start⟩
  have q0 := HB0.out.bp.cell 0
  have q1 := HB0.out.bp.cell 1
  have z0 := HB0.out.bp.frozen 0
  have z1 := HB0.out.bp.frozen 1
  have e0 := HB0.out.ba.cell 0
  have e1 := HB0.out.ba.cell 1
  have e2 := HB0.out.ba.cell 2
  have e3 := HB0.out.ba.cell 3
  have g0 := HB0.out.bb.cell 0
  have g1 := HB0.out.bb.cell 1
  have g2 := HB0.out.bb.cell 2
  have g3 := HB0.out.bb.cell 3
  simp only [macC] at e0 e1 e2 e3 g0 g1 g2 g3
  clear h h' ht he
  go_enter Try.func24, Try.ntmps24
  go_wp2_with fail
  clear e0 e1 e2 e3 g0 g1 g2 g3 q0 q1 z0 z1
  refine (starts_any (HM.out.keep0 HB0.out.fr) (HM'.out.keep0 HB0.out.fr)).mono ?_
  rintro _ w1 ⟨rfl, f1⟩
  have HB1 := Lib.hid (HB0.out.call f1)
  have HB1p := Lib.hid (HB1.out.put (a.start, b.start))
  simp only [pairV]
  clear f1
  have q0 := HB1.out.bp.cell 0
  have q1 := HB1.out.bp.cell 1
  have z0 := HB1.out.bp.frozen 0
  have z1 := HB1.out.bp.frozen 1
  have e0 := HB1.out.ba.cell 0
  have e1 := HB1.out.ba.cell 1
  have e2 := HB1.out.ba.cell 2
  have e3 := HB1.out.ba.cell 3
  have g0 := HB1.out.bb.cell 0
  have g1 := HB1.out.bb.cell 1
  have g2 := HB1.out.bb.cell 2
  have g3 := HB1.out.bb.cell 3
  simp only [macC] at e0 e1 e2 e3 g0 g1 g2 g3
  go_wp2_with fail
  clear e0 e1 e2 e3 g0 g1 g2 g3 q0 q1 z0 z1
  refine (agree_any (HM.out.keep0 HB1p.out.fr) (HM'.out.keep0 HB1p.out.fr) HT.out (a.start, b.start) HIS.out).mono ?_
  rintro _ w2 ⟨rfl, f2⟩
  have HB2 := Lib.hid (HB1p.out.call f2)
  clear f2
  have he := HE.out
  unfold A.diffO at he
  generalize hag : A.agree a b (a.start, b.start) = ag at *
  cases ag with
  | false =>
    simp only [Bool.false_eq_true, if_false, Option.some.injEq] at he
    subst he
    have q0 := HB2.out.bp.cell 0
    have q1 := HB2.out.bp.cell 1
    have z0 := HB2.out.bp.frozen 0
    have z1 := HB2.out.bp.frozen 1
    go_wp2_with fail
    go_region
    all_goals go_wp2_with fail
    have HBe := Lib.hid (HB2.out.put (a.start, b.start))
    have d0 := HBe.out.bp.cell 0
    have d1 := HBe.out.bp.cell 1
    refine bodyPost_ret (v := .tuple #[.slice none 0 0, pairV (a.start, b.start), .bool true]) (by simp [results, Try.results24, go_sem, pairV, q0, q1]) rfl ?_
    exact ⟨_, rfl, ⟨none, 0, rfl, fun k hk => by simp at hk⟩, HBe.out.fr⟩
  | true =>
    simp only [if_true] at he
    split at he
    · cases he
    rename_i j jb hj
    have HJ := Lib.hid hj
    have HE2 := Lib.hid he
    clear he hj hag
    have hna := HT.out.na
    have hnb := HT.out.nb
    have q0 := HB2.out.bp.cell 0
    have q1 := HB2.out.bp.cell 1
    have z0 := HB2.out.bp.frozen 0
    have z1 := HB2.out.bp.frozen 1
    have e0 := HB2.out.ba.cell 0
    have e1 := HB2.out.ba.cell 1
    have e2 := HB2.out.ba.cell 2
    have e3 := HB2.out.ba.cell 3
    have g0 := HB2.out.bb.cell 0
    have g1 := HB2.out.bb.cell 1
    have g2 := HB2.out.bb.cell 2
    have g3 := HB2.out.bb.cell 3
    simp only [macC] at e0 e1 e2 e3 g0 g1 g2 g3
    go_wp2_with fail
    clear e0 e1 e2 e3 g0 g1 g2 g3 q0 q1 z0 z1
    refine (newJoined_any w2 a.next.length b.next.length hna hnb).mono ?_
    rintro _ w3 ⟨rfl, J3, f3⟩
    have HB3 := Lib.hid (HB2.out.call f3)
    have HJ3 := Lib.hid J3
    have hw2 : w.heap.size + 3 ≤ w2.heap.size := HB2.out.lt
    obtain ⟨⟨hs1, hs2⟩, hs3, hs4⟩ := HIS.out
    dsimp only at hs1 hs2 hs3 hs4
    have HS := Lib.hid (And.intro (And.intro hs1 hs2) (And.intro hs3 hs4))
    clear f3 J3
    have q0 := HB3.out.bp.cell 0
    have q1 := HB3.out.bp.cell 1
    have z0 := HB3.out.bp.frozen 0
    have z1 := HB3.out.bp.frozen 1
    go_wp2_with fail
    refine (join_any HJ3.out HJ.out ⟨by dsimp only; omega, by dsimp only; omega⟩ ⟨by dsimp only; omega, by dsimp only; omega⟩ ⟨by omega, by omega⟩).mono ?_
    rintro _ w4 ⟨rfl, J4, hl4, f4⟩
    have HB4 := Lib.hid (HB3.out.frm (f4.mono fun b _ h => by subst h; exact hw2))
    have HJ4 := Lib.hid J4
    have HL4 := Lib.hid hl4
    clear f4 J4 hl4 q0 q1 z0 z1
    have q0 := HB4.out.bp.cell 0
    have q1 := HB4.out.bp.cell 1
    have z0 := HB4.out.bp.frozen 0
    have z1 := HB4.out.bp.frozen 1
    go_wp2_with fail
    have HLW : Hid (w.heap.size + 3 ≤ w4.heap.size ∧ w2.heap.size + 2 ≤ w4.heap.size) := ⟨HB4.out.lt, by have := HJ4.out.1.lt; omega⟩
    obtain ⟨W5, hW5⟩ : ∃ W5, W5 = w4.alloc (.cells #[.int .i64 a.start, .int .i64 b.start, .int .i64 0, .int .i64 0] 86) := ⟨_, rfl⟩
    have HB5 : Hid (Dx w W5 (macC a A1 c1 A2 c2) (macC b B1 d1 B2 d2) (a.start, b.start)) := by rw [hW5]; exact HB4.out.call ((Frm.refl _ w4).alloc _)
    have HJ5 : Hid (Jn W5 (w2.heap.size + 1) w2.heap.size a.next.length j) := by rw [hW5]; exact ((Frm.refl (fun _ => False) w4).alloc _).jn HJ4.out id id
    have HT5 : Hid (Trs W5 w4.heap.size (.slice (some ⟨w4.heap.size, 0, none⟩) 1 1) [⟨(a.start, b.start), 0, 0⟩]) := by
      rw [hW5]; exact World.ownsRow_lit w4 _ 1 (Nat.le_refl _) (by unfold maxLen; omega) rfl
    have HSZ5 : Hid (w4.heap.size ≤ W5.heap.size) := by rw [hW5]; show w4.heap.size ≤ _; simp
    rw [← hW5]
    clear hW5 q0 q1 z0 z1
    have he3 := HE2.out
    cases hO : A.outerO f a b f 0 j [⟨(a.start, b.start), 0, 0⟩] with
    | none => rw [hO] at he3; cases he3
    | some ro =>
    rw [hO] at he3
    have HRO := Lib.hid he3
    have HO := Lib.hid hO
    clear he3 hO HE2 HL4 HJ HJ3 HB3 HB4 HJ4
    go_loopg [8, 9] f (fun n u8 i9 wr => ∃ (at_ : Nat) (ts : List A.Tr) (jl : List Int) (p : A.Pr), i9 = .int .i64 (at_ : Int) ∧ ts.length + 300 * n ≤ 1 + 300 * f ∧ Hid (A.outerO f a b n at_ jl ts = some ro) ∧ Hid (Trs wr w4.heap.size u8 ts) ∧ Hid (∀ t ∈ ts, A.InP a b t.p) ∧ Hid (Dx w wr (macC a A1 c1 A2 c2) (macC b B1 d1 B2 d2) p) ∧ Hid (Jn wr (w2.heap.size + 1) w2.heap.size a.next.length jl) ∧ Hid (w4.heap.size ≤ wr.heap.size))
    case atStart => exact ⟨0, _, j, _, rfl, by simp, HO, HT5, fun t ht => by simp only [List.mem_singleton] at ht; subst ht; exact HIS.out, HB5, HJ5, HSZ5⟩
    case round =>
      clear HO HT5 HB5 HJ5 HSZ5
      obtain ⟨at_, ts, jl, p, rfl, hn, HO, HTS, HIN, HD, HJ, HSZ⟩ := hrel
      obtain ⟨TA, tc, rfl⟩ := own_form HTS.out
      have ho := HO.out
      unfold A.outerO at ho
      by_cases hlt : at_ < ts.length
      · have hlt' : (at_ : Int) < (ts.length : Int) := by omega
        rw [dif_pos hlt] at ho
        cases gk with
        | zero => simp at ho
        | succ n =>
        dsimp only at ho
        cases hI : A.innerO f a b at_ (ts[at_]'hlt).p (List.range a.letters.toNat) jl ts with
        | none => rw [hI] at ho; cases ho
        | some res =>
        rw [hI] at ho
        have HOR := Lib.hid ho
        have hl0 := HT.out.fa.letters
        have hl300 := HT.out.la
        have HNN := Lib.hid hn
        obtain ⟨tp, htp⟩ : ∃ tp, tp = (ts[at_]'hlt).p := ⟨_, rfl⟩
        rw [← htp] at hI
        have HI : Hid (A.innerO f a b at_ tp ((List.range a.letters.toNat).drop 0) jl ts = some res) := hI
        have HTP : Hid (∃ t, ts[at_]? = some t ∧ t.p = tp) := ⟨_, List.getElem?_eq_getElem hlt, htp.symm⟩
        have HTI : Hid (A.InP a b tp) := by rw [htp]; exact HIN.out _ (List.getElem_mem hlt)
        have e0 := HD.out.ba.cell 0
        simp only [macC] at e0
        clear ho hI htp hn HO
        go_wp2_with fail
        go_loopg [8, 41] (a.letters.toNat + 1) (fun m u8 i41 wr => ∃ (k : Nat) (ts' : List A.Tr) (jl' : List Int) (p' : A.Pr), k ≤ a.letters.toNat ∧ m = a.letters.toNat + 1 - k ∧ i41 = .int .i64 (k : Int) ∧ ts'.length ≤ ts.length + k ∧ Hid (A.innerO f a b at_ tp ((List.range a.letters.toNat).drop k) jl' ts' = some res) ∧ Hid (∃ t, ts'[at_]? = some t ∧ t.p = tp) ∧ Hid (Trs wr w4.heap.size u8 ts') ∧ Hid (∀ t ∈ ts', A.InP a b t.p) ∧ Hid (Dx w wr (macC a A1 c1 A2 c2) (macC b B1 d1 B2 d2) p') ∧ Hid (Jn wr (w2.heap.size + 1) w2.heap.size a.next.length jl') ∧ Hid (w4.heap.size ≤ wr.heap.size))
        case atStart => exact ⟨0, ts, jl, p, Nat.zero_le _, rfl, rfl, Nat.le_refl _, HI, HTP, HTS, HIN, HD, HJ, HSZ⟩
        case round =>
          clear HI HTP HTS HIN HD HJ HSZ e0
          obtain ⟨k, ts', jl', p', hk, rfl, rfl, htl, HI, HTP, HTS, HIN, HD, HJ, HSZ⟩ := hrel
          obtain ⟨TA', tc', rfl⟩ := own_form HTS.out
          by_cases hltk : k < a.letters.toNat
          · have hltk' : (k : Int) < a.letters := by omega
            obtain ⟨t, ht1, ht2⟩ := HTP.out
            obtain ⟨hlt2, ht3⟩ := List.getElem?_eq_some_iff.1 ht1
            have hlt2' : (at_ : Int) < (ts'.length : Int) := by omega
            obtain ⟨gt, rfl, hgt, hc0, hc1, _, _⟩ := HTS.out.at_ hlt2
            rw [ht3, ht2] at hc0 hc1
            have hi := HI.out
            rw [List.drop_eq_getElem_cons (by simpa using hltk), List.getElem_range] at hi
            unfold A.innerO at hi
            have HIQ : Hid (A.InP a b (A.leadP a b tp k)) := HT.out.lead HTI.out (by omega) hltk'
            have HII := Lib.hid hi
            obtain ⟨tp1, tp2⟩ := tp
            dsimp only at hc0 hc1
            have q0 := HD.out.bp.cell 0
            have q1 := HD.out.bp.cell 1
            have z0 := HD.out.bp.frozen 0
            have z1 := HD.out.bp.frozen 1
            have e0 := HD.out.ba.cell 0
            have e1 := HD.out.ba.cell 1
            have e2 := HD.out.ba.cell 2
            have e3 := HD.out.ba.cell 3
            have g0 := HD.out.bb.cell 0
            have g1 := HD.out.bb.cell 1
            have g2 := HD.out.bb.cell 2
            have g3 := HD.out.bb.cell 3
            simp only [macC] at e0 e1 e2 e3 g0 g1 g2 g3
            clear hi ht1 ht2 ht3
            go_wp2_with fail
            go_still_tail 8, (by kernel_rfl)
            go_wp2_with fail
            clear e0 e1 e2 e3 g0 g1 g2 g3 q0 q1 z0 z1
            refine (leadPair_any (HM.out.keep0 HD.out.fr.drew) (HM'.out.keep0 HD.out.fr.drew) HT.out (tp1, tp2) k HTI.out (by omega) hltk').mono ?_
            rintro _ w6 ⟨rfl, f6⟩
            have f6' : Frm (fun _ => False) wr w6 := f6
            generalize A.leadP a b (tp1, tp2) k = q at *
            obtain ⟨qa, qb⟩ := q
            have HD6 := Lib.hid (HD.out.call f6')
            have HDP := Lib.hid (HD6.out.put (qa, qb))
            have FS := Frm.set2 (w := w6) (w.heap.size + 2) (.int .i64 qa) (.int .i64 qb)
            have HLWo := HLW.out
            have HJP := Lib.hid (FS.jn (f6'.jn HJ.out id id) (by omega) (by omega))
            have HTP6 := Lib.hid (FS.row (f6'.row HTS.out (fun _ _ => id) (Nat.le_refl _)) (fun g hg e => by have := own_ge HTS.out g hg; omega) (Nat.le_refl _))
            have HSZ6 : Hid (w4.heap.size ≤ w6.heap.size) := Nat.le_trans HSZ.out f6'.1
            have q0 := HD6.out.bp.cell 0
            have q1 := HD6.out.bp.cell 1
            have z0 := HD6.out.bp.frozen 0
            have z1 := HD6.out.bp.frozen 1
            clear f6 f6' FS HLWo HD HJ HTS
            simp only [pairV]
            cases hJO : A.joinO f a.next.length jl' (qa, qb) with
            | none => have hi := HII.out; rw [hJO] at hi; cases hi
            | some jr =>
            obtain ⟨j2, b2⟩ := jr
            have hi := HII.out
            rw [hJO] at hi
            have HJO := Lib.hid hJO
            have HI2 := Lib.hid hi
            obtain ⟨⟨hq1, hq2⟩, hq3, hq4⟩ := HIQ.out
            dsimp only at hq1 hq2 hq3 hq4
            have HQB : Hid ((-1 ≤ qa ∧ qa ≤ 4000) ∧ (-1 ≤ qb ∧ qb ≤ 4000)) := ⟨⟨hq1, by omega⟩, hq3, by omega⟩
            clear hi hJO HII hq1 hq2 hq3 hq4
            go_wp2_with fail
            clear q0 q1 z0 z1
            refine (join_any (p := (qa, qb)) HJP.out HJO.out HQB.out.1 HQB.out.2 ⟨by omega, by omega⟩).mono ?_
            rintro _ w7 ⟨rfl, J7, -, f7⟩
            have HD7 := Lib.hid (HDP.out.frm (f7.mono fun b _ h => by subst h; exact hw2))
            have HLWo := HLW.out
            have HT7 := Lib.hid (f7.row HTP6.out (fun g hg e => by have := own_ge HTP6.out g hg; omega) (Nat.le_refl _))
            have HJ7 := Lib.hid J7
            have HSZ7 : Hid (w4.heap.size ≤ w7.heap.size) := by have := f7.1; have := HSZ6.out; simp at *; exact Nat.le_trans (by omega) (by assumption)
            clear f7 J7 HLWo HDP HJP HTP6 HD6
            cases b2 with
            | false =>
              have HI3 : Hid (A.innerO f a b at_ (tp1, tp2) ((List.range a.letters.toNat).drop (k + 1)) j2 ts' = some res) := HI2.out
              go_wp2_with fail
              go_roundg (a.letters.toNat + 1 - (k + 1))
              case measure => omega
              case rel => exact ⟨k + 1, ts', j2, (qa, qb), by omega, rfl, by go_num, by omega, HI3, HTP, HT7, HIN, HD7, HJ7, HSZ7⟩
            | true =>
              have hi := HI2.out
              simp only at hi
              have HI3 := Lib.hid hi
              have q0 := HD7.out.bp.cell 0
              have q1 := HD7.out.bp.cell 1
              obtain ⟨A7, c7, e7⟩ := own_form HT7.out
              injection e7 with e71 e72 e73
              subst e71 e73
              obtain ⟨i0, hi0, hz0, hz1, hz2⟩ := info_parts info_trail
              have HTL := Lib.hid htl
              have HNO := HNN.out
              clear hi HI2 e72
              go_wp2_with (at_builtin; refine wpList_append_own _ rfl _ _ 87 rfl w4.heap.size 86 i0 (.agg #[.int .i64 0, .int .i64 0, .int .i64 0, .int .i64 0]) 4 32 Try.underlying87 hi0 hz0 hz1 hz2 rfl (by decide) _ _ _ rfl (HT7.out.alloc _) ⟨w7.heap.size, 0, none⟩ 1 1 [.int .i64 qa, .int .i64 qb, .int .i64 at_, .int .i64 k] rfl rfl ?y1 ?y2 ?y3 ?y4 ?y5 ?_)
              case y1 => exact cell_four_at rfl
              case y2 => simp [Value.oneCell']
              case y3 => unfold maxLen; omega
              case y4 => omega
              case y5 => have := HSZ7.out; first | omega | (simp; omega)
              intro v8 w8 hown hgrow _
              have HLWo := HLW.out
              have F8 : Frm (fun b => w4.heap.size ≤ b) w7 w8 := ((Frm.refl _ w7).alloc _).grown hgrow (fun g hg _ => own_ge HT7.out g hg)
              have HT8 : Hid (Trs w8 w4.heap.size v8 (ts' ++ [⟨(qa, qb), at_, k⟩])) := by
                show w8.ownsRow _ _ _ _ _ _
                rw [List.length_append, List.flatMap_append]; exact hown
              have HD8 := Lib.hid (HD7.out.frm (F8.mono fun b _ h => by omega))
              have HJ8 := Lib.hid (F8.jn HJ7.out (by omega) (by omega))
              have HSZ8 : Hid (w4.heap.size ≤ w8.heap.size) := Nat.le_trans HSZ7.out F8.1
              have HIN8 : Hid (∀ t ∈ ts' ++ [⟨(qa, qb), at_, k⟩], A.InP a b t.p) := fun t ht => by
                rcases List.mem_append.1 ht with h | h
                · exact HIN.out t h
                · rw [List.mem_singleton] at h; subst h; exact HIQ.out
              have HTP8 : Hid (∃ t, (ts' ++ [(⟨(qa, qb), at_, k⟩ : A.Tr)])[at_]? = some t ∧ t.p = (tp1, tp2)) := by
                obtain ⟨t, h1, h2⟩ := HTP.out
                exact ⟨t, by rw [List.getElem?_append_left hlt2]; exact h1, h2⟩
              have HL8 : Hid ((ts' ++ [(⟨(qa, qb), at_, k⟩ : A.Tr)]).length ≤ ts.length + (k + 1)) := by rw [List.length_append, List.length_singleton]; show _ ≤ _; omega
              clear hown hgrow F8 HLWo hi0 hz0 hz1 hz2 q0 q1 HT7 HD7 HJ7
              have q0 := HD8.out.bp.cell 0
              have q1 := HD8.out.bp.cell 1
              have z0 := HD8.out.bp.frozen 0
              have z1 := HD8.out.bp.frozen 1
              have e0 := HD8.out.ba.cell 0
              have e1 := HD8.out.ba.cell 1
              have e2 := HD8.out.ba.cell 2
              have e3 := HD8.out.ba.cell 3
              have g0 := HD8.out.bb.cell 0
              have g1 := HD8.out.bb.cell 1
              have g2 := HD8.out.bb.cell 2
              have g3 := HD8.out.bb.cell 3
              simp only [macC] at e0 e1 e2 e3 g0 g1 g2 g3
              go_wp2_with fail
              clear e0 e1 e2 e3 g0 g1 g2 g3 q0 q1 z0 z1
              refine (agree_any (HM.out.keep0 HD8.out.fr) (HM'.out.keep0 HD8.out.fr) HT.out (qa, qb) HIQ.out).mono ?_
              rintro _ w9 ⟨rfl, f9⟩
              have HD9 := Lib.hid (HD8.out.call f9)
              have HJ9 := Lib.hid (f9.jn HJ8.out id id)
              have HT9 := Lib.hid (f9.row HT8.out (fun _ _ => id) (Nat.le_refl _))
              have HSZ9 : Hid (w4.heap.size ≤ w9.heap.size) := Nat.le_trans HSZ8.out f9.1
              have hi := HI3.out
              clear f9
              cases hag : A.agree a b (qa, qb) with
              | true =>
                rw [hag, if_pos rfl] at hi
                have HI4 := Lib.hid hi
                clear hi hag
                go_wp2_with fail
                go_roundg (a.letters.toNat + 1 - (k + 1))
                case measure => omega
                case rel => exact ⟨k + 1, _, j2, (qa, qb), by omega, rfl, by go_num, HL8.out, HI4, HTP8, HT9, HIN8, HD9, HJ9, HSZ9⟩
              | false =>
                rw [hag] at hi
                simp only [Bool.false_eq_true, if_false, Option.some.injEq] at hi
                subst hi
                clear hag
                go_wp2_with fail
                have ho2 := HOR.out
                simp only [Option.some.injEq] at ho2
                subst ho2
                have hr := HRO.out
                dsimp only at hr
                rw [Option.map_eq_some_iff] at hr
                obtain ⟨l, hw, hr2⟩ := hr
                subst hr2
                have HWO := Lib.hid hw
                have HL9 : Hid ((ts' ++ [(⟨(qa, qb), at_, k⟩ : A.Tr)]).length ≤ 1000000000) := show _ ≤ _ by have := HL8.out; have := HNN.out; omega
                have d9 := HD9.out
                have q0 := HD9.out.bp.cell 0
                have q1 := HD9.out.bp.cell 1
                have z0 := HD9.out.bp.frozen 0
                have z1 := HD9.out.bp.frozen 1
                clear hw HI3 HJ8 HT8 HD8
                go_region_held3 (fun w' => w'.cell? ⟨w.heap.size + 1 + 1, 0, none⟩ = some (.int .i64 qa) ∧ w'.cell? ⟨w.heap.size + 1 + 1, 1, none⟩ = some (.int .i64 qb) ∧ w'.frozen? ⟨w.heap.size + 1 + 1, 0, none⟩ = false ∧ w'.frozen? ⟨w.heap.size + 1 + 1, 1, none⟩ = false ∧ Dx w w' (macC a A1 c1 A2 c2) (macC b B1 d1 B2 d2) (qa, qb) ∧ Frm (· = w.heap.size + 2) w9 w')
                  (first | exact Dx.six d9 (Frm.refl _ _) | exact Dx.six (d9.call (Frm.refl _ _).drew) (Frm.refl _ _).drew | exact Dx.six (by assumption) (by assumption) | exact Dx.six (Dx.put (by assumption) (qa, qb)) (Frm.trans (by assumption) (Frm.set2 _ _ _)))
                  (first | (go_at_call_of 50 v8; obtain ⟨-, -, -, -, hDx, hFx⟩ := ‹_ ∧ _ ∧ _ ∧ _ ∧ Dx _ _ _ _ _ ∧ Frm _ _ _›; refine (wordOf_any (hFx.row HT9.out (fun g hg e => by have := own_ge HT9.out g hg; have := HLW.out; omega) (Nat.le_refl _)) HWO.out HL9.out (by omega)).mono ?_; rintro e w10 ⟨u, rfl, hI, f10⟩; have hD10 := hDx.call f10; have hF10 := hFx.trans (f10.mono fun _ _ h => h.elim); have y0 := hD10.bp.cell 0; have y1 := hD10.bp.cell 1; have y2 := hD10.bp.frozen 0; have y3 := hD10.bp.frozen 1))
                all_goals
                  have hs9 := HSZ9.out
                  have hlw := HLW.out
                  have FZ := Frm.set2 (w := w10) (w.heap.size + 2) (.int .i64 qa) (.int .i64 qb)
                  have hw9 : w9.drew.heap.size = w9.heap.size := rfl
                  obtain ⟨A9, c9, e9, hI9⟩ := hI.keep FZ (fun b hb h => by omega)
                  have HI9 : Hid (Ints ((w10.setCell ⟨w.heap.size + 2, 0, none⟩ (.int .i64 qa)).setCell ⟨w.heap.size + 2, 1, none⟩ (.int .i64 qb)) (fun b => w.heap.size ≤ b) u l) := ⟨A9, c9, e9, fun k hk => by obtain ⟨g, o, h1, h2, h3⟩ := hI9 k hk; exact ⟨g, o, h1, by omega, h3⟩⟩
                  have HDF := Lib.hid (Dx.put hD10 (qa, qb))
                  clear hI9 e9 FZ
                  go_wp2_with fail
                  refine bodyPost_ret (v := .tuple #[u, pairV (qa, qb), .bool true]) (by simp [results, Try.results24, go_sem, pairV, y0, y1]) rfl ?_
                  exact ⟨_, rfl, HI9.out, HDF.out.fr⟩
          · have hltk' : ¬ (k : Int) < a.letters := by omega
            have hi := HI.out
            rw [List.drop_of_length_le (by simp; omega)] at hi
            unfold A.innerO at hi
            simp only [Option.some.injEq] at hi
            subst hi
            have HOR2 := Lib.hid HOR.out
            have hat9 : at_ ≤ 40000000 := by have := HNN.out; omega
            have hat8 : IntKind.i64.wrap ((at_ : Int) + 1) = (at_ : Int) + 1 := IntWalk.i64_in _ (by omega)
            go_wp2_with fail
            go_roundg n
            case measure => omega
            case rel =>
              exact ⟨at_ + 1, ts', jl', p', by first | rfl | go_num | simp, by have := HNN.out; omega, HOR2, HTS, HIN, HD, HJ, HSZ⟩
      · have hlt' : ¬ (at_ : Int) < (ts.length : Int) := by omega
        rw [dif_neg hlt] at ho
        obtain rfl : none = ro := by simpa using ho
        obtain rfl : none = r := by simpa using HRO.out
        have q0 := HD.out.bp.cell 0
        have q1 := HD.out.bp.cell 1
        have z0 := HD.out.bp.frozen 0
        have z1 := HD.out.bp.frozen 1
        clear ho hn
        go_wp2_with fail
        have HDe := Lib.hid (HD.out.put (0, 0))
        refine bodyPost_ret (v := .tuple #[.slice none 0 0, pairV (0, 0), .bool false]) (by simp [results, Try.results24, go_sem, pairV, q0, q1]) rfl ?_
        exact ⟨rfl, HDe.out.fr⟩
end Go.Proofs.Ytmoniecknimmdaa
end
section
namespace Go.Proofs.Ytmoniecknimmdaa
open Go.RowKit
/-- What Differ hands back: where the machines can be looked at together, and r is what difference finds. -/
def DifferPost (w : World) (a b : A.Mac) (r : Option (List Int × A.Pr)) (e : Ending) (w' : World) : Prop := Frm (fun _ => False) w w' ∧
  if A.fit a b = 0 then (match r with
    | none => e = .returned (.tuple #[.slice none 0 0, .bool false, .int .i64 7])
    | some (l, q) => ∃ u, e = .returned (.tuple #[u, .bool (A.ends a q.1), .int .i64 0]) ∧ Ints w' (fun b => w.heap.size ≤ b) u l)
  else e = .returned (.tuple #[.slice none 0 0, .bool false, .int .i64 (A.fit a b)])
set_option maxRecDepth 100000 in
set_option maxHeartbeats 4000000 in
theorem differ_any {w : World} {P Q : Nat → Prop} {v v' : Value} {a b : A.Mac} {f : Nat} {r : Option (List Int × A.Pr)} (h : MachAt w P v a) (h' : MachAt w Q v' b) (hs : Sized a) (hs' : Sized b) (he : A.fit a b = 0 → A.diffO f a b = some r ∧ ∀ l q, r = some (l, q) → A.InP a b q) (hf : f ≤ 100000) :
    Calls Try.prog 13 #[v, v'] w (DifferPost w a b r) := by
  obtain ⟨A1, c1, A2, c2, rfl⟩ := h.form
  obtain ⟨B1, d1, B2, d2, rfl⟩ := h'.form
  have HB0 : Hid (Bx w _ (macC a A1 c1 A2 c2) (macC b B1 d1 B2 d2)) := Bx.new w _ _
  have HM := Lib.hid h
  have HM' := Lib.hid h'
  have HSZ := Lib.hid hs
  have HSZ' := Lib.hid hs'
  have HE := Lib.hid he
  have e0 := HB0.out.ba.cell 0
  have e1 := HB0.out.ba.cell 1
  have e2 := HB0.out.ba.cell 2
  have e3 := HB0.out.ba.cell 3
  have g0 := HB0.out.bb.cell 0
  have g1 := HB0.out.bb.cell 1
  have g2 := HB0.out.bb.cell 2
  have g3 := HB0.out.bb.cell 3
  simp only [macC] at e0 e1 e2 e3 g0 g1 g2 g3
  clear h h' hs hs' he
  go_enter Try.func13, Try.ntmps13
  go_wp2_with fail
  clear e0 e1 e2 e3 g0 g1 g2 g3
  refine (fit_any (HM.out.keep0 HB0.out.fr) (HM'.out.keep0 HB0.out.fr) HSZ.out HSZ'.out).mono ?_
  rintro _ w1 ⟨rfl, f1⟩
  have HB1 := Lib.hid (HB0.out.call f1)
  have HT : Hid (A.fit a b = 0 → A.Two a b) := A.fit_two
  clear f1
  by_cases hf0 : A.fit a b = 0
  · have HT1 := Lib.hid (HT.out hf0)
    have HE1 := Lib.hid (HE.out hf0)
    have HF0 := Lib.hid hf0
    rw [hf0]
    clear hf0
    have e0 := HB1.out.ba.cell 0
    have e1 := HB1.out.ba.cell 1
    have e2 := HB1.out.ba.cell 2
    have e3 := HB1.out.ba.cell 3
    have g0 := HB1.out.bb.cell 0
    have g1 := HB1.out.bb.cell 1
    have g2 := HB1.out.bb.cell 2
    have g3 := HB1.out.bb.cell 3
    simp only [macC] at e0 e1 e2 e3 g0 g1 g2 g3
    go_wp2_with fail
    clear e0 e1 e2 e3 g0 g1 g2 g3
    refine (diff_any (HM.out.keep0 HB1.out.fr) (HM'.out.keep0 HB1.out.fr) HT1.out HE1.out.1 hf).mono ?_
    cases r with
    | none =>
      rintro _ w2 ⟨rfl, f2⟩
      have HB2 := Lib.hid (HB1.out.call f2)
      clear f2
      simp only [pairV]
      go_wp2_with fail
      refine bodyPost_ret (v := .tuple #[.slice none 0 0, .bool false, .int .i64 7]) (by simp [results, Try.results13, go_sem]) rfl ?_
      refine ⟨by first | exact HB2.out.fr.alloc _ | exact HB2.out.fr, ?_⟩
      rw [if_pos HF0.out]
    | some r =>
      obtain ⟨l, q⟩ := r
      rintro _ w2 ⟨u, rfl, hI, f2⟩
      have HB2 := Lib.hid (HB1.out.call f2)
      have HI := Lib.hid hI
      have HQ := Lib.hid (HE1.out.2 l q rfl)
      obtain ⟨qa, qb⟩ := q
      have HB3 := Lib.hid (HB2.out.call ((Frm.refl _ w2).alloc (.cells #[.int .i64 qa, .int .i64 qb] 50)))
      have HI3 := Lib.hid (hI.keep ((Frm.refl (fun _ => False) w2).alloc (.cells #[.int .i64 qa, .int .i64 qb] 50)) (fun _ _ => id))
      have pb := Blk.new w2 50 #[.int .i64 qa, .int .i64 qb]
      have q0 := pb.cell 0
      have q1 := pb.cell 1
      clear hI f2 pb
      have e0 := HB3.out.ba.cell 0
      have e1 := HB3.out.ba.cell 1
      have e2 := HB3.out.ba.cell 2
      have e3 := HB3.out.ba.cell 3
      simp only [macC] at e0 e1 e2 e3
      simp only [pairV]
      go_wp2_with fail
      refine (ends_any (HM.out.keep0 HB3.out.fr) HT1.out.fa qa HQ.out.1).mono ?_
      rintro _ w3 ⟨rfl, f3⟩
      have HB4 := Lib.hid (HB3.out.call f3)
      have hI4 := HI3.out.keep f3 (fun _ _ => id)
      have HI4 : Hid (Ints w3 (fun b => w.heap.size ≤ b) u l) := by
        obtain ⟨A9, c9, e9, hI9⟩ := hI4
        have hle := HB1.out.fr.1
        exact ⟨A9, c9, e9, fun k hk => by obtain ⟨g, o, h1, h2, h3⟩ := hI9 k hk; exact ⟨g, o, h1, Nat.le_trans hle h2, h3⟩⟩
      clear f3 hI4 e0 e1 e2 e3 q0 q1
      go_wp2_with fail
      refine bodyPost_ret (v := .tuple #[u, .bool (A.ends a qa), .int .i64 0]) (by simp [results, Try.results13, go_sem]) rfl ?_
      refine ⟨HB4.out.fr, ?_⟩
      rw [if_pos HF0.out]
      exact ⟨u, rfl, HI4.out⟩
  · have hb : (A.fit a b != 0) = true := by rw [bne_iff_ne]; exact hf0
    have HF0 := Lib.hid hf0
    clear hf0
    go_wp2_with fail
    refine bodyPost_ret (v := .tuple #[.slice none 0 0, .bool false, .int .i64 (A.fit a b)]) (by simp [results, Try.results13, go_sem]) rfl ?_
    refine ⟨HB1.out.fr, ?_⟩
    rw [if_neg HF0.out]
end Go.Proofs.Ytmoniecknimmdaa
end
section
namespace Go.Proofs.Ytmoniecknimmdaa
open Go.RowKit
def u64Cs (l : List Int) : Array Value := (l.map fun x => Value.int .u64 x).toArray
theorem u64Cs_made (n : Nat) : madeCells #[.int .u64 0] n = u64Cs (List.replicate n 0) := by
  apply Array.toList_inj.1
  rw [toList_madeCells_one]
  simp [u64Cs]
theorem u64Cs_getD {l : List Int} {i : Nat} (hi : i < l.length) : (u64Cs l)[i]? = some (.int .u64 (l.getD i 0)) := by simp [u64Cs, hi]
theorem u64Cs_set (l : List Int) (i : Nat) (x : Int) : (u64Cs l).setIfInBounds i (.int .u64 x) = u64Cs (l.set i x) := by
  apply Array.toList_inj.1
  simp [u64Cs]
theorem info_u64 : (Try.prog.info? 44).map (fun i => (i.zero, i.size, i.bytes)) = some (some (.int .u64 0), 1, 8) := by kernel_rfl
namespace A
def addTo (ws : List Int) (c x : Int) : Int := if x = -1 then c else IntKind.u64.wrap (c + ws.getD x.toNat 0)
def sumRow (ws : List Int) (row : List Int) : Int := row.foldl (addTo ws) 0
def longer (m : Mac) (ws : List Int) : List Int := m.next.map (sumRow ws)
/-- The first k rows reckoned, the others 0. -/
def longTo (m : Mac) (ws : List Int) (k : Nat) : List Int := (m.next.take k).map (sumRow ws) ++ List.replicate (m.next.length - k) 0
theorem longTo_len (m : Mac) (ws : List Int) {k : Nat} (hk : k ≤ m.next.length) : (longTo m ws k).length = m.next.length := by
  simp [longTo]; omega
theorem longTo_set (m : Mac) (ws : List Int) {k : Nat} (hk : k < m.next.length) : (longTo m ws k).set k (sumRow ws m.next[k]) = longTo m ws (k + 1) := by
  unfold longTo
  rw [List.set_append_right _ _ (by simp; omega), List.take_succ_eq_append_getElem hk]
  have e : k - ((m.next.take k).map (sumRow ws)).length = 0 := by simp; omega
  rw [e, show m.next.length - k = (m.next.length - (k + 1)) + 1 by omega, List.replicate_succ, List.set_cons_zero, List.map_append, List.append_assoc]
  rfl
theorem longTo_end (m : Mac) (ws : List Int) : longTo m ws m.next.length = longer m ws := by simp [longTo, longer]
end A
set_option maxRecDepth 100000 in
set_option maxHeartbeats 4000000 in
theorem longer_any {w : World} {P : Nat → Prop} {v : Value} {m : A.Mac} {ws : List Int} {wg wc : Nat} (h : MachAt w P v m) (hf : A.Fits m) (hn : m.next.length ≤ 4000) (hlt3 : m.letters ≤ 300) (hb : Blk w wg 44 (u64Cs ws)) (hl : ws.length = m.next.length) :
    Calls Try.prog 35 #[v, .slice (some ⟨wg, 0, none⟩) ws.length wc] w fun e w' => e = .returned (.slice (some ⟨w.heap.size + 1, 0, none⟩) ws.length ws.length) ∧ Blk w' (w.heap.size + 1) 44 (u64Cs (A.longer m ws)) ∧ Frm (fun _ => False) w w' := by
  obtain ⟨A1, c1, A2, c2, rfl⟩ := h.form
  obtain ⟨N, hN⟩ : ∃ N, N = ws.length := ⟨_, rfl⟩
  have hmk := run_make_row' (P := Try.prog) 63 44 (.int .u64 0) 8 Try.underlying63 info_u64 rfl .i64 .i64 N (by omega) (by omega)
  have bx := Blk.new w 25 #[.int .i64 m.letters, .int .i64 m.start, .slice A1 m.next.length c1, .slice A2 m.fin.length c2]
  have x2 := bx.cell 2
  have x2' := (bx.alloc (.cells (madeCells #[.int .u64 0] N) 44)).cell 2
  rw [← hN]
  have HN := Lib.hid hN
  have HM := Lib.hid h
  have HF := Lib.hid hf
  have HB := Lib.hid hb
  have HL := Lib.hid hl
  clear h hf hb hN hl bx
  go_enter Try.func35, Try.ntmps35
  go_wp2_with fail
  clear hmk x2 x2'
  have hLN : m.next.length = N := by rw [HN.out, HL.out]
  rw [hLN] at hn ⊢
  have HLN := Lib.hid hLN
  clear hLN
  go_loopg [17] (N + 1) (fun n i wr => ∃ k : Nat, k ≤ N ∧ n = N + 1 - k ∧ i = .int .i64 (k : Int) ∧ Hid (Blk wr (w.heap.size + 1) 44 (u64Cs (A.longTo m ws k))) ∧ Hid (Frm (fun _ => False) w wr))
  case atStart =>
    refine ⟨0, Nat.zero_le _, rfl, rfl, show Blk _ _ _ _ from ?_, ((Frm.refl _ w).alloc _).alloc _⟩
    have : u64Cs (A.longTo m ws 0) = madeCells #[.int .u64 0] N := by rw [u64Cs_made]; simp [A.longTo, HLN.out]
    rw [this]
    exact blk_at (by simp)
  case round =>
    obtain ⟨k, hk, rfl, rfl, Y, F⟩ := hrel
    by_cases hlt : k < N
    · have hlt' : (k : Int) < (N : Int) := by omega
      have hltm : k < m.next.length := by rw [HLN.out]; exact hlt
      obtain ⟨g, o, A3, c3, hA, hc, hrow⟩ := HM.out.next_at hltm
      subst hA
      have c0 := F.out.cell id hc
      have HIN := Lib.hid (HF.out.rows _ (List.getElem_mem hltm)).2
      have HSET : Hid ((A.longTo m ws k).set k (A.sumRow ws (m.next[k]'hltm)) = A.longTo m ws (k + 1)) := A.longTo_set m ws hltm
      have hyl : (A.longTo m ws k).length = N := by rw [A.longTo_len m ws (Nat.le_of_lt hltm), HLN.out]
      have HYL := Lib.hid hyl
      have HROW := Lib.hid hrow
      have hrl : (m.next[k]'hltm).length ≤ 300 := by have := (HF.out.rows _ (List.getElem_mem hltm)).1; omega
      generalize m.next[k]'hltm = row at *
      clear hc hrow hyl hltm
      go_wp2_with fail
      go_loopg [8, 24] (row.length + 1) (fun n c i wr' => ∃ (j : Nat) (cv : Int), j ≤ row.length ∧ n = row.length + 1 - j ∧ i = .int .i64 (j : Int) ∧ c = .int .u64 cv ∧ Hid (A.sumRow ws row = (row.drop j).foldl (A.addTo ws) cv) ∧ wr' = wr)
      case atStart => exact ⟨0, 0, Nat.zero_le _, rfl, rfl, rfl, rfl, rfl⟩
      case round =>
        obtain ⟨j, cv, hj, rfl, rfl, rfl, HJ, rfl⟩ := hrel
        by_cases hltj : j < row.length
        · have hltj' : (j : Int) < (row.length : Int) := by omega
          obtain ⟨g3, o3, hA3, _, hcj⟩ := HROW.out j hltj
          subst hA3
          have c1 := F.out.cell id hcj
          have HJ1 : Hid ((row.drop j).foldl (A.addTo ws) cv = (row.drop (j + 1)).foldl (A.addTo ws) (A.addTo ws cv (row[j]'hltj))) := show _ = _ by rw [List.drop_eq_getElem_cons hltj]; rfl
          have HX := Lib.hid (HIN.out _ (List.getElem_mem hltj))
          generalize row[j]'hltj = x at *
          obtain ⟨hx1, hx2⟩ := HX.out
          clear hcj
          by_cases hx : x = -1
          · subst hx
            have HJ2 : Hid (A.sumRow ws row = (row.drop (j + 1)).foldl (A.addTo ws) cv) := show _ = _ by rw [HJ.out, HJ1.out]; rfl
            go_wp2_with fail
            go_roundg (row.length + 1 - (j + 1))
            case measure => omega
            case rel => exact ⟨j + 1, cv, by omega, rfl, by go_num, rfl, HJ2, rfl⟩
          · have hb : (x != -1) = true := by rw [bne_iff_ne]; exact hx
            obtain ⟨q, rfl⟩ : ∃ q : Nat, x = (q : Int) := ⟨x.toNat, by omega⟩
            have hqN : q < ws.length := by rw [HL.out]; omega
            have hqN' : (q : Int) < (N : Int) := by rw [HN.out]; omega
            have d0 := F.out.cell id ((HB.out.cell q).trans (u64Cs_getD hqN))
            have HJ2 : Hid (A.sumRow ws row = (row.drop (j + 1)).foldl (A.addTo ws) (IntKind.u64.wrap (cv + ws.getD q 0))) := show _ = _ by rw [HJ.out, HJ1.out]; simp [A.addTo, hx]
            generalize ws.getD q 0 = y at *
            clear hx HJ1 HJ hqN
            go_wp2_with fail
            go_roundg (row.length + 1 - (j + 1))
            case measure => omega
            case rel => exact ⟨j + 1, _, by omega, rfl, by go_num, rfl, HJ2, rfl⟩
        · have hltj' : ¬ (j : Int) < (row.length : Int) := by omega
          have HJ2 : Hid (A.sumRow ws row = cv) := show _ = _ by rw [HJ.out, List.drop_of_length_le (by omega)]; rfl
          have y0 := (Y.out.cell k).trans (u64Cs_getD (by rw [HYL.out]; exact hlt))
          have yf := Y.out.frozen k
          generalize (A.longTo m ws k).getD k 0 = y at y0
          go_wp2_with fail
          go_roundg (N + 1 - (k + 1))
          case measure => omega
          case rel =>
            have hY := Y.out.set_ k (.int .u64 cv)
            rw [u64Cs_set, ← HJ2.out, HSET.out] at hY
            rw [HJ2.out] at hY
            exact ⟨k + 1, by omega, rfl, by go_num, hY, F.out.set_ (fun h => by dsimp only at h; omega) _⟩
    · have hlt' : ¬ (k : Int) < (N : Int) := by omega
      obtain rfl : k = N := by omega
      go_wp2_with fail
      go_ret
      refine ⟨rfl, ?_, F.out⟩
      have := Y.out
      rw [← HLN.out, A.longTo_end] at this
      exact this
end Go.Proofs.Ytmoniecknimmdaa
end
section
namespace Go.Proofs.Ytmoniecknimmdaa
open Go.RowKit
namespace A
def words0 (m : Mac) : List Int := m.fin.map fun b => if b then 1 else 0
def longN (m : Mac) : Nat → List Int → List Int
  | 0, ws => ws
  | n + 1, ws => longN m n (longer m ws)
def count (m : Mac) (n : Int) : Int × Int :=
  if valid m = 0 ∧ 0 ≤ n ∧ n ≤ 1000 then (if m.start = -1 then (0, 0) else ((longN m n.toNat (words0 m)).getD m.start.toNat 0, 0)) else (0, 1)
def firstTo (m : Mac) (k : Nat) : List Int := (m.fin.take k).map (fun b => if b then 1 else 0) ++ List.replicate (m.fin.length - k) 0
theorem firstTo_len (m : Mac) {k : Nat} (hk : k ≤ m.fin.length) : (firstTo m k).length = m.fin.length := by
  simp [firstTo]; omega
theorem firstTo_set (m : Mac) {k : Nat} (hk : k < m.fin.length) : (firstTo m k).set k (if m.fin[k] then 1 else 0) = firstTo m (k + 1) := by
  unfold firstTo
  rw [List.set_append_right _ _ (by simp; omega), List.take_succ_eq_append_getElem hk]
  have e : k - ((m.fin.take k).map (fun b => if b then (1 : Int) else 0)).length = 0 := by simp; omega
  rw [e, show m.fin.length - k = (m.fin.length - (k + 1)) + 1 by omega, List.replicate_succ, List.set_cons_zero, List.map_append, List.append_assoc]
  rfl
theorem firstTo_skip (m : Mac) {k : Nat} (hk : k < m.fin.length) (h : m.fin[k] = false) : firstTo m k = firstTo m (k + 1) := by
  unfold firstTo
  rw [List.take_succ_eq_append_getElem hk, h, show m.fin.length - k = (m.fin.length - (k + 1)) + 1 by omega, List.replicate_succ, List.map_append, List.append_assoc]
  rfl
theorem firstTo_end (m : Mac) : firstTo m m.fin.length = words0 m := by simp [firstTo, words0]
theorem longer_len (m : Mac) (ws : List Int) : (longer m ws).length = m.next.length := by simp [longer]
theorem longN_len (m : Mac) : ∀ (n : Nat) (ws : List Int), ws.length = m.next.length → (longN m n ws).length = m.next.length
  | 0, _, h => h
  | n + 1, ws, _ => longN_len m n _ (longer_len m ws)
end A
set_option maxRecDepth 100000 in
set_option maxHeartbeats 4000000 in
theorem count_any {w : World} {P : Nat → Prop} {v : Value} {m : A.Mac} {n : Int} (h : MachAt w P v m) (hs : Sized m) :
    Calls Try.prog 17 #[v, .int .i64 n] w fun e w' => e = .returned (.tuple #[.int .u64 (A.count m n).1, .int .i64 (A.count m n).2]) ∧ Frm (fun _ => False) w w' := by
  obtain ⟨A1, c1, A2, c2, rfl⟩ := h.form
  have bx := Blk.new w 25 #[.int .i64 m.letters, .int .i64 m.start, .slice A1 m.next.length c1, .slice A2 m.fin.length c2]
  have HB0 := Lib.hid bx
  have HF0 : Hid (Frm (fun _ => False) w (w.alloc (.cells #[.int .i64 m.letters, .int .i64 m.start, .slice A1 m.next.length c1, .slice A2 m.fin.length c2] 25))) := (Frm.refl _ w).alloc _
  have HM := Lib.hid h
  have HSZ := Lib.hid hs
  have HX : Hid (A.count m n = if A.valid m = 0 ∧ 0 ≤ n ∧ n ≤ 1000 then (if m.start = -1 then (0, 0) else ((A.longN m n.toNat (A.words0 m)).getD m.start.toNat 0, 0)) else (0, 1)) := rfl
  have x0 := bx.cell 0
  have x1 := bx.cell 1
  have x2 := bx.cell 2
  have x3 := bx.cell 3
  clear h hs bx
  go_enter Try.func17, Try.ntmps17
  go_wp2_with fail
  refine (valid_any (HM.out.keep0 HF0.out) HSZ.out).mono ?_
  rintro _ w1 ⟨rfl, f1⟩
  have HF1 := Lib.hid (HF0.out.trans f1)
  have HB1 := Lib.hid (f1.blk HB0.out id)
  have HV : Hid (A.valid m = 0 → A.Fits m ∧ m.letters ≤ 300 ∧ m.next.length ≤ 4000) := A.valid_fits
  clear f1 x0 x1 x2 x3
  have x1 := HB1.out.cell 1
  generalize A.valid m = vm at *
  by_cases hv : vm = 0
  · subst hv
    obtain ⟨hfit, hl300, hn4⟩ := HV.out rfl
    have HFI := Lib.hid hfit
    clear hfit
    by_cases h0 : n < 0
    · have HZ : Hid (A.count m n = (0, 1)) := show _ = _ by rw [HX.out, if_neg (by omega)]
      go_wp2_with fail
      refine bodyPost_ret (v := .tuple #[.int .u64 0, .int .i64 1]) (by simp [results, Try.results17, go_sem]) rfl ⟨by rw [HZ.out], HF1.out⟩
    by_cases h1 : 1000 < n
    · have h0' : 0 ≤ n := by omega
      have HZ : Hid (A.count m n = (0, 1)) := show _ = _ by rw [HX.out, if_neg (by omega)]
      go_wp2_with fail
      refine bodyPost_ret (v := .tuple #[.int .u64 0, .int .i64 1]) (by simp [results, Try.results17, go_sem]) rfl ⟨by rw [HZ.out], HF1.out⟩
    have h0' : 0 ≤ n := by omega
    have h1' : n ≤ 1000 := by omega
    by_cases h2 : m.start = -1
    · have HZ : Hid (A.count m n = (0, 0)) := show _ = _ by rw [HX.out, if_pos ⟨rfl, h0', h1'⟩, if_pos h2]
      rw [h2] at x1
      go_wp2_with fail
      refine bodyPost_ret (v := .tuple #[.int .u64 0, .int .i64 0]) (by simp [results, Try.results17, go_sem]) rfl ⟨by rw [HZ.out], HF1.out⟩
    have HZ : Hid (A.count m n = ((A.longN m n.toNat (A.words0 m)).getD m.start.toNat 0, 0)) := show _ = _ by rw [HX.out, if_pos ⟨rfl, h0', h1'⟩, if_neg h2]
    have hb2 : (m.start != -1) = true := by rw [bne_iff_ne]; exact h2
    have hb3 : (m.start == -1) = false := by rw [beq_eq_false_iff_ne]; exact h2
    have HS2 := Lib.hid h2
    obtain ⟨nn, rfl⟩ : ∃ nn : Nat, n = (nn : Int) := ⟨n.toNat, by omega⟩
    have hmk := run_make_row' (P := Try.prog) 63 44 (.int .u64 0) 8 Try.underlying63 info_u64 rfl .i64 .i64 m.next.length (by omega) (by omega)
    have x2 := HB1.out.cell 2
    have x3 := HB1.out.cell 3
    have x3' := (HB1.out.alloc (.cells (madeCells #[.int .u64 0] m.next.length) 44)).cell 3
    clear h2 HV HX
    go_wp2_with fail
    have hfn := HFI.out.fin
    have HFN := Lib.hid hfn
    have HLW : Hid (w.heap.size < w1.heap.size) := HB1.out.lt
    clear hmk x1 x2 x3 x3' hfn
    go_loopg [30] (m.fin.length + 1) (fun g i wr => ∃ k : Nat, k ≤ m.fin.length ∧ g = m.fin.length + 1 - k ∧ i = .int .i64 (k : Int) ∧ Hid (Blk wr w1.heap.size 44 (u64Cs (A.firstTo m k))) ∧ Hid (Blk wr w.heap.size 25 #[.int .i64 m.letters, .int .i64 m.start, .slice A1 m.next.length c1, .slice A2 m.fin.length c2]) ∧ Hid (Frm (fun _ => False) w wr))
    case atStart =>
      refine ⟨0, Nat.zero_le _, rfl, rfl, show Blk _ _ _ _ from ?_, HB1.out.alloc _, HF1.out.alloc _⟩
      have : u64Cs (A.firstTo m 0) = madeCells #[.int .u64 0] m.next.length := by rw [u64Cs_made]; simp [A.firstTo, HFN.out]
      rw [this]
      exact Blk.new w1 _ _
    case round =>
      obtain ⟨k, hk, rfl, rfl, Y, X, F⟩ := hrel
      by_cases hlt : k < m.fin.length
      · have hlt' : (k : Int) < (m.fin.length : Int) := by omega
        obtain ⟨g, o, hA, hc⟩ := HM.out.fin_at hlt
        subst hA
        have c0 := F.out.cell id hc
        have hlw := HLW.out
        have HK : Hid ((A.firstTo m k).set k (if m.fin[k]'hlt then 1 else 0) = A.firstTo m (k + 1)) := A.firstTo_set m hlt
        have HK0 : Hid (m.fin[k]'hlt = false → A.firstTo m k = A.firstTo m (k + 1)) := A.firstTo_skip m hlt
        have hkn : (k : Int) < (m.next.length : Int) := by rw [HFN.out]; exact hlt'
        have y0 := (Y.out.cell k).trans (u64Cs_getD (by rw [A.firstTo_len m (Nat.le_of_lt hlt)]; exact hlt))
        have yf := Y.out.frozen k
        generalize (A.firstTo m k).getD k 0 = y at y0
        generalize m.fin[k]'hlt = b at *
        clear hc
        cases b with
        | false =>
          have HY : Hid (Blk wr w1.heap.size 44 (u64Cs (A.firstTo m (k + 1)))) := by rw [← HK0.out rfl]; exact Y.out
          go_wp2_with fail
          go_roundg (m.fin.length + 1 - (k + 1))
          case measure => omega
          case rel => exact ⟨k + 1, by omega, rfl, by go_num, HY, X, F⟩
        | true =>
          go_wp2_with fail
          go_roundg (m.fin.length + 1 - (k + 1))
          case measure => omega
          case rel =>
            have hY := Y.out.set_ k (.int .u64 1)
            rw [u64Cs_set] at hY
            have hk2 := HK.out
            simp only [if_true] at hk2
            rw [hk2] at hY
            exact ⟨k + 1, by omega, rfl, by go_num, hY, X.out.far (by dsimp only; omega) _, F.out.set_ (fun h => by dsimp only at h; omega) _⟩
      · have hlt' : ¬ (k : Int) < (m.fin.length : Int) := by omega
        obtain rfl : k = m.fin.length := by omega
        have HY := Y
        rw [A.firstTo_end] at HY
        go_wp2_with fail
        have HW0 : Hid ((A.words0 m).length = m.next.length) := show _ = _ by rw [A.words0, List.length_map, HFN.out]
        clear hlt hlt' hk
        go_loopg [6, 41] (nn + 1) (fun gk u6 i wr' => ∃ (j g : Nat) (ws : List Int), j ≤ nn ∧ gk = nn + 1 - j ∧ i = .int .i64 (j : Int) ∧ u6 = .slice (some ⟨g, 0, none⟩) m.next.length m.next.length ∧ ws.length = m.next.length ∧ Hid (A.longN m nn (A.words0 m) = A.longN m (nn - j) ws) ∧ Hid (Blk wr' g 44 (u64Cs ws)) ∧ Hid (Blk wr' w.heap.size 25 #[.int .i64 m.letters, .int .i64 m.start, .slice A1 m.next.length c1, .slice A2 m.fin.length c2]) ∧ Hid (Frm (fun _ => False) w wr'))
        case atStart => exact ⟨0, _, A.words0 m, Nat.zero_le _, rfl, rfl, rfl, HW0.out, rfl, HY, X, F⟩
        case round =>
          clear HY X F Y
          obtain ⟨j, g, ws, hj, rfl, rfl, rfl, hwl, HL, HG, X, F⟩ := hrel
          by_cases hltj : j < nn
          · have hltj' : (j : Int) < (nn : Int) := by omega
            have x0 := X.out.cell 0
            have x1 := X.out.cell 1
            have x2 := X.out.cell 2
            have x3 := X.out.cell 3
            have HLS : Hid (A.longN m (nn - j) ws = A.longN m (nn - (j + 1)) (A.longer m ws)) := show _ = _ by rw [show nn - j = (nn - (j + 1)) + 1 by omega]; rfl
            have HWL := Lib.hid hwl
            clear hwl
            go_wp2_with fail
            have hlo := longer_any (wc := m.next.length) (HM.out.keep0 F.out) HFI.out hn4 hl300 HG.out HWL.out
            rw [HWL.out] at hlo
            refine hlo.mono ?_
            rintro _ w4 ⟨rfl, hb4, f4⟩
            have HG4 := Lib.hid hb4
            have X4 := Lib.hid (f4.blk X.out id)
            have F4 := Lib.hid (F.out.trans f4)
            clear hlo hb4 f4 x0 x1 x2 x3
            go_wp2_with fail
            go_roundg (nn + 1 - (j + 1))
            case measure => omega
            case rel => exact ⟨j + 1, _, A.longer m ws, by omega, rfl, by go_num, rfl, A.longer_len m ws, HL.out.trans HLS.out, HG4, X4, F4⟩
          · have hltj' : ¬ (j : Int) < (nn : Int) := by omega
            obtain rfl : j = nn := by omega
            have hl := HL.out
            rw [Nat.sub_self] at hl
            have hst := HFI.out.start
            obtain ⟨hst1, hst2⟩ := hst
            have hs2 := HS2.out
            obtain ⟨q, hq⟩ : ∃ q : Nat, m.start = (q : Int) := ⟨m.start.toNat, by omega⟩
            have hqn : (q : Int) < (m.next.length : Int) := by omega
            have hqw : q < ws.length := by omega
            have d0 := (HG.out.cell q).trans (u64Cs_getD hqw)
            have x1 := X.out.cell 1
            have HZ2 : Hid (A.count m j = (ws.getD q 0, 0)) := show _ = _ by
              rw [HZ.out, Int.toNat_natCast, hl, hq]; rfl
            rw [hq] at x1
            generalize ws.getD q 0 = y at *
            clear hl hs2 hst1 hst2 hq hb2 hb3 hqw
            go_wp2_with fail
            refine bodyPost_ret (v := .tuple #[.int .u64 y, .int .i64 0]) (by simp [results, Try.results17, go_sem]) rfl ⟨by rw [HZ2.out], F.out⟩
  · have hb : (vm != 0) = true := by rw [bne_iff_ne]; exact hv
    have HZ : Hid (A.count m n = (0, 1)) := show _ = _ by rw [HX.out, if_neg (fun h => hv h.1)]
    clear hv
    go_wp2_with fail
    refine bodyPost_ret (v := .tuple #[.int .u64 0, .int .i64 1]) (by simp [results, Try.results17, go_sem]) rfl ⟨by rw [HZ.out], HF1.out⟩
end Go.Proofs.Ytmoniecknimmdaa
end
section
namespace Go.Proofs.Ytmoniecknimmdaa
open Go.RowKit
set_option maxRecDepth 100000 in
set_option maxHeartbeats 4000000 in
/-- Relate's closure, its machines in boxes ab and bb. -/
theorem relate1_any {w : World} {P Q : Nat → Prop} {a b : A.Mac} {ab bb : Nat} {A1 A2 B1 B2 : Option Addr} {c1 c2 d1 d2 : Nat} (hA : Blk w ab 25 (macC a A1 c1 A2 c2)) (hB : Blk w bb 25 (macC b B1 d1 B2 d2)) (h : MachAt w P (macV a A1 c1 A2 c2) a) (h' : MachAt w Q (macV b B1 d1 B2 d2) b) (ht : A.Two a b) (p : A.Pr) (k : Int) (hp : A.InP a b p) (h0 : 0 ≤ k) (hk : k < a.letters) :
    Calls Try.prog 29 #[pairV p, .int .i64 k, .pointer (some ⟨ab, 0, none⟩), .pointer (some ⟨bb, 0, none⟩)] w fun e w' => e = .returned (pairV (A.leadP a b p k)) ∧ Frm (fun _ => False) w w' := by
  obtain ⟨p1, p2⟩ := p
  have HF0 : Hid (Frm (fun _ => False) w ((w.alloc (.cells #[.int .i64 p1, .int .i64 p2] 50)).alloc (.cells #[.int .i64 0, .int .i64 0] 50))) := ((Frm.refl _ w).alloc _).alloc _
  have hA2 := HF0.out.blk hA id
  have hB2 := HF0.out.blk hB id
  have q0 := ((Blk.new w 50 #[.int .i64 p1, .int .i64 p2]).alloc (.cells #[.int .i64 0, .int .i64 0] 50)).cell 0
  have q1 := ((Blk.new w 50 #[.int .i64 p1, .int .i64 p2]).alloc (.cells #[.int .i64 0, .int .i64 0] 50)).cell 1
  have HR : Hid (Blk ((w.alloc (.cells #[.int .i64 p1, .int .i64 p2] 50)).alloc (.cells #[.int .i64 0, .int .i64 0] 50)) (w.heap.size + 1) 50 #[.int .i64 0, .int .i64 0]) := blk_at (by simp)
  have e0 := hA2.cell 0
  have e1 := hA2.cell 1
  have e2 := hA2.cell 2
  have e3 := hA2.cell 3
  have g0 := hB2.cell 0
  have g1 := hB2.cell 1
  have g2 := hB2.cell 2
  have g3 := hB2.cell 3
  simp only [macC] at e0 e1 e2 e3 g0 g1 g2 g3
  have HM := Lib.hid (h.keep0 HF0.out)
  have HM' := Lib.hid (h'.keep0 HF0.out)
  have HT := Lib.hid ht
  have HP := Lib.hid hp
  clear h h' ht hp hA hB hA2 hB2
  simp only [pairV]
  go_enter Try.func29, Try.ntmps29
  go_wp2_with fail
  clear e0 e1 e2 e3 g0 g1 g2 g3 q0 q1
  refine (leadPair_any HM.out HM'.out HT.out (p1, p2) k HP.out h0 hk).mono ?_
  rintro _ w2 ⟨rfl, f2⟩
  have HF2 := Lib.hid (HF0.out.trans f2)
  have HR2 := Lib.hid (f2.blk HR.out id)
  have r0 := HR2.out.cell 0
  have r1 := HR2.out.cell 1
  have s0 := HR2.out.frozen 0
  have s1 := HR2.out.frozen 1
  generalize hq : A.leadP a b (p1, p2) k = q
  obtain ⟨qa, qb⟩ := q
  have HQ := Lib.hid hq
  clear hq
  simp only [pairV]
  clear f2
  go_wp2_with fail
  have FZ := Frm.set2 (w := w2) (w.heap.size + 1) (.int .i64 qa) (.int .i64 qb)
  have HRF := Lib.hid ((HR2.out.set_ 0 (.int .i64 qa)).set_ 1 (.int .i64 qb))
  have d0 := HRF.out.cell 0
  have d1 := HRF.out.cell 1
  refine bodyPost_ret (v := pairV (qa, qb)) (by simp [results, Try.results29, go_sem, pairV, r0, r1]) rfl ⟨by first | rfl | (rw [HQ.out]; rfl) | rw [HQ.out], ?_⟩
  exact Frm.mono (E := fun b => b = w.heap.size + 1) ((HF2.out.mono fun _ _ h => h.elim).trans FZ) fun b hb h => by omega
end Go.Proofs.Ytmoniecknimmdaa
end
section
namespace Go.Proofs.Ytmoniecknimmdaa
open Go.RowKit
def updF {α : Type} (f : Nat → α) (i : Nat) (x : α) : Nat → α := fun k => if k = i then x else f k
theorem updF_same {α : Type} (f : Nat → α) (i : Nat) (x : α) : updF f i x i = x := by simp [updF]
theorem updF_other {α : Type} (f : Nat → α) {i k : Nat} (x : α) (h : k ≠ i) : updF f i x k = f k := by simp [updF, h]
def cellsOf (n : Nat) (vf : Nat → Value) : Array Value := ((List.range n).map vf).toArray
theorem cellsOf_get {n : Nat} (vf : Nat → Value) {i : Nat} (hi : i < n) : (cellsOf n vf)[i]? = some (vf i) := by simp [cellsOf, hi]
theorem cellsOf_set {n : Nat} (vf : Nat → Value) (i : Nat) (v : Value) : (cellsOf n vf).setIfInBounds i v = cellsOf n (updF vf i v) := by
  apply Array.toList_inj.1
  simp only [cellsOf, Array.toList_setIfInBounds]
  apply List.ext_getElem
  · simp
  · intro k h1 h2
    simp only [List.length_set, List.length_map, List.length_range] at h1
    simp only [List.getElem_set, List.getElem_map, List.getElem_range, updF]
    by_cases h : i = k
    · subst h; simp
    · rw [if_neg h, if_neg (fun e => h e.symm)]
structure GT where
  oty : TypeId
  e : TypeId
  sz : Nat
/-- The outer block ob of n slices vf, whose rows hold the cells cf, ln elements each; all lie in S. -/
structure Grp (T : GT) (w : World) (S : Nat → Prop) (ob n : Nat) (vf : Nat → Value) (ln : Nat → Nat) (cf : Nat → List Value) : Prop where
  out : Blk w ob T.oty (cellsOf n vf)
  so : S ob
  own : ∀ i, i < n → w.ownsRow 0 T.e T.sz (vf i) (ln i) (cf i)
  lie : ∀ i, i < n → ∀ g, (vf i).ownBlock = some g → S g ∧ g ≠ ob
  dis : ∀ i j, i < n → j < n → i ≠ j → ∀ g, (vf i).ownBlock = some g → (vf j).ownBlock ≠ some g
section
variable {T : GT} {w w' : World} {S S' E : Nat → Prop} {ob n : Nat} {vf : Nat → Value} {ln : Nat → Nat} {cf : Nat → List Value}
theorem Grp.mono (h : Grp T w S ob n vf ln cf) (hS : ∀ b, b < w.heap.size → S b → S' b) : Grp T w S' ob n vf ln cf :=
  ⟨h.out, hS _ h.out.lt h.so, h.own, fun i hi g hg => ⟨hS _ ((h.own i hi).lt g hg).2 (h.lie i hi g hg).1, (h.lie i hi g hg).2⟩, h.dis⟩
theorem Grp.frm (h : Grp T w S ob n vf ln cf) (F : Frm E w w') (hE : ∀ b, b < w.heap.size → S b → ¬ E b) : Grp T w' S ob n vf ln cf :=
  ⟨F.blk h.out (hE _ h.out.lt h.so), h.so, fun i hi => F.row (h.own i hi) (fun g hg => hE g ((h.own i hi).lt g hg).2 (h.lie i hi g hg).1) (Nat.le_refl _), h.lie, h.dis⟩
theorem Grp.frm0 (h : Grp T w S ob n vf ln cf) (F : Frm (fun _ => False) w w') : Grp T w' S ob n vf ln cf := h.frm F fun _ _ _ => id
theorem Grp.congr {ln' : Nat → Nat} {cf' : Nat → List Value} (h : Grp T w S ob n vf ln cf) (h1 : ∀ i, i < n → ln' i = ln i) (h2 : ∀ i, i < n → cf' i = cf i) : Grp T w S ob n vf ln' cf' :=
  ⟨h.out, h.so, fun i hi => by rw [h1 i hi, h2 i hi]; exact h.own i hi, h.lie, h.dis⟩
/-- The slice at i: its form, its cell in the outer block. -/
theorem Grp.slot (h : Grp T w S ob n vf ln cf) {i : Nat} (hi : i < n) : ∃ A c, vf i = .slice A (ln i) c ∧ w.cell? ⟨ob, i, none⟩ = some (.slice A (ln i) c) ∧ w.frozen? ⟨ob, i, none⟩ = false ∧ (0 < ln i → ∃ g, A = some ⟨g, 0, none⟩) ∧ (ln i ≤ c) := by
  obtain ⟨A, c, e⟩ := own_form (h.own i hi)
  refine ⟨A, c, e, by rw [h.out.cell i, cellsOf_get vf hi, e], h.out.frozen i, fun hp => ?_, ?_⟩
  · obtain ⟨g, cap, e'⟩ := (h.own i hi).form hp
    obtain ⟨e', _⟩ := e'
    rw [e] at e'
    injection e' with e1
    exact ⟨g, e1⟩
  · rcases (h.own i hi).2 with ⟨e', hn⟩ | ⟨g, cap, cur, e', _, _, hle, _⟩
    · omega
    · rw [e] at e'
      injection e' with e1 e2 e3
      omega
/-- A cell of the row i. -/
theorem Grp.cell (h : Grp T w S ob n vf ln cf) {i : Nat} (hi : i < n) {g c : Nat} (e : vf i = .slice (some ⟨g, 0, none⟩) (ln i) c) {j : Nat} {u : Value} (hj : (cf i)[j]? = some u) : w.cell? ⟨g, j, none⟩ = some u ∧ w.frozen? ⟨g, j, none⟩ = false ∧ S g ∧ g ≠ ob ∧ g < w.heap.size := by
  have ho := h.own i hi
  have hb : (vf i).ownBlock = some g := by rw [e]; rfl
  have hc := ho.cells hb j u hj
  rw [add_zero_off] at hc
  have hlt := (ho.lt g hb).2
  refine ⟨hc, ?_, (h.lie i hi g hb).1, (h.lie i hi g hb).2, hlt⟩
  rcases ho.2 with ⟨e', _⟩ | ⟨g', cap, cur, e', _, hx, _⟩
  · rw [e] at e'; cases e'
  · rw [e] at e'
    injection e' with e1
    injection e1 with e1
    injection e1 with e1
    subst e1
    exact Blk.frozen (cs := cur) hx j
/-- A store into the row i. -/
theorem Grp.store (h : Grp T w S ob n vf ln cf) {i : Nat} (hi : i < n) {g c : Nat} (e : vf i = .slice (some ⟨g, 0, none⟩) (ln i) c) {j : Nat} (hj : j < (cf i).length) (u : Value) : Grp T (w.setCell ⟨g, j, none⟩ u) S ob n vf ln (updF cf i ((cf i).set j u)) := by
  have hb : (vf i).ownBlock = some g := by rw [e]; rfl
  have hne := (h.lie i hi g hb).2
  refine ⟨h.out.far (fun e => hne e.symm) u, h.so, fun k hk => ?_, h.lie, h.dis⟩
  by_cases hki : k = i
  · subst hki
    rw [updF_same]
    have ho := h.own k hk
    rcases ho.2 with ⟨e', _⟩ | ⟨g', cap, cur, e', hbase, hx, h1, h2, h3, h4⟩
    · rw [e] at e'; cases e'
    · rw [e] at e'
      injection e' with e1 e2 e3
      injection e1 with e1
      injection e1 with e1
      subst e1
      have hx' : Blk w g T.e cur := hx
      refine ⟨by rw [List.length_set]; exact ho.1, .inr ⟨g, c, cur.setIfInBounds j u, e, hbase, hx'.set_ j u, by omega, by omega, by rw [Array.size_setIfInBounds, h3, e3], ?_⟩⟩
      rw [Array.toList_setIfInBounds, List.take_set, h4]
  · rw [updF_other _ _ hki]
    have ho := h.own k hk
    have hd := h.dis i k hi hk (fun e => hki e.symm) g hb
    refine ⟨ho.1, ho.2.imp id fun ⟨g', cap, cur, e', hbase, hx, h1⟩ => ⟨g', cap, cur, e', hbase, ?_, h1⟩⟩
    have hg' : g' ≠ g := fun e2 => hd (by rw [e', ← e2]; rfl)
    exact Blk.far (cs := cur) hx hg' u
/-- The slice at i replaced by v', which owns its own row in the world w1 that an append left. -/
theorem Grp.put (h : Grp T w S ob n vf ln cf) {i : Nat} (hi : i < n) {w1 : World} {v' : Value} {m : Nat} {xs : List Value} (hg : w.grownBy w1 (vf i).ownBlock) (ho : w1.ownsRow 0 T.e T.sz v' m xs) (hl : v'.ownBlock = (vf i).ownBlock ∨ ∀ g, v'.ownBlock = some g → w.heap.size ≤ g) :
    Grp T (w1.setCell ⟨ob, i, none⟩ v') (fun b => S b ∨ w.heap.size ≤ b) ob n (updF vf i v') (updF ln i m) (updF cf i xs) := by
  have hnew : ∀ g, v'.ownBlock = some g → (vf i).ownBlock = some g ∨ w.heap.size ≤ g := fun g hgv => by
    rcases hl with hl | hl
    · exact .inl (by rw [← hl]; exact hgv)
    · exact .inr (hl g hgv)
  have hobne : ∀ g, v'.ownBlock = some g → g ≠ ob := fun g hgv => by
    rcases hnew g hgv with h1 | h1
    · exact (h.lie i hi g h1).2
    · have := h.out.lt; omega
  have hobrow : some ob ≠ (vf i).ownBlock := fun e => (h.lie i hi ob e.symm).2 rfl
  have hout : Blk w1 ob T.oty (cellsOf n vf) := h.out.grown hg hobrow
  have hrow : ∀ {v : Value} {k : Nat} {ys : List Value}, w1.ownsRow 0 T.e T.sz v k ys → (∀ g, v.ownBlock = some g → g ≠ ob) → (w1.setCell ⟨ob, i, none⟩ v').ownsRow 0 T.e T.sz v k ys := fun {v k ys} h1 h2 =>
    ⟨h1.1, h1.2.imp id fun ⟨g', cap, cur, e', hbase, hx, h3⟩ => ⟨g', cap, cur, e', hbase, Blk.far (cs := cur) hx (h2 g' (by rw [e']; rfl)) v', h3⟩⟩
  refine ⟨by rw [← cellsOf_set vf i]; exact hout.set_ i v', .inl h.so, fun k hk => ?_, fun k hk g hgk => ?_, fun k j hk hj hne g hgk => ?_⟩
  · by_cases hki : k = i
    · subst hki
      simp only [updF_same]
      exact hrow ho hobne
    · simp only [updF_other _ _ hki]
      have h1 := h.own k hk
      refine hrow (h1.kept hg ?_) fun g hgk => (h.lie k hk g hgk).2
      cases hv : (vf k).ownBlock with
      | none => exact .inl rfl
      | some g => exact .inr fun e => h.dis k i hk hi hki g hv e.symm
  · by_cases hki : k = i
    · subst hki
      rw [updF_same] at hgk
      refine ⟨?_, hobne g hgk⟩
      rcases hnew g hgk with h1 | h1
      · exact .inl (h.lie k hk g h1).1
      · exact .inr h1
    · rw [updF_other _ _ hki] at hgk
      exact ⟨.inl (h.lie k hk g hgk).1, (h.lie k hk g hgk).2⟩
  · by_cases hki : k = i
    · subst hki
      rw [updF_same] at hgk
      rw [updF_other _ _ (fun e => hne e.symm)]
      rcases hnew g hgk with h1 | h1
      · exact h.dis k j hk hj hne g h1
      · intro e
        have := ((h.own j hj).lt g e).2
        omega
    · rw [updF_other _ _ hki] at hgk
      by_cases hji : j = i
      · subst hji
        rw [updF_same]
        intro e
        rcases hnew g e with h1 | h1
        · exact h.dis k j hk hj hne g hgk h1
        · have := ((h.own k hk).lt g hgk).2
          omega
      · rw [updF_other _ _ hji]
        exact h.dis k j hk hj hne g hgk
theorem Grp.drew (h : Grp T w S ob n vf ln cf) : Grp T w.drew S ob n vf ln cf := ⟨h.out.drew, h.so, h.own, h.lie, h.dis⟩
/-- What an append to row i and the store behind it do to the frame. -/
theorem Grp.put_frm (h : Grp T w S ob n vf ln cf) {i : Nat} (hi : i < n) {w1 : World} {v' : Value} (hg : w.grownBy w1 (vf i).ownBlock) : Frm S w (w1.setCell ⟨ob, i, none⟩ v') :=
  ((Frm.refl S w).grown hg fun g e _ => (h.lie i hi g e.symm.symm).1).set_ (fun _ => h.so) v'
theorem Grp.store_frm (h : Grp T w S ob n vf ln cf) {i : Nat} (hi : i < n) {g c : Nat} (e : vf i = .slice (some ⟨g, 0, none⟩) (ln i) c) (j : Nat) (u : Value) : Frm S w (w.setCell ⟨g, j, none⟩ u) :=
  (Frm.refl S w).set_ (fun _ => (h.lie i hi g (by rw [e]; rfl)).1) u
end
end Go.Proofs.Ytmoniecknimmdaa
end
