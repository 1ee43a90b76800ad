/- LangNone: what is asked of no piece; the pieces that Read gives. Contracts of the program's functions, with no condition beyond what each theorem states. -/
import Derived.Test.YtpdbkdcdlafobaaGreatDoorC26
import Derived.Test.YtpdbkdcdlafobaaGreatDoorC30
section
namespace Go.Proofs.YtpdbkdcdlafobaaGreatDoor
open Go.RowKit
theorem L.read_cases (l : L.Bytes) : (∃ P, L.readText l = (0, some P)) ∨ (∃ e, e ≠ 0 ∧ L.readText l = (e, none)) := by
  unfold L.readText
  split
  · exact .inr ⟨2, by omega, rfl⟩
  · split
    · rename_i h
      exact .inr ⟨_, h, rfl⟩
    · unfold L.newPiece
      split
      · exact .inr ⟨5, by omega, rfl⟩
      · exact .inl ⟨_, rfl⟩
theorem text_none {w : World} {v : Value} (h : Pv w v none) : Calls Tryz.prog 10 #[v] w fun e w' => e = .returned (.string ⟨#[]⟩) ∧ Frm (fun _ => False) w w' :=
  text_any h fun P hP => by cases hP
theorem nodes_none {w : World} {v : Value} (h : Pv w v none) : Calls Tryz.prog 7 #[v] w fun e w' => (∃ A c, e = .returned (.slice A 0 c)) ∧ Frm (fun _ => False) w w' := by
  refine (nodes_acc h fun P hP => by cases hP).mono ?_
  rintro e w' ⟨⟨v', cs, rfl, ho, -⟩, f⟩
  obtain ⟨A, c, rfl⟩ := own_form ho
  exact ⟨⟨A, c, rfl⟩, f⟩
theorem decls_none {w : World} {v : Value} (h : Pv w v none) : Calls Tryz.prog 11 #[v] w fun e w' => (∃ A c, e = .returned (.slice A 0 c)) ∧ Frm (fun _ => False) w w' := by
  refine (decls_acc h (by simp [declsOf]) fun d hd => by simp [declsOf] at hd).mono ?_
  rintro e w' ⟨⟨v', rfl, cs, ho, -⟩, f⟩
  obtain ⟨A, c, rfl⟩ := own_form ho
  exact ⟨⟨A, c, rfl⟩, f⟩
theorem type_none {w : World} {v : Value} (h : Pv w v none) : Calls Tryz.prog 12 #[v] w fun e w' => e = .returned (.int .i64 0) ∧ w = w' := type_any h
theorem fill_none {w : World} {v1 v2 : Value} {o1 o2 : Option L.Piece} (h1 : Pv w v1 o1) (h2 : Pv w v2 o2) (h : o1 = none ∨ o2 = none) : Calls Tryz.prog 9 #[v1, v2] w fun e w' => e = .returned (.tuple #[.pointer none, .int .i64 1]) ∧ Frm (fun _ => False) w w' := by
  refine (fill_bad h1 h2 h).mono ?_
  rintro e w' ⟨f, v, rfl, rfl⟩
  exact ⟨rfl, f⟩
set_option maxRecDepth 100000 in
set_option maxHeartbeats 8000000 in
theorem none_walk : NoneP.Walk := by
  intro a0 hsz w
  obtain ⟨l, rfl⟩ : ∃ l, a0 = str l := ⟨bs a0, (str_bs a0).symm⟩
  have HC := Lib.hid (L.read_cases l)
  go_enter Tryz.func4, Tryz.ntmps4
  go_wp2_with fail
  have hread : Calls Tryz.prog 5 #[.string (str l)] w fun r w' => ∃ (a : Option Addr) (e : Int) (o : Option L.Piece), r = .returned (.tuple #[.pointer a, .int .i64 e]) ∧ L.readText l = (e, o) ∧ Pv w' (.pointer a) o ∧ (o = none ↔ e ≠ 0) ∧ (o = none → a = none) ∧ Frm (fun _ => False) w w' := by
    rcases HC.out with ⟨P, h⟩ | ⟨e, he, h⟩
    · refine (read_yes h w).mono ?_
      rintro r w' ⟨p, rfl, hp, f⟩
      exact ⟨_, _, some P, rfl, h, ⟨p, rfl, hp⟩, by simp, (fun h => by cases h), f⟩
    · refine (read_not h w).mono ?_
      rintro r w' ⟨rfl, f⟩
      exact ⟨_, _, none, rfl, h, .inl rfl, by simp [he], fun _ => rfl, f⟩
  refine hread.mono ?_
  rintro _ w1 ⟨a, e, o, rfl, hr, hv, hoe, hoa, f1⟩
  have HR := Lib.hid hr
  have HV := Lib.hid hv
  have HOE := Lib.hid hoe
  have F1 := Lib.hid f1
  clear hread hr hv hoe hoa f1 HC
  have bx := (Blk.new w1 36 #[.slice none 0 0, .int .i64 0, .nilIface]).alloc (.cells #[.pointer none, .pointer (some ⟨w1.heap.size, 0, none⟩)] 22)
  have by' := blk_at (w := w1.alloc (.cells #[.slice none 0 0, .int .i64 0, .nilIface] 36)) (t := 22) (cs := #[.pointer none, .pointer (some ⟨w1.heap.size, 0, none⟩)]) (n := w1.heap.size + 1) (by simp)
  have BX := Lib.hid bx
  have BY := Lib.hid by'
  clear bx by'
  go_wp2_with fail
  go_loopg [6] 3 (fun n i wr => ∃ k : Nat, k ≤ 2 ∧ n = 3 - k ∧ i = .int .i64 (k : Int) ∧ Hid (Blk wr w1.heap.size 36 #[.slice none 0 0, .int .i64 0, .nilIface]) ∧ Hid (Blk wr (w1.heap.size + 1) 22 #[.pointer none, .pointer (some ⟨w1.heap.size, 0, none⟩)]) ∧ Hid (Frm (fun _ => False) w1 wr))
  case atStart => exact ⟨0, by omega, rfl, rfl, BX, BY, ((Frm.refl _ w1).alloc _).alloc _⟩
  case round =>
    obtain ⟨k, hk, rfl, rfl, X, Y, F⟩ := hrel
    by_cases hlt : k < 2
    · have hlt' : (k : Int) < 2 := by omega
      obtain ⟨qa, hqc, hq⟩ : ∃ qa, wr.cell? ⟨w1.heap.size + 1, k, none⟩ = some (.pointer qa) ∧ Pv wr (.pointer qa) none := by
        rcases (show k = 0 ∨ k = 1 by omega) with rfl | rfl
        · exact ⟨_, Y.out.cell 0, .inl rfl⟩
        · exact ⟨_, Y.out.cell 1, .inr ⟨_, rfl, X.out⟩⟩
      have HQ := Lib.hid hq
      have HVr := Lib.hid (HV.out.keep F.out)
      clear hq
      go_wp2_with fail
      refine (fill_none HQ.out HVr.out (.inl rfl)).mono ?_
      rintro _ x1 ⟨rfl, f1⟩
      have G1 := Lib.hid (F.out.trans f1)
      have X1 := Lib.hid (f1.blk X.out id)
      have Y1 := Lib.hid (f1.blk Y.out id)
      have Q1 := Lib.hid (HQ.out.keep f1)
      have V1 := Lib.hid (HVr.out.keep f1)
      clear f1 hqc
      go_wp2_with fail
      refine (fill_none V1.out Q1.out (.inr rfl)).mono ?_
      rintro _ x2 ⟨rfl, f2⟩
      have G2 := Lib.hid (G1.out.trans f2)
      have X2 := Lib.hid (f2.blk X1.out id)
      have Y2 := Lib.hid (f2.blk Y1.out id)
      have Q2 := Lib.hid (Q1.out.keep f2)
      clear f2
      go_wp2_with fail
      refine (text_none Q2.out).mono ?_
      rintro _ x3 ⟨rfl, f3⟩
      have G3 := Lib.hid (G2.out.trans f3)
      have X3 := Lib.hid (f3.blk X2.out id)
      have Y3 := Lib.hid (f3.blk Y2.out id)
      have Q3 := Lib.hid (Q2.out.keep f3)
      clear f3
      go_wp2_with fail
      refine (nodes_none Q3.out).mono ?_
      rintro _ x4 ⟨⟨A4, c4, rfl⟩, f4⟩
      have G4 := Lib.hid (G3.out.trans f4)
      have X4 := Lib.hid (f4.blk X3.out id)
      have Y4 := Lib.hid (f4.blk Y3.out id)
      have Q4 := Lib.hid (Q3.out.keep f4)
      clear f4
      go_wp2_with fail
      refine (decls_none Q4.out).mono ?_
      rintro _ x5 ⟨⟨A5, c5, rfl⟩, f5⟩
      have G5 := Lib.hid (G4.out.trans f5)
      have X5 := Lib.hid (f5.blk X4.out id)
      have Y5 := Lib.hid (f5.blk Y4.out id)
      have Q5 := Lib.hid (Q4.out.keep f5)
      clear f5
      go_wp2_with fail
      refine (type_none Q5.out).mono ?_
      rintro _ x6 ⟨rfl, rfl⟩
      go_wp2_with fail
      go_roundg (3 - (k + 1))
      case measure => omega
      case rel => exact ⟨k + 1, by omega, rfl, by go_num, X5, Y5, G5⟩
    · have hlt' : ¬ (k : Int) < 2 := by omega
      have F2 := Lib.hid (F1.out.trans F.out)
      have HV2 := Lib.hid (HV.out.keep F.out)
      cases o with
      | none =>
        have he : e ≠ 0 := HOE.out.1 rfl
        go_wp2_with fail
        refine (awake_any _).mono ?_
        rintro _ x1 ⟨rfl, f1⟩
        have G1 := Lib.hid (F2.out.trans f1)
        clear f1
        go_wp2_with fail
        go_ret
        exact ⟨rfl, G1.out⟩
      | some P =>
        have he : e = 0 := by
          rcases Int.decEq e 0 with h | h
          · exact absurd (HOE.out.2 h) (by simp)
          · exact h
        subst he
        have fp := L.readText_fit HR.out
        obtain ⟨p, hp, hpc⟩ := HV2.out
        injection hp with hp
        subst hp
        have PC := Lib.hid hpc
        clear hpc
        go_wp2_with fail
        refine (text_at PC.out fp).mono ?_
        rintro _ y1 ⟨rfl, g1⟩
        have G1 := Lib.hid (F2.out.trans g1)
        have PC1 := Lib.hid (PC.out.keep g1)
        clear g1
        go_wp2_with fail
        refine (nodes_at PC1.out fp (L.nodeList_len fp).symm).mono ?_
        rintro _ y2 ⟨Al, cl, csl, rfl, hol, hdl, g2⟩
        have Z2 := Lib.hid g2
        have PC2 := Lib.hid (PC1.out.keep g2)
        have HOL2 := Lib.hid hol
        have HDL2 := Lib.hid hdl
        clear g2 hol hdl
        go_wp2_with fail
        refine (decls_at PC2.out fp rfl).mono ?_
        rintro _ y3 ⟨Ad, cd, rfl, hdd, g3⟩
        have Z3 := Lib.hid g3
        have HDD3 := Lib.hid hdd
        have HOL3 := Lib.hid (g3.row HOL2.out (fun _ _ h => h) (Nat.le_refl _))
        have HDL3 := Lib.hid (Nds.keep (B' := fun b => y1.heap.size ≤ b) (g3.same fun _ _ _ => id) (fun b hb _ => hb) HDL2.out)
        clear g3 hdd
        have hbd := fp.bd
        have hnl : (L.nodeList P.root).length ≤ 600 := by rw [L.nodeList_len fp]; exact fp.nodes
        have HBD := Lib.hid hbd
        have HNL := Lib.hid hnl
        clear hbd hnl
        go_wp2_with fail
        refine (kept_any HOL3.out HDL3.out (by have := HNL.out; omega) (fun d hd => (HBD.out d hd).1) (fun d hd => (HBD.out d hd).2)).mono ?_
        rintro _ y4 ⟨va, csa, rfl, hoa, hda, g4⟩
        obtain ⟨Aa, ca, rfl⟩ := own_form hoa
        have Z4 := Lib.hid g4
        have HOA4 := Lib.hid hoa
        have HDA4 := Lib.hid hda
        clear g4 hoa hda
        go_wp2_with fail
        refine (declared_any (HDD3.out.keep (Nat.le_refl _) fun b _ hl => Z4.out.2 b hl id) (by have := fp.decls; omega) (fun d hd => by have := fp.args d hd; omega)).mono ?_
        rintro _ y5 ⟨vb, rfl, hdb, g5⟩
        obtain ⟨Ab, cb, rfl⟩ : ∃ A c, vb = .slice A P.decls.length c := by
          obtain ⟨cs, ho, _⟩ := hdb
          exact own_form ho
        have Z5 := Lib.hid g5
        have HDB5 := Lib.hid hdb
        clear g5 hdb
        go_wp2_with fail
        have PCK := Lib.hid (PC1.out)
        have HOL5 := Lib.hid ((Z4.out.trans Z5.out).row HOL3.out (fun _ _ h => h) (Nat.le_refl _))
        have HDL5 := Lib.hid (Nds.keep (B' := fun b => y1.heap.size ≤ b) ((Z4.out.trans Z5.out).same fun _ _ _ => id) (fun b hb _ => hb) HDL3.out)
        obtain ⟨Al', cl', hAl, hAc⟩ := nds_form HOL5.out
        injection hAl with e1 _ e2
        subst e1 e2
        have HAC := Lib.hid hAc
        have hs12 := Z2.out.1
        have hs23 := Z3.out.1
        have hs34 := Z4.out.1
        have hs45 := Z5.out.1
        clear hAc
        obtain ⟨gl, hgl⟩ : ∃ gl, ∀ j, j < (L.nodeList P.root).length * 7 → Al = some ⟨gl, 0, none⟩ := by
          cases Al with
          | none => exact ⟨0, fun j hj => by
              obtain ⟨g, hg, _⟩ := HAC.out j _ (List.getElem?_eq_getElem (by rw [HOL5.out.1]; exact hj))
              cases hg⟩
          | some a => exact ⟨a.block, fun j hj => by
              obtain ⟨g, hg, _⟩ := HAC.out j _ (List.getElem?_eq_getElem (by rw [HOL5.out.1]; exact hj))
              injection hg with hg
              subst hg; rfl⟩
        have HGL := Lib.hid hgl
        clear hgl
        go_loopg [17] ((L.nodeList P.root).length + 1) (fun n i wr => ∃ k : Nat, k ≤ (L.nodeList P.root).length ∧ n = (L.nodeList P.root).length + 1 - k ∧ i = .int .i64 (k : Int) ∧ Hid (Ow (fun b => y1.heap.size ≤ b ∧ b < y2.heap.size) gl (fun j => j % 7 = 4 ∨ j % 7 = 6) y5 wr))
        case atStart => exact ⟨0, Nat.zero_le _, rfl, rfl, Ow.refl _ _ _ _⟩
        case round =>
          obtain ⟨k, hk, rfl, rfl, HW⟩ := hrel
          by_cases hlt : k < (L.nodeList P.root).length
          · have hlt' : (k : Int) < ((L.nodeList P.root).length : Int) := by omega
            obtain ⟨pv, kv, -, -, -, -, p4, -, p6, q1, b1, q2, b2⟩ := HDL2.out.at_ hlt
            have hgl := HGL.out (k * 7) (by omega)
            subst hgl
            obtain ⟨_, hg4, hc4⟩ := HAC.out _ _ p4
            injection hg4 with hg4; injection hg4 with hg4; subst hg4
            obtain ⟨_, hg6, hc6⟩ := HAC.out _ _ p6
            injection hg6 with hg6; injection hg6 with hg6; subst hg6
            obtain ⟨Ap, cp, rfl⟩ := own_form q1
            obtain ⟨Ak, ck, rfl⟩ := own_form q2
            have hbd := HBD.out _ (List.getElem_mem hlt)
            generalize (L.nodeList P.root)[k] = d at *
            have Z25 : Frm (fun _ => False) y2 y5 := (Z3.out.trans Z4.out).trans Z5.out
            have Q1 := Lib.hid (Z25.row q1 (fun _ _ h => h) (Nat.le_refl _))
            have Q2 := Lib.hid (Z25.row q2 (fun _ _ h => h) (Nat.le_refl _))
            have P1 := Lib.hid (fun g hg => And.intro (b1 g hg) (World.ownsRow.lt q1 g hg).2)
            have P2 := Lib.hid (fun g hg => And.intro (b2 g hg) (World.ownsRow.lt q2 g hg).2)
            have HC4 := Lib.hid hc4
            have HC6 := Lib.hid hc6
            have hgl2 := (World.ownsRow.lt HOL2.out gl rfl).2
            obtain ⟨A0, c0, hA0, hrow⟩ := HW.out.row HOL5.out
            injection hA0 with e1 _ e2
            subst e1 e2
            obtain ⟨b0, u0, hb0, hlo0, -, ⟨curN, hBN⟩, hx0, hz0⟩ := hrow (k * 7) (by omega)
            injection hb0 with hb0; injection hb0 with hb0; subst hb0
            have HBN := Lib.hid hBN
            have HW1 := Lib.hid (HW.out.set_ (b := gl) (i := k * 7) (.int .i64 2) (fun _ => ⟨hlo0, hgl2⟩) (.inr (by omega)))
            clear p4 p6 q1 b1 q2 b2 hc4 hc6 Z25 hrow hBN HW
            go_wp2_with fail
            go_loopg [18] (d.kids.length + 1) (fun n i wr => ∃ j : Nat, j ≤ d.kids.length ∧ n = d.kids.length + 1 - j ∧ i = .int .i64 (j : Int) ∧ Hid (Ow (fun b => y1.heap.size ≤ b ∧ b < y2.heap.size) gl (fun j => j % 7 = 4 ∨ j % 7 = 6) y5 wr))
            case atStart => exact ⟨0, Nat.zero_le _, rfl, rfl, HW1⟩
            case round =>
              obtain ⟨j, hj, rfl, rfl, HW⟩ := hrel
              have x6 := (HW.out.nc (k * 7 + 6) (.inr (by omega))).trans HC6.out
              by_cases hltj : j < d.kids.length
              · have hltj' : (j : Int) < (d.kids.length : Int) := by omega
                obtain ⟨A0, c0, hA0, hrow⟩ := HW.out.row Q2.out
                injection hA0 with e1 _ e2
                subst e1 e2
                obtain ⟨b, u, hb, -, -, ⟨cur, hB⟩, hx, hz⟩ := hrow j (by omega)
                subst hb
                have hbE := P2.out b rfl
                have hne := blk_ne hB HBN.out (by decide)
                have HW2 := Lib.hid (HW.out.set_ (b := b) (i := j) (.int .i64 0) (fun _ => hbE) (.inl hne))
                clear hrow hB hne hbE HW
                go_wp2_with fail
                go_roundg (d.kids.length + 1 - (j + 1))
                case measure => omega
                case rel => exact ⟨j + 1, by omega, rfl, by go_num, HW2⟩
              · have hltj' : ¬ (j : Int) < (d.kids.length : Int) := by omega
                go_wp2_with fail
                clear x6
                go_loopg [19] (d.params.length + 1) (fun n i wr => ∃ j : Nat, j ≤ d.params.length ∧ n = d.params.length + 1 - j ∧ i = .int .i64 (j : Int) ∧ Hid (Ow (fun b => y1.heap.size ≤ b ∧ b < y2.heap.size) gl (fun j => j % 7 = 4 ∨ j % 7 = 6) y5 wr))
                case atStart => exact ⟨0, Nat.zero_le _, rfl, rfl, HW⟩
                case round =>
                  obtain ⟨i, hi, rfl, rfl, HW⟩ := hrel
                  have x4 := (HW.out.nc (k * 7 + 4) (.inl (by omega))).trans HC4.out
                  by_cases hlti : i < d.params.length
                  · have hlti' : (i : Int) < (d.params.length : Int) := by omega
                    obtain ⟨A0, c0, hA0, hrow⟩ := HW.out.row Q1.out
                    injection hA0 with e1 _ e2
                    subst e1 e2
                    obtain ⟨b, u, hb, -, -, ⟨cur, hB⟩, hx, hz⟩ := hrow (i * 2) (by omega)
                    subst hb
                    have hbE := P1.out b rfl
                    have hne := blk_ne hB HBN.out (by decide)
                    have HW2 := Lib.hid (HW.out.set_ (b := b) (i := i * 2) (.string ⟨#[122, 122]⟩) (fun _ => hbE) (.inl hne))
                    clear hrow hB hne hbE HW
                    go_wp2_with fail
                    go_roundg (d.params.length + 1 - (i + 1))
                    case measure => omega
                    case rel => exact ⟨i + 1, by omega, rfl, by go_num, HW2⟩
                  · have hlti' : ¬ (i : Int) < (d.params.length : Int) := by omega
                    have hnl6 := HNL.out
                    go_wp2_with fail
                    go_roundg ((L.nodeList P.root).length + 1 - (k + 1))
                    case measure => omega
                    case rel => exact ⟨k + 1, by omega, rfl, by go_num, HW⟩
          · have hlt' : ¬ (k : Int) < ((L.nodeList P.root).length : Int) := by omega
            go_wp2_with fail
            clear hlt' hlt hk
            obtain ⟨csd, hod, hdd⟩ := HDD3.out
            have Z35 : Frm (fun _ => False) y3 y5 := Z4.out.trans Z5.out
            have hod5 := Z35.row hod (fun _ _ h => h) (Nat.le_refl _)
            have hod6 : wr.ownsRow y2.heap.size 52 3 (.slice Ad P.decls.length cd) P.decls.length csd := HW.out.fr.row hod5 (fun g hg h => by have := own_ge hod g hg; omega) (Nat.le_refl _)
            have DE5 : Decls wr y4.heap.size (.slice Ab P.decls.length cb) P.decls := HDB5.out.keep (Nat.le_refl _) fun b hb hl => HW.out.fr.2 b hl fun h => by omega
            have RA5 := HW.out.fr.row (Z5.out.row HOA4.out (fun _ _ h => h) (Nat.le_refl _)) (fun g hg h => by have := own_ge HOA4.out g hg; omega) (Nat.le_refl _)
            have NA5 : Nds wr (fun b => y3.heap.size ≤ b) (L.nodeList P.root) csa := Nds.keep (B := fun b => y3.heap.size ≤ b) (HW.out.fr.same fun b hb _ h => by have hb : y3.heap.size ≤ b := hb; have h := h.2; omega) (fun b hb _ => hb) (Nds.keep (B' := fun b => y3.heap.size ≤ b) (Z5.out.same fun _ _ _ => id) (fun b hb _ => hb) HDA4.out)
            have FY : Frm (fun b => y1.heap.size ≤ b) y1 wr := ((((Z2.out.trans Z3.out).trans Z4.out).trans Z5.out).mono fun _ _ h => h.elim).trans (HW.out.fr.mono fun b _ h => h.1)
            obtain ⟨gd, hgd⟩ := row_block hod
            have hargs : ∀ (j : Nat) (hj : j < P.decls.length), ∃ Aa ca, csd[j * 3 + 1]? = some (.slice Aa P.decls[j].args.length ca) ∧ wr.ownsRow y2.heap.size 32 1 (.slice Aa P.decls[j].args.length ca) P.decls[j].args.length (ints P.decls[j].args) ∧ ∀ g, (Value.slice Aa P.decls[j].args.length ca).ownBlock = some g → y2.heap.size ≤ g ∧ g < y3.heap.size := by
              intro j hj
              obtain ⟨a, _, p1, _, ha⟩ := hdd.at_ hj
              obtain ⟨Aa, ca, rfl, _⟩ := ha.form
              refine ⟨Aa, ca, p1, HW.out.fr.row (Z35.row ha (fun _ _ h => h) (Nat.le_refl _)) (fun g hg h => by have := own_ge ha g hg; omega) (Nat.le_refl _), fun g hg => ⟨own_ge ha g hg, (World.ownsRow.lt ha g hg).2⟩⟩
            obtain ⟨A6, c6, hA6, hAc6⟩ := row_form hod6
            injection hA6 with e1 _ e2
            subst e1 e2
            have HOD := Lib.hid hod
            have HOD6 := Lib.hid hod6
            have HDE := Lib.hid DE5
            have HRA := Lib.hid RA5
            have HNA := Lib.hid NA5
            have HFY := Lib.hid FY
            have HGD := Lib.hid hgd
            have HAR := Lib.hid hargs
            have HAC6 := Lib.hid hAc6
            have hdl4 := fp.decls
            clear hod hdd Z35 hod5 hod6 DE5 RA5 NA5 FY hgd hargs hAc6
            obtain ⟨y6, hy6⟩ : ∃ y6, y6 = wr := ⟨_, rfl⟩
            rw [← hy6] at HOD6 HDE HRA HNA HFY HAR HAC6 HW
            rw [← hy6]
            have hs56 : y5.heap.size ≤ y6.heap.size := HW.out.fr.1
            clear hy6 HW
            go_loopg [20] (P.decls.length + 1) (fun n i wr => ∃ k : Nat, k ≤ P.decls.length ∧ n = P.decls.length + 1 - k ∧ i = .int .i64 (k : Int) ∧ Hid (Ow (fun b => y2.heap.size ≤ b ∧ b < y3.heap.size) gd (fun j => j % 3 = 1) y6 wr))
            case atStart => exact ⟨0, Nat.zero_le _, rfl, rfl, Ow.refl _ _ _ _⟩
            case round =>
              obtain ⟨k, hk, rfl, rfl, HW⟩ := hrel
              by_cases hlt : k < P.decls.length
              · have hlt' : (k : Int) < (P.decls.length : Int) := by omega
                obtain ⟨Ak, ck, p1, q1, b1⟩ := HAR.out k hlt
                have hgd := HGD.out (k * 3) (by omega)
                subst hgd
                obtain ⟨_, hg1, hc1⟩ := HAC6.out _ _ p1
                injection hg1 with hg1; injection hg1 with hg1; subst hg1
                have hal := fp.args _ (List.getElem_mem hlt)
                generalize P.decls[k] = d at *
                have Q1 := Lib.hid q1
                have P1 := Lib.hid b1
                have HC1 := Lib.hid hc1
                have hgd2 := (World.ownsRow.lt HOD.out gd rfl).2
                obtain ⟨A0, c0, hA0, hrow⟩ := HW.out.row HOD6.out
                injection hA0 with e1 _ e2
                subst e1 e2
                obtain ⟨b0, u0, hb0, hlo0, -, ⟨curN, hBN⟩, hx0, hz0⟩ := hrow (k * 3) (by omega)
                injection hb0 with hb0; injection hb0 with hb0; subst hb0
                have HBN := Lib.hid hBN
                have HW1 := Lib.hid (HW.out.set_ (b := gd) (i := k * 3) (.string ⟨#[122, 122]⟩) (fun _ => ⟨hlo0, hgd2⟩) (.inr (by omega)))
                clear p1 q1 b1 hc1 hrow hBN HW
                go_wp2_with fail
                go_loopg [21] (d.args.length + 1) (fun n i wr => ∃ j : Nat, j ≤ d.args.length ∧ n = d.args.length + 1 - j ∧ i = .int .i64 (j : Int) ∧ Hid (Ow (fun b => y2.heap.size ≤ b ∧ b < y3.heap.size) gd (fun j => j % 3 = 1) y6 wr))
                case atStart => exact ⟨0, Nat.zero_le _, rfl, rfl, HW1⟩
                case round =>
                  obtain ⟨j, hj, rfl, rfl, HW⟩ := hrel
                  have x1 := (HW.out.nc (k * 3 + 1) (by omega)).trans HC1.out
                  by_cases hltj : j < d.args.length
                  · have hltj' : (j : Int) < (d.args.length : Int) := by omega
                    obtain ⟨A0, c0, hA0, hrow⟩ := HW.out.row Q1.out
                    injection hA0 with e1 _ e2
                    subst e1 e2
                    obtain ⟨b, u, hb, -, -, ⟨cur, hB⟩, hx, hz⟩ := hrow j (by omega)
                    subst hb
                    have hbE := P1.out b rfl
                    have hne := blk_ne hB HBN.out (by decide)
                    have HW2 := Lib.hid (HW.out.set_ (b := b) (i := j) (.int .i64 5) (fun _ => hbE) (.inl hne))
                    clear hrow hB hne hbE HW
                    go_wp2_with fail
                    go_roundg (d.args.length + 1 - (j + 1))
                    case measure => omega
                    case rel => exact ⟨j + 1, by omega, rfl, by go_num, HW2⟩
                  · have hltj' : ¬ (j : Int) < (d.args.length : Int) := by omega
                    go_wp2_with fail
                    go_roundg (P.decls.length + 1 - (k + 1))
                    case measure => omega
                    case rel => exact ⟨k + 1, by omega, rfl, by go_num, HW⟩
              · have hlt' : ¬ (k : Int) < (P.decls.length : Int) := by omega
                have FT : Frm (fun _ => False) y1 wr := Frm.mono (E := fun b => y1.heap.size ≤ b) (HFY.out.trans (HW.out.fr.mono fun b _ h => Nat.le_trans hs12 h.1)) fun b hb h => by omega
                have PC7 := Lib.hid (PC1.out.keep FT)
                have HF7 := Lib.hid (G1.out.trans FT)
                have HRA7 := Lib.hid (HW.out.fr.row HRA.out (fun g hg h => by have := own_ge HRA.out g hg; omega) (Nat.le_refl _))
                have HNA7 : Hid (Nds wr (fun b => y3.heap.size ≤ b) (L.nodeList P.root) csa) := Nds.keep (B := fun b => y3.heap.size ≤ b) (HW.out.fr.same fun b hb _ h => by have hb : y3.heap.size ≤ b := hb; have h := h.2; omega) (fun b hb _ => hb) HNA.out
                have HDE7 : Hid (Decls wr y4.heap.size (.slice Ab P.decls.length cb) P.decls) := HDE.out.keep (Nat.le_refl _) fun b hb hl => HW.out.fr.2 b hl fun h => by have h := h.2; omega
                clear FT HW
                go_wp2_with fail
                refine (text_at PC7.out fp).mono ?_
                rintro _ z1 ⟨rfl, g1⟩
                have HF8 := Lib.hid (HF7.out.trans g1)
                have PC8 := Lib.hid (PC7.out.keep g1)
                have HRA8 := Lib.hid (g1.row HRA7.out (fun _ _ h => h) (Nat.le_refl _))
                have HNA8 := Lib.hid (Nds.keep (B' := fun b => y3.heap.size ≤ b) (g1.same fun _ _ _ => id) (fun b hb _ => hb) HNA7.out)
                have HDE8 := Lib.hid (HDE7.out.keep (Nat.le_refl _) fun b _ hl => g1.2 b hl id)
                clear g1
                go_wp2_with fail
                refine (nodes_at PC8.out fp (L.nodeList_len fp).symm).mono ?_
                rintro _ z2 ⟨Az, cz, csz, rfl, hoz, hdz, g2⟩
                have HF9 := Lib.hid (HF8.out.trans g2)
                have PC9 := Lib.hid (PC8.out.keep g2)
                have HRA9 := Lib.hid (g2.row HRA8.out (fun _ _ h => h) (Nat.le_refl _))
                have HNA9 := Lib.hid (Nds.keep (B' := fun b => y3.heap.size ≤ b) (g2.same fun _ _ _ => id) (fun b hb _ => hb) HNA8.out)
                have HDE9 := Lib.hid (HDE8.out.keep (Nat.le_refl _) fun b _ hl => g2.2 b hl id)
                have HOZ := Lib.hid hoz
                have HDZ := Lib.hid hdz
                clear g2 hoz hdz
                go_wp2_with fail
                refine (same_nodes HOZ.out HDZ.out HRA9.out HNA9.out (by have := HNL.out; omega) (fun d hd => (HBD.out d hd).1) (fun d hd => (HBD.out d hd).2)).mono ?_
                rintro _ z3 ⟨rfl, g3⟩
                have HF10 := Lib.hid (HF9.out.trans g3)
                have PC10 := Lib.hid (PC9.out.keep g3)
                have HDE10 := Lib.hid (HDE9.out.keep (Nat.le_refl _) fun b _ hl => g3.2 b hl id)
                clear g3
                go_wp2_with fail
                refine (decls_at PC10.out fp rfl).mono ?_
                rintro _ z4 ⟨Aw, cw, rfl, hdw, g4⟩
                have HF11 := Lib.hid (HF10.out.trans g4)
                have HDE11 := Lib.hid (HDE10.out.keep (Nat.le_refl _) fun b _ hl => g4.2 b hl id)
                have HDW := Lib.hid hdw
                clear g4 hdw
                go_wp2_with fail
                refine (same_decls HDW.out HDE11.out (by omega) (fun d hd => by have := fp.args d hd; omega)).mono ?_
                rintro _ z5 ⟨rfl, g5⟩
                have HF12 := Lib.hid (HF11.out.trans g5)
                clear g5
                go_wp2_with fail
                refine (awake_any _).mono ?_
                rintro _ z6 ⟨rfl, g6⟩
                have HF13 := Lib.hid (HF12.out.trans g6)
                clear g6
                go_wp2_with fail
                go_ret
                exact ⟨rfl, HF13.out⟩
theorem langNone_holds : Rows.LangNoneCardSaid := NoneP.card_of none_walk
end Go.Proofs.YtpdbkdcdlafobaaGreatDoor
end
