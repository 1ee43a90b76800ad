/- fits, wrongAround; the visit of Fill. The visit of Fill. Fill's search for the hole: Fill$1, slices.IndexFunc at declarations. slices.Grow at a nil slice of declarations; slices.Concat at two. slices.Concat at two slices of declarations. Fill: the plain function; the hole's binding in the reader's list. The contract of Fill. Contracts of the program's functions, with no condition beyond what each theorem states. -/
import Derived.Test.YtpdbkdcdlafobaaGreatDoorC23
import Derived.StillTailTactics
import Derived.Lib.AppendZerosOnto
import Derived.Shelf.Spec.SlicesGrow
import Derived.Test.YtpdbkdcdlafobaaGreatDoorC18
section
namespace Go.Proofs.YtpdbkdcdlafobaaGreatDoor
namespace L
def fits (b : Bnd) (d : Decl) : Bool := !decide (b.sort = 3) && !decide (b.sort = 4) && decide (b.result = d.result) && (b.args == d.args)
/-- What is wrong with what binds the names that a piece declares. -/
def wrongAround (bs : List Bnd) : List Decl → Int
  | [] => 0
  | d :: ds => match look bs d.name with
    | none => 3
    | some b => if b.sort = 5 then 3 else if fits b d then wrongAround bs ds else 4
end L
open Go.RowKit
set_option maxRecDepth 100000 in
set_option maxHeartbeats 2000000 in
theorem fits_any {w : World} {b : L.Bnd} {d : L.Decl} {A2 Ad : Option Addr} {c2 cd : Nat} (hb : Tys w 0 (.slice A2 b.args.length c2) b.args) (hd : Tys w 0 (.slice Ad d.args.length cd) d.args) :
    Calls Tryz.prog 50 #[.agg #[.int .i64 b.sort, .string (str b.name), .slice A2 b.args.length c2, .int .i64 b.result], .agg #[.string (str d.name), .slice Ad d.args.length cd, .int .i64 d.result]] w fun e w' => e = .returned (.bool (L.fits b d)) ∧ Frm (fun _ => False) w w' := by
  have F := ((Frm.refl (fun _ => False) w).alloc (.cells #[.int .i64 b.sort, .string (str b.name), .slice A2 b.args.length c2, .int .i64 b.result] 67)).alloc (.cells #[.string (str d.name), .slice Ad d.args.length cd, .int .i64 d.result] 52)
  have HB := Lib.hid (F.row hb (fun _ _ h => h) (Nat.le_refl _))
  have HD := Lib.hid (F.row hd (fun _ _ h => h) (Nat.le_refl _))
  have HF := Lib.hid F
  have HX : Hid (L.fits b d = (!decide (b.sort = 3) && !decide (b.sort = 4) && decide (b.result = d.result) && (b.args == d.args))) := rfl
  clear hb hd F
  obtain ⟨bs, bn, ba, br⟩ := b
  obtain ⟨dn, da, dr⟩ := d
  dsimp only at HX HB HD HF ⊢
  go_enter Tryz.func50, Tryz.ntmps50
  by_cases h1 : bs = 3
  · have HV : Hid (L.fits ⟨bs, bn, ba, br⟩ ⟨dn, da, dr⟩ = false) := show _ = _ by rw [HX.out]; simp [h1]
    subst h1
    go_wp2_with fail
    go_ret
    exact ⟨by rw [HV.out]; rfl, HF.out⟩
  by_cases h2 : bs = 4
  · have HV : Hid (L.fits ⟨bs, bn, ba, br⟩ ⟨dn, da, dr⟩ = false) := show _ = _ by rw [HX.out]; simp [h2]
    subst h2
    go_wp2_with fail
    go_ret
    exact ⟨by rw [HV.out]; rfl, HF.out⟩
  by_cases h3 : br = dr
  · have HV : Hid (L.fits ⟨bs, bn, ba, br⟩ ⟨dn, da, dr⟩ = (ba == da)) := show _ = _ by rw [HX.out]; simp [h1, h2, h3]
    subst h3
    have b1 : (bs != 3) = true := by simpa using h1
    have b2 : (bs != 4) = true := by simpa using h2
    go_wp2_with fail
    refine (equal_any HB.out HD.out).mono ?_
    rintro _ w1 ⟨rfl, f1⟩
    generalize (ba == da) = q at *
    clear HX
    cases q
    · go_wp2_with fail
      go_ret
      exact ⟨by rw [HV.out]; rfl, HF.out.trans f1⟩
    · go_wp2_with fail
      go_ret
      exact ⟨by rw [HV.out]; rfl, HF.out.trans f1⟩
  · have HV : Hid (L.fits ⟨bs, bn, ba, br⟩ ⟨dn, da, dr⟩ = false) := show _ = _ by rw [HX.out]; simp [h3]
    go_wp2_with fail
    go_ret
    exact ⟨by rw [HV.out]; rfl, HF.out⟩
set_option maxRecDepth 100000 in
set_option maxHeartbeats 2000000 in
theorem wrongAround_any {w : World} {R : Nat} {lo : Nat → Prop} {bs : List L.Bnd} {vis : Value} (h : RdAt w R lo bs vis) (hm : bs.length ≤ 1000000) {p : Nat} {P : L.Piece} (hp : PcAt w p P) (hn : P.decls.length ≤ 1000) :
    Calls Tryz.prog 27 #[.pointer (some ⟨R, 0, none⟩), .pointer (some ⟨p, 0, none⟩)] w fun e w' => e = .returned (.int .i64 (L.wrongAround bs P.decls)) ∧ Frm (fun _ => False) w w' := by
  obtain ⟨dv, rv, hb, hd, hr⟩ := hp
  obtain ⟨T, x, rfl⟩ := Rep.form hr
  obtain ⟨A, c, rfl⟩ : ∃ A c, dv = .slice A P.decls.length c := by obtain ⟨cs, ho, _⟩ := hd; exact own_form ho
  have HR := Lib.hid h
  have HD := Lib.hid hd
  have c0 := hb.cell 0
  clear h hd hb hr
  go_enter Tryz.func27, Tryz.ntmps27
  go_wp2_with fail
  go_loopg [14] (P.decls.length + 1) (fun n i wr => ∃ k : Nat, k ≤ P.decls.length ∧ n = P.decls.length + 1 - k ∧ i = .int .i64 k ∧ Hid (L.wrongAround bs P.decls = L.wrongAround bs (P.decls.drop k)) ∧ Hid (Frm (fun _ => False) w wr))
  case atStart => exact ⟨0, Nat.zero_le _, rfl, rfl, rfl, Frm.refl _ _⟩
  case round =>
    obtain ⟨k, hk, rfl, rfl, HK, HF⟩ := hrel
    by_cases hlt : k < P.decls.length
    · obtain ⟨Ad', c', hsl, hcs⟩ := dls_cells (HD.out.keep (Nat.le_refl _) fun b _ hl => HF.out.2 b hl id : Decls wr 0 _ P.decls)
      injection hsl with e1 _ e2
      subst e1 e2
      obtain ⟨g, Aa, ca, hg0, hca, hcb, hcc, hta⟩ := hcs k hlt
      subst hg0
      have HS : Hid (L.wrongAround bs (P.decls.drop k) = match L.look bs P.decls[k].name with | none => 3 | some b => if b.sort = 5 then 3 else if L.fits b P.decls[k] then L.wrongAround bs (P.decls.drop (k + 1)) else 4) := show _ = _ by
        rw [List.drop_eq_getElem_cons hlt, L.wrongAround]
      have HTA := Lib.hid hta
      clear hcs hta c0
      generalize P.decls[k] = d at *
      obtain ⟨nm, ats, r⟩ := d
      dsimp only at hca hcb hcc HTA HS
      have FB := (Frm.refl (fun _ => False) wr).alloc (.cells #[.string (str nm), .slice Aa ats.length ca, .int .i64 r] 52)
      have HRb := Lib.hid (HR.out.keep (HF.out.trans FB))
      have HTb := Lib.hid (FB.row HTA.out (fun _ _ h => h) (Nat.le_refl _))
      have BQ := Lib.hid (Blk.new wr 52 #[.string (str nm), .slice Aa ats.length ca, .int .i64 r])
      have HFb := Lib.hid (HF.out.trans FB)
      clear FB
      go_wp2_with fail
      refine (find_any HRb.out hm nm).mono ?_
      rintro e w1 ⟨f1, ⟨b, A2, c2, hl, hT, rfl⟩ | ⟨hl, rfl⟩⟩
      · have G1 := f1.alloc (.cells #[.int .i64 b.sort, .string (str b.name), .slice A2 b.args.length c2, .int .i64 b.result] 67)
        have BQ1 := G1.blk BQ.out id
        have y0 := BQ1.cell 0
        have y1 := BQ1.cell 1
        have y2 := BQ1.cell 2
        have HT1 := Lib.hid (G1.row HTb.out (fun _ _ h => h) (Nat.le_refl _))
        have HT2 := Lib.hid (G1.row hT (fun _ _ h => h) (Nat.le_refl _))
        have HF1 := Lib.hid (HFb.out.trans G1)
        rw [hl] at HS
        clear G1 BQ1 f1 hT hl hca hcb hcc
        by_cases h5 : b.sort = 5
        · have HG : Hid (L.wrongAround bs P.decls = 3) := show _ = _ by rw [HK.out, HS.out]; simp [h5]
          go_wp2_with fail
          go_ret
          exact ⟨by rw [HG.out]; rfl, by rw [← h5]; exact HF1.out⟩
        · go_wp2_with fail
          refine (fits_any (d := ⟨nm, ats, r⟩) HT2.out HT1.out).mono ?_
          rintro _ w2 ⟨rfl, f2⟩
          have HF2 := Lib.hid (HF1.out.trans f2)
          clear f2 y0 y1 y2
          cases hfi : L.fits b ⟨nm, ats, r⟩
          · have HG : Hid (L.wrongAround bs P.decls = 4) := show _ = _ by rw [HK.out, HS.out]; simp [h5, hfi]
            clear hfi
            go_wp2_with fail
            go_ret
            exact ⟨by rw [HG.out]; rfl, HF2.out⟩
          · have HG : Hid (L.wrongAround bs P.decls = L.wrongAround bs (P.decls.drop (k + 1))) := show _ = _ by rw [HK.out, HS.out]; simp [h5, hfi]
            clear hfi
            go_wp2_with fail
            go_roundg (P.decls.length + 1 - (k + 1))
            case measure => omega
            case rel => exact ⟨k + 1, by omega, rfl, by go_num, HG.out, HF2.out⟩
      · have HG : Hid (L.wrongAround bs P.decls = 3) := show _ = _ by rw [HK.out, HS.out, hl]
        have HF1 := Lib.hid (HFb.out.trans (f1.alloc (.cells #[.int .i64 0, .string ⟨#[]⟩, .slice none 0 0, .int .i64 0] 67)))
        clear hl f1 hca hcb hcc
        go_wp2_with fail
        go_ret
        exact ⟨by rw [HG.out]; rfl, HF1.out⟩
    · have ek : k = P.decls.length := by omega
      have HG : Hid (L.wrongAround bs P.decls = 0) := show _ = _ by rw [HK.out, ek, List.drop_length]; rfl
      clear c0
      go_wp2_with fail
      go_ret
      exact ⟨by rw [HG.out]; rfl, HF.out⟩
end Go.Proofs.YtpdbkdcdlafobaaGreatDoor
end
section
namespace Go.Proofs.YtpdbkdcdlafobaaGreatDoor
namespace L
def visFill (P : Piece) : Vst := fun bs t e => if isHole bs t then (if e = 0 then wrongAround bs P.decls else e, some P.root) else (e, none)
end L
open Go.RowKit
/-- A piece whose term lies below n0. -/
def PcIn (w : World) (n0 p : Nat) (P : L.Piece) : Prop := ∃ dv rv, Blk w p 36 #[dv, .int .i64 P.typ, rv] ∧ Decls w 0 dv P.decls ∧ Rep w (· < n0) P.root rv
theorem Decls.kt {w w' : World} {lo : Nat} {v : Value} {ds : List L.Decl} (h : Decls w lo v ds) (k : Kt w w') : Decls w' lo v ds := by
  obtain ⟨cs, ho, hd⟩ := h
  exact ⟨cs, (k.2 52 (by unfold Own3; decide)).row ho, hd.keep2 (k.2 _ (by unfold Own3; decide))⟩
theorem PcIn.kt {w w' : World} {n0 p : Nat} {P : L.Piece} (h : PcIn w n0 p P) (k : Kt w w') : PcIn w' n0 p P := by
  obtain ⟨dv, rv, hb, hd, hr⟩ := h
  exact ⟨dv, rv, (k.2 36 (by unfold Own3; decide) _ _ hb).trans hb, hd.kt k, hr.kt k⟩
theorem PcIn.at_ {w : World} {n0 p : Nat} {P : L.Piece} (h : PcIn w n0 p P) : PcAt w p P := by
  obtain ⟨dv, rv, hb, hd, hr⟩ := h
  exact ⟨dv, rv, hb, hd, hr.sub fun _ _ _ => trivial⟩
/-- What Fill's visit has captured. -/
def FInv (n0 R rb pb p : Nat) (P : L.Piece) (w : World) : Prop := RBox R rb w ∧ Blk w pb 22 #[.pointer (some ⟨p, 0, none⟩)] ∧ PcIn w n0 p P
theorem FInv.kt {n0 R rb pb p : Nat} {P : L.Piece} (w w' : World) (k : Kt w w') (h : FInv n0 R rb pb p P w) : FInv n0 R rb pb p P w' :=
  ⟨RBox.kt w w' k h.1, (k.2 22 (by unfold Own3; decide) _ _ h.2.1).trans h.2.1, h.2.2.kt k⟩
set_option maxRecDepth 100000 in
set_option maxHeartbeats 4000000 in
theorem fill2_vis (n0 R E rb pb p : Nat) (P : L.Piece) (hn : P.decls.length ≤ 1000) : Vis n0 R E 25 #[.pointer (some ⟨rb, 0, none⟩), .pointer (some ⟨E, 0, none⟩), .pointer (some ⟨pb, 0, none⟩)] (L.visFill P) (FInv n0 R rb pb p P) := by
  refine ⟨FInv.kt, fun x W => by kernel_rfl, ?_⟩
  intro w lo bs e t v hrs hinv hn0 hbs hrep _ hnd
  have HRS := Lib.hid hrs
  have HREP := Lib.hid hrep
  have HI := Lib.hid hinv
  obtain ⟨T, x, rfl⟩ := Rep.form hrep
  have hb := hinv.1.cell 0
  clear hrs hrep hinv
  refine Calls.mono (show Calls Tryz.prog 25 #[.iface T (.agg x), .pointer (some ⟨rb, 0, none⟩), .pointer (some ⟨E, 0, none⟩), .pointer (some ⟨pb, 0, none⟩)] w (VisPost n0 R E 25 #[.pointer (some ⟨rb, 0, none⟩), .pointer (some ⟨E, 0, none⟩), .pointer (some ⟨pb, 0, none⟩)] lo bs w (L.visFill P bs t e)) from ?_) fun _ _ h => h
  go_enter Tryz.func25, Tryz.ntmps25
  go_wp2_with fail
  refine (isHole_any HRS.out.rd hbs HREP.out).mono ?_
  rintro _ w1 ⟨rfl, f1⟩
  have HRS1 := Lib.hid (HRS.out.frm f1)
  have HK1 : Hid (Kp R E lo w w1) := Kp.frm f1
  have HI1 := Lib.hid (FInv.kt _ _ (Kt.frm f1) HI.out)
  have HVE : Hid (L.visFill P bs t e = if L.isHole bs t then (if e = 0 then L.wrongAround bs P.decls else e, some P.root) else (e, none)) := rfl
  clear f1 hb
  cases hh : L.isHole bs t
  · have HX : Hid (L.visFill P bs t e = (e, none)) := show _ = _ by rw [HVE.out, hh]; rfl
    clear hh
    go_wp2_with fail
    go_ret
    rw [HX.out]
    exact ⟨⟨_, rfl, rfl⟩, HRS1.out, HK1.out⟩
  · have he1 := HRS1.out.err.cell 0
    by_cases h0 : e = 0
    · subst h0
      have HX : Hid (L.visFill P bs t 0 = (L.wrongAround bs P.decls, some P.root)) := show _ = _ by rw [HVE.out, hh]; rfl
      have c1 : w1.drew.cell? ⟨rb, 0, none⟩ = some (.pointer (some ⟨R, 0, none⟩)) := HI1.out.1.cell 0
      have c2 : w1.drew.cell? ⟨pb, 0, none⟩ = some (.pointer (some ⟨p, 0, none⟩)) := HI1.out.2.1.cell 0
      have HRSd := Lib.hid (HRS1.out.frm (Frm0.drew _))
      have HPd := Lib.hid (HI1.out.2.2.at_.keep (Frm0.drew _))
      clear hh
      go_wp2_with fail
      go_still_tail 4, (by kernel_rfl)
      change wpList _ _ _ _ _ w1.drew
      go_wp2_with fail
      refine (wrongAround_any HRSd.out.rd hbs HPd.out hn).mono ?_
      rintro _ w2 ⟨rfl, f2⟩
      have HRS2 := Lib.hid (HRSd.out.frm f2)
      have HK2 : Hid (Kp R E lo w w2) := (HK1.out.trans (Kp.frm (Frm0.drew _))).trans (Kp.frm f2)
      have HI2 := Lib.hid (FInv.kt _ _ ((Kt.frm (Frm0.drew w1)).trans (Kt.frm f2)) HI1.out)
      have he2 := HRS2.out.err.cell 0
      have hz2 := HRS2.out.err.frozen 0
      obtain ⟨r1, r2⟩ := HRS2.out.set_ (L.wrongAround bs P.decls)
      have HRS3 := Lib.hid r1
      have HK3 := Lib.hid (HK2.out.trans r2)
      have HI3 := Lib.hid (FInv.kt _ _ r2.t HI2.out)
      have c3 := HI3.out.2.1.cell 0
      obtain ⟨dv, rv, hbp, -, hrp⟩ := HI3.out.2.2
      obtain ⟨T9, x9, rfl⟩ := Rep.form hrp
      have c4 := hbp.cell 2
      have HRP := Lib.hid hrp
      clear r1 r2 f2 c1 c2 he1 hbp hrp
      go_wp2_with fail
      go_ret
      rw [HX.out]
      exact ⟨⟨_, rfl, HRP.out⟩, HRS3.out, HK3.out⟩
    · have HX : Hid (L.visFill P bs t e = (e, some P.root)) := show _ = _ by rw [HVE.out, hh]; simp [h0]
      have c3 := HI1.out.2.1.cell 0
      obtain ⟨dv, rv, hbp, -, hrp⟩ := HI1.out.2.2
      obtain ⟨T9, x9, rfl⟩ := Rep.form hrp
      have c4 := hbp.cell 2
      have HRP := Lib.hid hrp
      clear hbp hrp hh
      go_wp2_with fail
      go_ret
      rw [HX.out]
      exact ⟨⟨_, rfl, HRP.out⟩, HRS1.out, HK1.out⟩
end Go.Proofs.YtpdbkdcdlafobaaGreatDoor
end
section
namespace Go.Proofs.YtpdbkdcdlafobaaGreatDoor
namespace L
def isHoleD (d : Decl) : Bool := decide (d.name = [104, 111, 108, 101]) && decide (d.args.length = 0)
/-- Where the hole is declared, from k on. -/
def holeFrom : Nat → List Decl → Int
  | _, [] => -1
  | k, d :: ds => if isHoleD d then (k : Int) else holeFrom (k + 1) ds
def holeAt (ds : List Decl) : Int := holeFrom 0 ds
end L
open Go.RowKit
set_option maxRecDepth 100000 in
theorem fill1_any (w : World) (d : L.Decl) (A : Option Addr) (c : Nat) :
    Calls Tryz.prog 23 (#[.agg #[.string (str d.name), .slice A d.args.length c, .int .i64 d.result]] ++ #[]) w fun e w' => e = .returned (.bool (L.isHoleD d)) ∧ Frm (fun _ => False) w w' := by
  show Calls Tryz.prog 23 #[.agg #[.string (str d.name), .slice A d.args.length c, .int .i64 d.result]] w _
  obtain ⟨nm, ats, r⟩ := d
  dsimp only
  have FB := (Frm.refl (fun _ => False) w).alloc (.cells #[.string (str nm), .slice A ats.length c, .int .i64 r] 52)
  have HF := Lib.hid FB
  have BQ := Blk.new w 52 #[.string (str nm), .slice A ats.length c, .int .i64 r]
  have b0 := BQ.cell 0
  have b1 := BQ.cell 1
  clear FB BQ
  go_enter Tryz.func23, Tryz.ntmps23
  by_cases hn : nm = [104, 111, 108, 101]
  · subst hn
    have HS : Hid (L.isHoleD ⟨[104, 111, 108, 101], ats, r⟩ = decide (ats.length = 0)) := show _ = _ by simp [L.isHoleD]
    go_wp2_with fail
    go_ret
    refine ⟨?_, HF.out⟩
    rw [HS.out]
    have e0 : ((ats.length : Int) == 0) = decide (ats.length = 0) := by rw [Bool.eq_iff_iff]; simp
    rw [← e0]
    rfl
  · have HS : Hid (L.isHoleD ⟨nm, ats, r⟩ = false) := show _ = _ by simp [L.isHoleD, hn]
    have hs : ¬ (str nm = ⟨#[104, 111, 108, 101]⟩) := fun h => hn (by have := congrArg (fun b => b.data.toList) h; simpa [str] using this)
    go_wp2_with fail
    go_ret
    refine ⟨?_, HF.out⟩
    rw [HS.out]
    rfl
set_option maxRecDepth 100000 in
set_option maxHeartbeats 1000000 in
theorem index_any {w : World} {v : Value} {ds : List L.Decl} (hd : Decls w 0 v ds) (hn : ds.length ≤ 1000) :
    Calls Tryz.prog 22 #[v, .func (.func 23) #[] #[]] w fun e w' => e = .returned (.int .i64 (L.holeAt ds)) ∧ Frm (fun _ => False) w w' := by
  obtain ⟨A, c, rfl⟩ : ∃ A c, v = .slice A ds.length c := by obtain ⟨cs, ho, _⟩ := hd; exact own_form ho
  have HD := Lib.hid hd
  clear hd
  go_enter Tryz.func22, Tryz.ntmps22
  go_wp2_with fail
  go_loopg [5, 8] (ds.length + 1) (fun n _ i wr => ∃ k : Nat, k ≤ ds.length ∧ n = ds.length + 1 - k ∧ i = .int .i64 k ∧ Hid (L.holeAt ds = L.holeFrom k (ds.drop k)) ∧ Hid (Frm (fun _ => False) w wr))
  case atStart => exact ⟨0, Nat.zero_le _, rfl, rfl, rfl, Frm.refl _ _⟩
  case round =>
    obtain ⟨k, hk, rfl, rfl, HK, HF⟩ := hrel
    by_cases hlt : k < ds.length
    · obtain ⟨Ad', c', hsl, hcs⟩ := dls_cells (HD.out.keep (Nat.le_refl _) fun b _ hl => HF.out.2 b hl id : Decls wr 0 _ ds)
      injection hsl with e1 _ e2
      subst e1 e2
      obtain ⟨g, Aa, ca, hg0, hca, hcb, hcc, hta⟩ := hcs k hlt
      subst hg0
      have HS : Hid (L.holeFrom k (ds.drop k) = if L.isHoleD ds[k] then (k : Int) else L.holeFrom (k + 1) (ds.drop (k + 1))) := show _ = _ by
        rw [List.drop_eq_getElem_cons hlt, L.holeFrom]
      clear hcs hta
      generalize ds[k] = d at *
      go_wp2_with fail
      refine (fill1_any _ d _ _).mono ?_
      rintro _ w1 ⟨rfl, f1⟩
      have HF1 := Lib.hid (HF.out.trans f1)
      cases hh : L.isHoleD d
      · have HG : Hid (L.holeAt ds = L.holeFrom (k + 1) (ds.drop (k + 1))) := show _ = _ by rw [HK.out, HS.out, hh]; simp
        clear hh f1 hca hcb hcc
        go_wp2_with fail
        go_roundg (ds.length + 1 - (k + 1))
        case measure => omega
        case rel => exact ⟨k + 1, by omega, rfl, by go_num, HG.out, HF1.out⟩
      · have HG : Hid (L.holeAt ds = k) := show _ = _ by rw [HK.out, HS.out, hh]; simp
        clear hh f1 hca hcb hcc
        go_wp2_with fail
        go_ret
        exact ⟨by rw [HG.out]; rfl, HF1.out⟩
    · have ek : k = ds.length := by omega
      have HG : Hid (L.holeAt ds = -1) := show _ = _ by rw [HK.out, ek, List.drop_length]; rfl
      go_wp2_with fail
      go_ret
      exact ⟨by rw [HG.out]; rfl, HF.out⟩
end Go.Proofs.YtpdbkdcdlafobaaGreatDoor
end
section
namespace Go.Proofs.YtpdbkdcdlafobaaGreatDoor
open Go.RowKit
set_option maxRecDepth 100000 in
set_option maxHeartbeats 1000000 in
theorem grow_any (w : World) (m : Nat) (hm : m ≤ 1000) :
    Calls Tryz.prog 55 #[.slice none 0 0, .int .i64 m] w fun e w' => ∃ v, e = .returned v ∧ w'.ownsRow w.heap.size 52 3 v 0 [] ∧ Frm (fun _ => False) w w' := by
  have h1 : ¬ ((m : Int) < 0) := by omega
  have h3 : wrap64 (m : Int) = (m : Int) := by unfold wrap64; omega
  by_cases h0 : m = 0
  · subst h0
    go_enter Tryz.func55, Tryz.ntmps55
    go_wp2_with fail
    go_ret
    exact ⟨_, rfl, World.ownsRow_nil _ _ _ _, Frm.refl _ _⟩
  · have h4 : (m : Int) > 0 := by omega
    obtain ⟨i0, hi, hz0, hz1, hz2⟩ := info_parts info_decl
    obtain ⟨G, hG⟩ : ∃ G, G = grownCap w (0 + m) 0 52 := ⟨_, rfl⟩
    have hGn : 0 + m ≤ G := by rw [hG]; exact grownCap_ge w _ _ _
    have hGm : G ≤ maxLen := by rw [hG]; exact grownCap_le_maxLen w _ _ _ (by unfold maxLen; omega)
    obtain ⟨W, hW⟩ : ∃ W, W = w.drew.alloc (.cells ((#[] : Array Value) ++ Builtin.zeroCells (#[.string ⟨#[]⟩, .slice none 0 0, .int .i64 0] : Array Value) m ++ Builtin.zeroCells #[.string ⟨#[]⟩, .slice none 0 0, .int .i64 0] (G - (0 + m))) 52) := ⟨_, rfl⟩
    have hrz : ∀ ty, (Builtin.append_ #[31, 3] ty #[.slice none 0 0, .int .i64 (m : Int)]).run Tryz.prog w = .ok (.slice (some ⟨w.heap.size, 0, none⟩) (0 + m) G) W := fun ty => by
      have h := Lib.run_append_grow_zeros w 31 3 ty 52 i0 _ .i64 .i64 Tryz.underlying31 Tryz.underlying3 hi hz0 none 0 0 [] (run_firstCells_none w.drew i0.size 0 0 0) m (by omega) (by omega) (by omega) (by omega) (by rw [hz2]; omega)
        (by rw [hz2]; exact growslice_fits (by omega) (by omega))
      rw [← hG] at h
      rw [hW]
      exact h
    have hGz : (G : Int) ≤ 9223372036854775807 := by unfold maxLen at hGm; omega
    have HO : Hid (W.ownsRow w.heap.size 52 3 (.slice (some ⟨w.heap.size, 0, none⟩) 0 G) 0 []) := by
      rw [hW]
      exact (show World.ownsRow _ _ _ _ _ _ _ from ⟨rfl, .inr ⟨w.heap.size, G, _, rfl, Nat.le_refl _, Blk.new w.drew _ _, Nat.zero_le _, hGm, by simp only [Array.size_append, size_zeroCells]; simp; omega, by simp⟩⟩)
    have HF : Hid (Frm (fun _ => False) w W) := by
      rw [hW]
      exact (show Frm _ _ _ from ((Frm.refl _ _).drew).alloc _)
    rw [Nat.zero_add] at hrz hGn
    clear hW
    clear hG hi hz0 hz1 hz2
    go_enter Tryz.func55, Tryz.ntmps55
    go_wp2_with (at_builtin; refine Lib.wpList_append_run _ rfl _ _ _ _ rfl _ _ rfl rfl _ _ (hrz _) ?_)
    all_goals (go_ret; exact ⟨_, rfl, HO.out, HF.out⟩)
end Go.Proofs.YtpdbkdcdlafobaaGreatDoor
end
section
namespace Go.Proofs.YtpdbkdcdlafobaaGreatDoor
open Go.RowKit
set_option maxRecDepth 100000 in
set_option maxHeartbeats 4000000 in
theorem concat_any (w : World) (b : Nat) (p q : Addr) (xs ys : List Value) (a c ca cc : Nat) (h0 : w.cell? ⟨b, 0, none⟩ = some (.slice (some p) a ca)) (h1 : w.cell? ⟨b, 1, none⟩ = some (.slice (some q) c cc))
    (hxl : xs.length = a * 3) (hyl : ys.length = c * 3) (hx : ∀ j u, xs[j]? = some u → w.cell? (p.add j) = some u) (hy : ∀ j u, ys[j]? = some u → w.cell? (q.add j) = some u)
    (h1x : ∀ u ∈ xs, u.oneCell' = true) (h1y : ∀ u ∈ ys, u.oneCell' = true) (hm : a + c ≤ 1000) :
    Calls Tryz.prog 29 #[.slice (some ⟨b, 0, none⟩) 2 2] w fun e w' => ∃ v, e = .returned v ∧ w'.ownsRow w.heap.size 52 3 v (a + c) (xs ++ ys) ∧ Frm (fun _ => False) w w' := by
  have HX := Lib.hid hx
  have HY := Lib.hid hy
  have HXL := Lib.hid hxl
  have HYL := Lib.hid hyl
  clear hx hy hxl hyl
  go_enter Tryz.func29, Tryz.ntmps29
  go_wp2_with fail
  go_loopg [3, 5, 11] 3 (fun n s3 _ i wr => ∃ k : Nat, n = 3 - k ∧ k ≤ 2 ∧ s3 = .int .i64 (if k = 0 then 0 else if k = 1 then a else (a + c : Nat) : Int) ∧ i = .int .i64 k ∧ wr = w)
  case atStart => exact ⟨0, rfl, by omega, rfl, rfl, rfl⟩
  case round =>
    obtain ⟨k, rfl, hk, rfl, rfl, rfl⟩ := hrel
    have hna : ¬ ((a : Int) < 0) := by omega
    have hnc : ¬ (((a + c : Nat) : Int) < 0) := by omega
    rcases (show k = 0 ∨ k = 1 ∨ k = 2 by omega) with rfl | rfl | rfl
    · go_wp2_with fail
      go_roundg 2
      case measure => omega
      case rel => exact ⟨1, rfl, by omega, by first | rfl | go_num, rfl, rfl⟩
    · simp only [if_neg (show ¬ (1 = 0) by omega), if_pos]
      go_wp2_with fail
      go_roundg 1
      case measure => omega
      case rel => exact ⟨2, rfl, by omega, by first | rfl | go_num, rfl, rfl⟩
    · simp only [if_neg (show ¬ (2 = 0) by omega), if_neg (show ¬ (2 = 1) by omega)]
      go_wp2_with fail
      obtain ⟨w0, hw0⟩ : ∃ w0, w0 = wr := ⟨_, rfl⟩
      subst hw0
      refine (grow_any w0 (a + c) hm).mono ?_
      rintro e w1 ⟨v0, rfl, hown, hf⟩
      have HO0 := Lib.hid hown
      have HF0 := Lib.hid hf
      clear hown hf
      go_wp2_with fail
      go_loopg [6, 8, 27] 3 (fun n s6 _ i W => ∃ k m : Nat, ∃ zs : List Value, n = 3 - k ∧ k ≤ 2 ∧ i = .int .i64 k ∧ Hid (k = 0 ∧ m = 0 ∧ zs = [] ∨ k = 1 ∧ m = a ∧ zs = xs ∨ k = 2 ∧ m = a + c ∧ zs = xs ++ ys) ∧ Hid (W.ownsRow w0.heap.size 52 3 s6 m zs) ∧ Hid (Frm (fun _ => False) w0 W))
      case atStart => exact ⟨0, 0, [], rfl, by omega, rfl, .inl ⟨rfl, rfl, rfl⟩, HO0, HF0⟩
      case round =>
        obtain ⟨k, m, zs, rfl, hk, rfl, HK, HO, HF⟩ := hrel
        have c0 := HF.out.cell id h0
        have c1 := HF.out.cell id h1
        rcases (show k = 0 ∨ k = 1 ∨ k = 2 by omega) with rfl | rfl | rfl
        · obtain ⟨hm', hz'⟩ : m = 0 ∧ zs = [] := (by rcases HK.out with h | h | h; exact h.2; exact absurd h.1 (by omega); exact absurd h.1 (by omega))
          rw [hm', hz'] at HO
          clear HK hm' hz'
          obtain ⟨i0, hi, hz0, hz1, hz2⟩ := info_parts info_decl
          go_wp2_with (at_builtin; refine wpList_append_own _ rfl _ _ 31 rfl w0.heap.size 52 i0 (.agg #[.string ⟨#[]⟩, .slice none 0 0, .int .i64 0]) 3 48 Tryz.underlying31 hi hz0 hz1 hz2 rfl (by decide) _ _ _ rfl HO.out p a ca xs rfl HXL.out ?c1 h1x ?c3 ?c4 HF.out.1 ?_)
          case c1 => exact fun j u hu => HF.out.cell id (HX.out j u hu)
          case c3 => unfold maxLen; omega
          case c4 => omega
          intro v' w4 hown4 hgrow4 _
          have HF4 := Lib.hid (HF.out.own HO.out hgrow4)
          have HO4 := Lib.hid hown4
          clear hown4 hgrow4 hi hz0 hz1 hz2 c0 c1
          go_wp2_with fail
          go_roundg (3 - 1)
          case measure => omega
          case rel => exact ⟨1, a, xs, rfl, by omega, by go_num, .inr (.inl ⟨rfl, rfl, rfl⟩), HO4.out, HF4.out⟩
        · obtain ⟨hm', hz'⟩ : m = a ∧ zs = xs := (by rcases HK.out with h | h | h; exact absurd h.1 (by omega); exact h.2; exact absurd h.1 (by omega))
          rw [hm', hz'] at HO
          clear HK hm' hz'
          obtain ⟨i0, hi, hz0, hz1, hz2⟩ := info_parts info_decl
          go_wp2_with (at_builtin; refine wpList_append_own _ rfl _ _ 31 rfl w0.heap.size 52 i0 (.agg #[.string ⟨#[]⟩, .slice none 0 0, .int .i64 0]) 3 48 Tryz.underlying31 hi hz0 hz1 hz2 rfl (by decide) _ _ _ rfl HO.out q c cc ys rfl HYL.out ?c1 h1y ?c3 ?c4 HF.out.1 ?_)
          case c1 => exact fun j u hu => HF.out.cell id (HY.out j u hu)
          case c3 => unfold maxLen; omega
          case c4 => omega
          intro v' w4 hown4 hgrow4 _
          have HF4 := Lib.hid (HF.out.own HO.out hgrow4)
          have HO4 := Lib.hid hown4
          clear hown4 hgrow4 hi hz0 hz1 hz2 c0 c1
          go_wp2_with fail
          go_roundg (3 - 2)
          case measure => omega
          case rel => exact ⟨2, _, _, rfl, by omega, by go_num, .inr (.inr ⟨rfl, rfl, rfl⟩), HO4.out, HF4.out⟩
        · obtain ⟨hm', hz'⟩ : m = a + c ∧ zs = xs ++ ys := (by rcases HK.out with h | h | h; exact absurd h.1 (by omega); exact absurd h.1 (by omega); exact h.2)
          rw [hm', hz'] at HO
          clear HK hm' hz'
          clear c0 c1
          go_wp2_with fail
          go_ret
          exact ⟨_, rfl, HO.out, HF.out⟩
end Go.Proofs.YtpdbkdcdlafobaaGreatDoor
end
section
namespace Go.Proofs.YtpdbkdcdlafobaaGreatDoor
namespace L
/-- The bindings, the one at k made the hole. -/
def holed (k : Nat) (bs : List Bnd) : List Bnd := bs.modify k fun b => { b with sort := 5 }
def fill (C P : Piece) : Int × Option Piece :=
  if holeAt C.decls < 0 then (6, none)
  else if (C.decls.getD (holeAt C.decls).toNat default).result ≠ P.typ then (4, none)
  else if (rd (visFill P) (holed (holeAt C.decls).toNat (C.decls.map ofDecl)) C.root 0).2 ≠ 0 then ((rd (visFill P) (holed (holeAt C.decls).toNat (C.decls.map ofDecl)) C.root 0).2, none)
  else newPiece (C.decls.take (holeAt C.decls).toNat ++ C.decls.drop ((holeAt C.decls).toNat + 1)) C.typ (rd (visFill P) (holed (holeAt C.decls).toNat (C.decls.map ofDecl)) C.root 0).1
theorem holeFrom_lt : ∀ (ds : List Decl) (k : Nat), holeFrom k ds = -1 ∨ ∃ j : Nat, holeFrom k ds = j ∧ k ≤ j ∧ j < k + ds.length
  | [], _ => .inl rfl
  | d :: ds, k => by
    unfold holeFrom
    cases isHoleD d
    · rcases holeFrom_lt ds (k + 1) with h | ⟨j, h, h1, h2⟩
      · exact .inl (by simpa using h)
      · exact .inr ⟨j, by simpa using h, by omega, by simp; omega⟩
    · exact .inr ⟨k, rfl, Nat.le_refl _, by simp⟩
theorem holeAt_lt (ds : List Decl) : holeAt ds = -1 ∨ ∃ j : Nat, holeAt ds = j ∧ j < ds.length := by
  rcases holeFrom_lt ds 0 with h | ⟨j, h, _, h2⟩
  · exact .inl h
  · exact .inr ⟨j, h, by omega⟩
end L
open Go.RowKit
theorem Bds.hole {w : World} : ∀ (k : Nat) {bs : List L.Bnd} {cs : List Value}, Bds w bs cs → Bds w (L.holed k bs) (if k < bs.length then cs.set (k * 4) (.int .i64 5) else cs)
  | _, [], _, h => by simpa [L.holed] using h
  | 0, b :: bs, _, ⟨a, cs', h1, h2, h3⟩ => by
    subst h1
    exact ⟨a, cs', rfl, h2, h3⟩
  | k + 1, b :: bs, _, ⟨a, cs', h1, h2, h3⟩ => by
    subst h1
    have ih := Bds.hole k h3
    rw [show (k + 1) * 4 = k * 4 + 1 + 1 + 1 + 1 from by omega]
    refine ⟨a, if k < bs.length then cs'.set (k * 4) (.int .i64 5) else cs', ?_, h2, ih⟩
    by_cases h : k < bs.length <;> simp [h, List.set]
theorem L.holed_length (k : Nat) (bs : List L.Bnd) : (L.holed k bs).length = bs.length := by simp [L.holed]
/-- The store of the hole's sort. -/
theorem RdAt.hole {w : World} {R : Nat} {lo : Nat → Prop} {bs : List L.Bnd} {vis : Value} (h : RdAt w R lo bs vis) {k : Nat} (hk : k < bs.length) :
    ∃ g c, lo g ∧ g ≠ R ∧ Blk w R 72 #[.slice (some ⟨g, 0, none⟩) bs.length c, vis] ∧ bs.length ≤ c ∧ (∃ u, w.cell? ⟨g, k * 4, none⟩ = some u) ∧ w.frozen? ⟨g, k * 4, none⟩ = false ∧
      RdAt (w.setCell ⟨g, k * 4, none⟩ (.int .i64 5)) R lo (L.holed k bs) vis ∧ Frm (· = g) w (w.setCell ⟨g, k * 4, none⟩ (.int .i64 5)) := by
  obtain ⟨v, hb, hR, hlo, cs, ho, hl, hB⟩ := h
  rcases ho.2 with ⟨rfl, hz⟩ | ⟨g, cap, cur, rfl, hgb, hgx, hncap, hcapm, hcs, htk⟩
  · omega
  have hgR : g ≠ R := fun e => hR (e ▸ hl g rfl)
  have hsz : k * 4 < cur.size := by omega
  have hBk : Blk w g 67 cur := hgx
  have F : Frm (· = g) w (w.setCell ⟨g, k * 4, none⟩ (.int .i64 5)) := (Frm.refl (· = g) w).set_ (p := ⟨g, k * 4, none⟩) (fun _ => rfl) _
  have hlen := hB.len
  refine ⟨g, cap, hl g rfl, hgR, hb, hncap, ⟨_, (ho.cellAt (k * 4) (by omega)).trans (List.getElem?_eq_getElem (by omega))⟩, ho.frozenAt _, ⟨_, F.blk hb (fun e => hgR e.symm), hR, fun b hb => hlo b (Nat.le_trans F.1 hb), cs.set (k * 4) (.int .i64 5), ?_, hl, ?_⟩, F⟩
  · rw [L.holed_length]
    refine ⟨by simpa using ho.1, .inr ⟨g, cap, _, rfl, hgb, hBk.set_ (k * 4) (.int .i64 5), hncap, hcapm, by simpa using hcs, ?_⟩⟩
    rw [← htk]
    simp [List.take_set]
  · have := (hB.keep (F.keeps1 hBk (by decide)) : Bds (w.setCell ⟨g, k * 4, none⟩ (.int .i64 5)) bs cs).hole k
    rw [if_pos hk] at this
    exact this
end Go.Proofs.YtpdbkdcdlafobaaGreatDoor
end
section
namespace Go.Proofs.YtpdbkdcdlafobaaGreatDoor
namespace L
def fillO : Option Piece → Option Piece → Int × Option Piece
  | some C, some P => fill C P
  | _, _ => (1, none)
end L
open Go.RowKit
set_option maxRecDepth 100000 in
set_option maxHeartbeats 4000000 in
theorem fill_bad {w : World} {v1 v2 : Value} {o1 o2 : Option L.Piece} (h1 : Pv w v1 o1) (h2 : Pv w v2 o2) (hno : o1 = none ∨ o2 = none) :
    Calls Tryz.prog 9 #[v1, v2] w (PcPost w (1, none)) := by
  obtain ⟨a1, rfl⟩ : ∃ a, v1 = .pointer a := by
    cases o1 with
    | none => rcases h1 with rfl | ⟨p, rfl, _⟩ <;> exact ⟨_, rfl⟩
    | some P => obtain ⟨p, rfl, _⟩ := h1; exact ⟨_, rfl⟩
  obtain ⟨a2, rfl⟩ : ∃ a, v2 = .pointer a := by
    cases o2 with
    | none => rcases h2 with rfl | ⟨p, rfl, _⟩ <;> exact ⟨_, rfl⟩
    | some P => obtain ⟨p, rfl, _⟩ := h2; exact ⟨_, rfl⟩
  have F0 := (Frm.refl (fun _ => False) w).alloc (.cells #[.pointer a2] 22)
  have HP1 := Lib.hid (h1.keep F0)
  have HP2 := Lib.hid (h2.keep F0)
  have HF := Lib.hid F0
  clear h1 h2 F0
  go_enter Tryz.func9, Tryz.ntmps9
  go_wp2_with fail
  refine (valid_any HP1.out).mono ?_
  rintro _ w1 ⟨rfl, rfl⟩
  cases o1 with
  | none =>
    go_wp2_with fail
    go_ret2
    exact ⟨HF.out, _, rfl, rfl⟩
  | some C =>
    obtain rfl : o2 = none := by simpa using hno
    go_wp2_with fail
    refine (valid_any HP2.out).mono ?_
    rintro _ w1 ⟨rfl, rfl⟩
    go_wp2_with fail
    go_ret2
    exact ⟨HF.out, _, rfl, rfl⟩
set_option maxRecDepth 100000 in
set_option maxHeartbeats 4000000 in
theorem fill_early {w : World} {pc pp : Nat} {C P : L.Piece} (hC : PcAt w pc C) (hP : PcAt w pp P) (hn : C.decls.length ≤ 1000)
    (h : L.holeAt C.decls < 0 ∨ 0 ≤ L.holeAt C.decls ∧ (C.decls.getD (L.holeAt C.decls).toNat default).result ≠ P.typ) :
    Calls Tryz.prog 9 #[.pointer (some ⟨pc, 0, none⟩), .pointer (some ⟨pp, 0, none⟩)] w (PcPost w (L.fill C P)) := by
  have F0 := (Frm.refl (fun _ => False) w).alloc (.cells #[.pointer (some ⟨pp, 0, none⟩)] 22)
  have BX := Blk.new w 22 #[.pointer (some ⟨pp, 0, none⟩)]
  have c0 := BX.cell 0
  have hC1 := hC.keep F0
  have hP1 := hP.keep F0
  have V1 : Pv (w.alloc (.cells #[.pointer (some ⟨pp, 0, none⟩)] 22)) (.pointer (some ⟨pc, 0, none⟩)) (some C) := ⟨pc, rfl, hC1⟩
  have V2 : Pv (w.alloc (.cells #[.pointer (some ⟨pp, 0, none⟩)] 22)) (.pointer (some ⟨pp, 0, none⟩)) (some P) := ⟨pp, rfl, hP1⟩
  have HV1 := Lib.hid V1
  have HV2 := Lib.hid V2
  have HF := Lib.hid F0
  obtain ⟨dv, rv, hbc, hdc, -⟩ := hC1
  obtain ⟨dv', rv', hbp, hdp, -⟩ := hP1
  obtain ⟨A, c, rfl, hcs⟩ := dls_cells hdc
  have HD := Lib.hid hdc
  have k0 := hbc.cell 0
  have HBC := Lib.hid hbc
  have HBP := Lib.hid hbp
  have HBX := Lib.hid BX
  have HCS := Lib.hid hcs
  clear hC hP V1 V2 F0 BX hbc hdc hbp hdp hcs
  go_enter Tryz.func9, Tryz.ntmps9
  go_wp2_with fail
  refine (valid_any HV1.out).mono ?_
  rintro _ w1 ⟨rfl, rfl⟩
  go_wp2_with fail
  refine (valid_any HV2.out).mono ?_
  rintro _ w1 ⟨rfl, rfl⟩
  go_wp2_with fail
  refine (index_any HD.out hn).mono ?_
  rintro _ w1 ⟨rfl, f1⟩
  have HF1 := Lib.hid (HF.out.trans f1)
  rcases L.holeAt_lt C.decls with hh | ⟨j, hh, hj⟩
  · have HX : Hid (L.fill C P = (6, none)) := if_pos (by omega)
    rw [hh]
    clear h hh f1 k0 c0
    go_wp2_with fail
    go_ret2
    rw [HX.out]
    exact ⟨HF1.out, _, rfl, rfl⟩
  · have hne : C.decls[j].result ≠ P.typ := by
      rcases h with h | h
      · omega
      · have := h.2
        rw [hh] at this
        simpa [hj] using this
    have HX : Hid (L.fill C P = (4, none)) := by
      have : ¬ L.holeAt C.decls < 0 := by omega
      show _ = _
      rw [L.fill, if_neg this, if_pos]
      rw [hh]
      simpa [hj] using hne
    obtain ⟨g, Aa, ca, hg0, hca, hcb, hcc, -⟩ := HCS.out j hj
    subst hg0
    rw [hh]
    have x0 := (f1.blk HBC.out id).drew.cell 0
    have x1 := (f1.blk HBP.out id).drew.cell 1
    have x2 := (f1.drew).cell id hcc
    have x3 := (f1.blk HBX.out id).drew.cell 0
    have HFd := Lib.hid HF1.out.drew
    generalize C.decls[j].result = r at *
    clear h hh f1 k0 c0 hca hcb hcc
    have hjj : (j : Int) < (C.decls.length : Int) := by omega
    go_wp2_with fail
    go_region
    go_wp2_with fail
    go_ret2
    rw [HX.out]
    exact ⟨HFd.out, _, rfl, rfl⟩
end Go.Proofs.YtpdbkdcdlafobaaGreatDoor
end
