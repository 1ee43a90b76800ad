/- The contract of Fill: the hole is there. The contract of Fill, whatever the pieces are. Read and Fill where the plain functions' answers are known; awake. The world in which the listed tables of Go's library lie as their text lays them: the witness of the laws' rows. Contracts of the program's functions, with no condition beyond what each theorem states. -/
import Derived.Test.YtpdbkdcdlafobaaGreatDoorC24
import Derived.Test.YtpdbkdcdlafobaaGreatDoorC25
import Derived.Deep.RegionHeld3
import Derived.IntWalk
import Derived.Test.YtpdbkdcdlafobaaGreatDoorC23
import Derived.Test.YtpdbkdcdlafobaaGreatDoorRows
import Derived.Test.YtpdbkdcdlafobaaGreatDoorTie
import Derived.SevenTiedAt
import Derived.WalkKit
import Derived.ProofKit
import Derived.OpenShut
import Derived.LaidLaws
import Derived.Test.YtpdbkdcdlafobaaGreatDoorC04
section
namespace Go.Proofs.YtpdbkdcdlafobaaGreatDoor
open Go.RowKit
theorem Dls.cut {w : World} {lo : Nat} : ∀ (k : Nat) {ds : List L.Decl} {cs : List Value}, Dls w lo ds cs → Dls w lo (ds.take k) (cs.take (k * 3)) ∧ Dls w lo (ds.drop k) (cs.drop (k * 3))
  | 0, _, _, h => ⟨by simp [Dls], by simpa using h⟩
  | _ + 1, [], _, h => by
    have h : _ = [] := h
    subst h; simp [Dls]
  | k + 1, d :: ds, _, ⟨a, cs', h1, h2, h3⟩ => by
    subst h1
    have ih := Dls.cut k h3
    rw [show (k + 1) * 3 = k * 3 + 1 + 1 + 1 from by omega]
    exact ⟨⟨a, _, rfl, h2, ih.1⟩, ih.2⟩
theorem L.rest_ok {C : L.Piece} (f : L.Fit C) (j : Nat) : (C.decls.take j ++ C.decls.drop (j + 1)).length ≤ 4 ∧ L.Names (C.decls.take j ++ C.decls.drop (j + 1)) ∧ ∀ d ∈ C.decls.take j ++ C.decls.drop (j + 1), d.args.length ≤ 3 := by
  have h1 : (C.decls.drop (j + 1)).Sublist (C.decls.drop j) := by rw [← List.drop_drop]; exact List.drop_sublist _ _
  have h2 := (List.Sublist.refl (C.decls.take j)).append h1
  rw [List.take_append_drop] at h2
  exact ⟨Nat.le_trans h2.length_le f.decls, List.Sublist.nodup (List.Sublist.map (fun d : L.Decl => d.name) h2) f.names, fun d hd => f.args d (h2.mem hd)⟩
theorem own_cap {w : World} {base size n : Nat} {e : TypeId} {g c : Nat} {A : Option Addr} {xs : List Value} (h : w.ownsRow base e size (.slice A n c) n xs) (hn : g < n) : n ≤ c ∧ c ≤ maxLen := by
  rcases h.2 with ⟨_, h0⟩ | ⟨g', cap, cur, h1, _, _, h4, h5, _⟩
  · omega
  · injection h1 with _ _ h3
    subst h3
    exact ⟨h4, h5⟩
theorem Dls.app {w : World} {lo : Nat} : ∀ {ds ds' : List L.Decl} {cs cs' : List Value}, Dls w lo ds cs → Dls w lo ds' cs' → Dls w lo (ds ++ ds') (cs ++ cs')
  | [], _, _, _, h, h' => by
    have h : _ = [] := h
    subst h; simpa using h'
  | d :: ds, _, _, _, ⟨a, cs1, h1, h2, h3⟩, h' => ⟨a, cs1 ++ _, by rw [h1]; rfl, h2, Dls.app h3 h'⟩
set_option maxRecDepth 100000 in
set_option maxHeartbeats 8000000 in
theorem fill_main {w : World} {pc pp : Nat} {C P : L.Piece} (hC : PcAt w pc C) (hP : PcAt w pp P) (fC : L.Fit C)
    {j : Nat} (hh : L.holeAt C.decls = j) (hj : j < C.decls.length) (hty : C.decls[j].result = P.typ) (fP : L.Fit P) :
    Calls Tryz.prog 9 #[.pointer (some ⟨pc, 0, none⟩), .pointer (some ⟨pp, 0, none⟩)] w (PcPost w (L.fill C P)) := by
  have hn : C.decls.length ≤ 1000 := Nat.le_trans fC.decls (by omega)
  have hPf := fP.flat
  have hPn := fP.nodes
  have hCn := fC.nodes
  have hPd : P.decls.length ≤ 1000 := Nat.le_trans fP.decls (by omega)
  have HFC := Lib.hid fC
  have HFP := Lib.hid fP
  clear fC fP
  have F0 := (Frm.refl (fun _ => False) w).alloc (.cells #[.pointer (some ⟨pp, 0, none⟩)] 22)
  have BX := Blk.new w 22 #[.pointer (some ⟨pp, 0, none⟩)]
  have c0 := BX.cell 0
  have hC1 := hC.keep F0
  have hP1 := hP.keep F0
  have V1 : Pv (w.alloc (.cells #[.pointer (some ⟨pp, 0, none⟩)] 22)) (.pointer (some ⟨pc, 0, none⟩)) (some C) := ⟨pc, rfl, hC1⟩
  have V2 : Pv (w.alloc (.cells #[.pointer (some ⟨pp, 0, none⟩)] 22)) (.pointer (some ⟨pp, 0, none⟩)) (some P) := ⟨pp, rfl, hP1⟩
  have HV1 := Lib.hid V1
  have HV2 := Lib.hid V2
  have HF := Lib.hid F0
  obtain ⟨dv, rv, hbc, hdc, hrc⟩ := hC1
  have hrc0 : Rep _ (· < (w.alloc (.cells #[.pointer (some ⟨pp, 0, none⟩)] 22)).heap.size) C.root rv := hrc.sub fun _ _ h => h
  obtain ⟨TC, xC, rfl⟩ := Rep.form hrc0
  have HRC := Lib.hid hrc0
  obtain ⟨dv', rv', hbp, hdp, hrp⟩ := hP1
  have hrp0 : Rep _ (· < (w.alloc (.cells #[.pointer (some ⟨pp, 0, none⟩)] 22)).heap.size) P.root rv' := hrp.sub fun _ _ h => h
  have HRP := Lib.hid hrp0
  have HDP := Lib.hid hdp
  clear hrc hrc0 hrp hrp0
  obtain ⟨A, c, rfl, hcs⟩ := dls_cells hdc
  have HD := Lib.hid hdc
  have k0 := hbc.cell 0
  have HBC := Lib.hid hbc
  have HBP := Lib.hid hbp
  have HBX := Lib.hid BX
  have HCS := Lib.hid hcs
  clear hC hP V1 V2 F0 BX hbc hdc hbp hdp hcs
  go_enter Tryz.func9, Tryz.ntmps9
  go_wp2_with fail
  refine (valid_any HV1.out).mono ?_
  rintro _ w1 ⟨rfl, rfl⟩
  go_wp2_with fail
  refine (valid_any HV2.out).mono ?_
  rintro _ w1 ⟨rfl, rfl⟩
  go_wp2_with fail
  refine (index_any HD.out hn).mono ?_
  rintro _ w1 ⟨rfl, f1⟩
  have HF1 := Lib.hid (HF.out.trans f1)
  obtain ⟨g, Aa, ca, hg0, hca, hcb, hcc, -⟩ := HCS.out j hj
  subst hg0
  rw [hh]
  rw [hty] at hcc
  have x0 := (f1.blk HBC.out id).drew.cell 0
  have x1 := (f1.blk HBP.out id).drew.cell 1
  have x2 := (f1.drew).cell id hcc
  have x3 := (f1.blk HBX.out id).drew.cell 0
  have HFd := Lib.hid HF1.out.drew
  have HBC2 := Lib.hid (f1.blk HBC.out id)
  have HBX2 := Lib.hid (f1.blk HBX.out id)
  have HBP2 := Lib.hid (f1.blk HBP.out id)
  have HDP2 : Hid (Decls w1 0 dv' P.decls) := HDP.out.keep (Nat.zero_le _) fun b _ hl => f1.2 b hl id
  have HRC2 := Lib.hid (Rep.keep (A' := fun b => b < w1.heap.size) (f1.same fun _ _ _ => id) (fun b hb _ => Nat.lt_of_lt_of_le hb f1.1) HRC.out)
  have HRP2 := Lib.hid (Rep.keep (A' := fun b => b < w1.heap.size) (f1.same fun _ _ _ => id) (fun b hb _ => Nat.lt_of_lt_of_le hb f1.1) HRP.out)
  have HD2 : Hid (Decls w1 0 (.slice (some ⟨g, 0, none⟩) C.decls.length c) C.decls) := HD.out.keep (Nat.zero_le _) fun b _ hl => f1.2 b hl id
  have HHH := Lib.hid hh
  have HTY := Lib.hid hty
  clear hh f1 k0 c0 hca hcb hcc hty
  have hjj : (j : Int) < (C.decls.length : Int) := by omega
  go_wp2_with fail
  go_region
  clear x0 x1 x2 x3
  have F0 : Frm (fun _ => False) w1 (w1.alloc (.cells #[.int .i64 0] 23)).drew := ((Frm.refl (fun _ => False) w1).alloc (.cells #[.int .i64 0] 23)).drew
  have y0 := (F0.blk HBC2.out id).cell 0
  have e1 := (Blk.new w1 23 #[.int .i64 0]).drew
  go_wp2_with fail
  refine (newReader_any _ C.decls _ (HD2.out.keep (Nat.le_refl _) fun b _ hl => F0.2 b hl id) hn).mono ?_
  rintro _ w2 ⟨rfl, rd1, f2⟩
  have hsd : (w1.alloc (.cells #[.int .i64 0] 23)).drew.heap.size = w1.heap.size + 1 := World.size_alloc _ _
  rw [hsd] at rd1
  try rw [hsd]
  have hE1 : Hid (ErrAt w2 w1.heap.size 0) := f2.blk e1 id
  have hs1 : w1.heap.size + 1 < w2.heap.size := by obtain ⟨v', hb, _⟩ := rd1; exact hb.lt
  obtain ⟨g2, c2, hlo, hgR, hb2, hc2, ⟨u2, hu2⟩, hz2, rd3, f3⟩ := rd1.hole (k := j) (by rw [List.length_map]; exact hj)
  rw [List.length_map] at hb2 hc2
  have hg2 : g2 < w2.heap.size := lt_of_cell hu2
  have z0 := hb2.cell 0
  have z1 := hb2.cell 1
  have q1 := hb2.frozen 1
  have zz1 : ∀ o, (w2.alloc o).cell? ⟨w1.heap.size + 1, 1, none⟩ = some .nilFunc := fun o => (hb2.alloc o).cell 1
  have qq1 : ∀ o, (w2.alloc o).frozen? ⟨w1.heap.size + 1, 1, none⟩ = false := fun o => (hb2.alloc o).frozen 1
  obtain ⟨rd4, f4⟩ := rd3.visit (.func (.func 25) #[] #[.pointer (some ⟨w2.heap.size, 0, none⟩), .pointer (some ⟨w1.heap.size, 0, none⟩), .pointer (some ⟨w.heap.size, 0, none⟩)])
  have HF3 := Lib.hid f3
  have HF4 := Lib.hid f4
  have HRD4 := Lib.hid rd4
  have HF2 := Lib.hid (F0.trans f2)
  have sf := run_store_func
  clear rd1 rd3 rd4 f4 f3 f2 F0 e1 HCS HV1 HV2
  go_wp2_with fail
  obtain ⟨W5, hW5⟩ : ∃ W5, W5 = ((w2.setCell ⟨g2, j * 4, none⟩ (.int .i64 5)).setCell ⟨w1.heap.size + 1, 1, none⟩ (.func (.func 25) #[] #[.pointer (some ⟨w2.heap.size, 0, none⟩), .pointer (some ⟨w1.heap.size, 0, none⟩), .pointer (some ⟨w.heap.size, 0, none⟩)])).alloc (.cells #[.pointer (some ⟨w1.heap.size + 1, 0, none⟩)] 64) := ⟨_, rfl⟩
  have hs4 : ((w2.setCell ⟨g2, j * 4, none⟩ (.int .i64 5)).setCell ⟨w1.heap.size + 1, 1, none⟩ (.func (.func 25) #[] #[.pointer (some ⟨w2.heap.size, 0, none⟩), .pointer (some ⟨w1.heap.size, 0, none⟩), .pointer (some ⟨w.heap.size, 0, none⟩)])).heap.size = w2.heap.size := by simp
  have BR5 : Hid (RBox (w1.heap.size + 1) w2.heap.size W5) := by rw [hW5]; exact blk_at (by simp)
  have G5 : Frm (fun b => b = g2 ∨ b = w1.heap.size + 1) w2 W5 := by
    rw [hW5]
    exact ((HF3.out.mono fun _ _ h => .inl h).trans (HF4.out.mono fun _ _ h => .inr h)).alloc _
  have HRD5 : Hid (RdAt W5 (w1.heap.size + 1) (fun b => w1.heap.size + 1 < b) (L.holed j (C.decls.map L.ofDecl)) (.func (.func 25) #[] #[.pointer (some ⟨w2.heap.size, 0, none⟩), .pointer (some ⟨w1.heap.size, 0, none⟩), .pointer (some ⟨w.heap.size, 0, none⟩)])) := by
    rw [hW5]; exact HRD4.out.keep ((Frm.refl _ _).alloc _)
  have FW5 : Hid (Frm (fun _ => False) w1 W5) := Frm.mono (E := fun b => b = g2 ∨ b = w1.heap.size + 1) ((HF2.out.mono fun _ _ h => h.elim).trans G5) fun b hb h => by omega
  have HE5 : Hid (ErrAt W5 w1.heap.size 0) := G5.blk hE1.out (by omega)
  have HBC5 := Lib.hid (FW5.out.blk HBC2.out id)
  have HBX5 := Lib.hid (FW5.out.blk HBX2.out id)
  rw [← hW5]
  have m0 := BR5.out.cell 0
  have m1 := HBC5.out.cell 2
  clear hW5 z0 z1 q1 zz1 qq1 hu2 hz2 y0 hb2 HF3 HF4 HRD4 G5 hs4
  go_still_tail 5, (by kernel_rfl)
  change wpList _ _ _ _ _ W5.drew
  go_wp2_with fail
  have FD := Lib.hid (FW5.out.drew)
  have HRC5 := Lib.hid (Rep.keep (A' := fun b => b < w1.heap.size) (FD.out.same fun _ _ _ => id) (fun b hb _ => hb) HRC2.out)
  have HRP5 := Lib.hid (Rep.keep (A' := fun b => b < w1.heap.size) (FD.out.same fun _ _ _ => id) (fun b hb _ => hb) HRP2.out)
  have HInv : Hid (FInv w1.heap.size (w1.heap.size + 1) w2.heap.size w.heap.size pp P W5.drew) := ⟨BR5.out.drew, HBX5.out.drew, dv', rv', FD.out.blk HBP2.out id, HDP2.out.keep (Nat.zero_le _) fun b _ hl => FD.out.2 b hl id, HRP5.out⟩
  have hG : L.Good 600 (L.visFill P) := fun bs t e u hu => by
    unfold L.visFill at hu
    split at hu
    · dsimp only at hu
      injection hu with hu
      subst hu
      exact ⟨HRP5.out.ok, hPf, hPn⟩
    · exact absurd hu (by simp)
  have hlv := HRC5.out.ok.levels
  refine (read_ok (P := 600) (by omega) hG (fill2_vis w1.heap.size (w1.heap.size + 1) w1.heap.size w2.heap.size w.heap.size pp P hPd) HRC5.out.ok _ (fun b => w1.heap.size + 1 < b) (L.holed j (C.decls.map L.ofDecl)) 0 _ ⟨HRD5.out.keep (Frm0.drew _), HE5.out.drew⟩ HInv.out FD.out.1 (by rw [L.holed_length, List.length_map]; omega) (by omega) HRC5.out).mono ?_
  rintro _ w6 ⟨⟨v6, rfl, hv6⟩, rs6, k6⟩
  have F6 : Hid (Frm (fun _ => False) w1 w6) := Frm.mono (E := fun b => b = w1.heap.size + 1 ∨ b = w1.heap.size ∨ w1.heap.size + 1 < b) ((FD.out.mono fun _ _ h => h.elim).trans k6.3) fun b hb h => by omega
  have F6w : Hid (Frm (fun _ => False) w w6) := HF1.out.trans F6.out
  have HRS6 := Lib.hid rs6
  have e6 := rs6.err.cell 0
  obtain ⟨T6, x6, rfl⟩ := Rep.form hv6
  have HV6 := Lib.hid hv6
  have HBC6 := Lib.hid (F6.out.blk HBC2.out id)
  have HD6 : Hid (Decls w6 0 (.slice (some ⟨g, 0, none⟩) C.decls.length c) C.decls) := HD2.out.keep (Nat.zero_le _) fun b _ hl => F6.out.2 b hl id
  have hfill : L.fill C P = if (L.rd (L.visFill P) (L.holed j (C.decls.map L.ofDecl)) C.root 0).2 ≠ 0 then ((L.rd (L.visFill P) (L.holed j (C.decls.map L.ofDecl)) C.root 0).2, none) else L.newPiece (C.decls.take j ++ C.decls.drop (j + 1)) C.typ (L.rd (L.visFill P) (L.holed j (C.decls.map L.ofDecl)) C.root 0).1 := by
    have h1 : ¬ L.holeAt C.decls < 0 := by rw [HHH.out]; omega
    have h2 : ¬ (C.decls.getD (L.holeAt C.decls).toNat default).result ≠ P.typ := by rw [HHH.out]; simpa [hj] using HTY.out
    rw [L.fill, if_neg h1, if_neg h2, HHH.out]
    rfl
  have HX := Lib.hid hfill
  clear hfill rs6 k6 hv6 hlv m0 m1
  have hn6 := (L.rd_fine (P := 600) (by omega) hG HFC.out.ok (L.holed j (C.decls.map L.ofDecl)) 0).2.2
  have HN6 : Hid (L.nodes (L.rd (L.visFill P) (L.holed j (C.decls.map L.ofDecl)) C.root 0).1 ≤ 1000000) := Nat.le_trans hn6 (by omega)
  clear hn6
  generalize L.rd (L.visFill P) (L.holed j (C.decls.map L.ofDecl)) C.root 0 = rr at *
  obtain ⟨t6, er⟩ := rr
  dsimp only at e6 HV6 HX HN6
  by_cases h0 : er = 0
  · subst h0
    have HY : Hid (L.fill C P = L.newPiece (C.decls.take j ++ C.decls.drop (j + 1)) C.typ t6) := by rw [HX.out]; exact if_neg (by simp)
    obtain ⟨cs, ho, hdl⟩ := HD6.out
    have k0 := HBC6.out.cell 0
    have k1 := HBC6.out.cell 1
    have hcap : C.decls.length ≤ c := (own_cap HD6.out.choose_spec.1 hj).1
    have HO := Lib.hid ho
    have HDL := Lib.hid hdl
    have HJ := Lib.hid hj
    have b1 : (j : Int) ≤ (c : Int) := by omega
    have b2 : (j : Int) + 1 ≤ (C.decls.length : Int) := by omega
    have b3 : (0 : Int) ≤ (j : Int) + 1 := by omega
    have b4 : (0 : Int) ≤ (j : Int) := by omega
    have b5 : (C.decls.length : Int) ≤ (c : Int) := by omega
    have b6 : ((j : Int) + 1).toNat = j + 1 := by omega
    have b7 : IntKind.i64.wrap ((j : Int) + 1) = (j : Int) + 1 := IntWalk.i64_in _ (by omega)
    clear ho hdl HX b7
    go_wp2_with fail
    have b7 : IntKind.i64.wrap ((j : Int) + 1) = (j : Int) + 1 := IntWalk.i64_in _ (by omega)
    clear e6 hlo hgR hs1 hg2 hjj hPf hPn hCn hPd hn hcap hsd
    go_still_tail 13, (by kernel_rfl)
    change wpList _ _ _ _ _ w6.drew
    clear b7
    go_wp2_with fail
    · obtain ⟨W7, hW7⟩ : ∃ W7, W7 = (w6.alloc (.cells #[.slice (some ⟨g, 0, none⟩) j (j + 1), .slice (some ⟨g, 0, none⟩) (C.decls.length - (j + 1)) 0] 31)).drew := ⟨_, rfl⟩
      have F7 : Frm (fun _ => False) w6 W7 := by rw [hW7]; exact ((Frm.refl _ w6).alloc _).drew
      have hb7 : Blk W7 w6.heap.size 31 #[.slice (some ⟨g, 0, none⟩) j (j + 1), .slice (some ⟨g, 0, none⟩) (C.decls.length - (j + 1)) 0] := by rw [hW7]; exact (Blk.new w6 _ _).drew
      rw [← hW7]
      have hcl : cs.length = C.decls.length * 3 := HO.out.1
      have hjn := HJ.out
      have hcc := @World.ownsRow.cells _ _ _ _ _ _ _ HO.out g rfl
      refine (concat_any W7 w6.heap.size ⟨g, 0, none⟩ ⟨g, 0, none⟩ (cs.take (j * 3)) (cs.drop ((j + 1) * 3)) j (C.decls.length - (j + 1)) (j + 1) 0 (hb7.cell 0) (hb7.cell 1) (by rw [List.length_take]; omega) (by rw [List.length_drop]; omega) ?cx1 ?cy1 (fun u hu => HDL.out.one u (List.mem_of_mem_take hu)) (fun u hu => HDL.out.one u (List.mem_of_mem_drop hu)) (by have := HFC.out.decls; omega)).mono ?_
      case cx1 =>
        intro i u hu
        have hi : i < j * 3 := by
          have := (List.getElem?_eq_some_iff.1 hu).1
          rw [List.length_take] at this; omega
        rw [List.getElem?_take_of_lt hi] at hu
        have := F7.cell id (hcc i u hu)
        exact this
      case cy1 =>
        intro i u hu
        rw [List.getElem?_eq_none (by rw [List.length_drop]; omega)] at hu
        cases hu
      rintro _ w8 ⟨v8, rfl, ho8, f8⟩
      have hlen : (C.decls.take j ++ C.decls.drop (j + 1)).length = j + (C.decls.length - (j + 1)) := by rw [List.length_append, List.length_take, List.length_drop]; omega
      have F78 : Frm (fun _ => False) w6 w8 := F7.trans f8
      have HD8 : Hid (Decls w8 0 v8 (C.decls.take j ++ C.decls.drop (j + 1))) := ⟨_, by rw [hlen]; exact own_base ho8 (Nat.zero_le _), Dls.keep (Nat.zero_le _) (fun b _ hl => F78.2 b hl id) (Dls.app (HDL.out.cut j).1 (HDL.out.cut (j + 1)).2)⟩
      obtain ⟨A8, c8, rfl⟩ := own_form ho8
      have HV8 := Lib.hid (Rep.keep (A' := fun _ => True) (F78.same fun _ _ _ => id) (fun _ _ _ => trivial) HV6.out)
      have HF8 := Lib.hid (F6w.out.trans F78)
      have m1 := (F78.blk HBC6.out id).cell 1
      clear hW7 F7 hb7 hcl hjn hcc F78 ho8 f8 hlen k0 k1 b1 b2 b3 b4 b5 b6
      go_wp2_with fail
      have hr := L.rest_ok HFC.out j
      refine (newPiece_any _ _ _ C.typ t6 w8 HD8.out hr.1 hr.2.1 hr.2.2 HV8.out HN6.out).mono ?_
      rintro _ w9 ⟨f9, pv, rfl, hpv⟩
      have HPV := Lib.hid hpv
      have F9 := Lib.hid (HF8.out.trans f9)
      clear hr
      generalize L.newPiece (C.decls.take j ++ C.decls.drop (j + 1)) C.typ t6 = np at *
      obtain ⟨n1, n2⟩ := np
      dsimp only at hpv
      have hpf : ∃ a, pv = .pointer a := by
        cases n2 with
        | none => exact ⟨_, hpv⟩
        | some P => obtain ⟨p, h, _⟩ := hpv; exact ⟨_, h⟩
      obtain ⟨a, rfl⟩ := hpf
      clear hpv f9
      go_wp2_with fail
      go_ret2
      rw [HY.out]
      exact ⟨F9.out, _, rfl, HPV.out⟩
    · obtain ⟨W7, hW7⟩ : ∃ W7, W7 = (w6.alloc (.cells #[.slice (some ⟨g, 0, none⟩) j c, .slice (some ⟨g, (j + 1) * 3, none⟩) (C.decls.length - (j + 1)) (c - (j + 1))] 31)).drew := ⟨_, rfl⟩
      have F7 : Frm (fun _ => False) w6 W7 := by rw [hW7]; exact ((Frm.refl _ w6).alloc _).drew
      have hb7 : Blk W7 w6.heap.size 31 #[.slice (some ⟨g, 0, none⟩) j c, .slice (some ⟨g, (j + 1) * 3, none⟩) (C.decls.length - (j + 1)) (c - (j + 1))] := by rw [hW7]; exact (Blk.new w6 _ _).drew
      rw [← hW7]
      have hcl : cs.length = C.decls.length * 3 := HO.out.1
      have hjn := HJ.out
      have hcc := @World.ownsRow.cells _ _ _ _ _ _ _ HO.out g rfl
      refine (concat_any W7 w6.heap.size ⟨g, 0, none⟩ ⟨g, (j + 1) * 3, none⟩ (cs.take (j * 3)) (cs.drop ((j + 1) * 3)) j (C.decls.length - (j + 1)) c (c - (j + 1)) (hb7.cell 0) (hb7.cell 1) (by rw [List.length_take]; omega) (by rw [List.length_drop]; omega) ?cx2 ?cy2 (fun u hu => HDL.out.one u (List.mem_of_mem_take hu)) (fun u hu => HDL.out.one u (List.mem_of_mem_drop hu)) (by have := HFC.out.decls; omega)).mono ?_
      case cx2 =>
        intro i u hu
        have hi : i < j * 3 := by
          have := (List.getElem?_eq_some_iff.1 hu).1
          rw [List.length_take] at this; omega
        rw [List.getElem?_take_of_lt hi] at hu
        have := F7.cell id (hcc i u hu)
        exact this
      case cy2 =>
        intro i u hu
        rw [List.getElem?_drop] at hu
        have := F7.cell id (hcc _ u hu)
        rw [add_zero_off] at this
        rw [show (⟨g, (j + 1) * 3, none⟩ : Addr).add i = ⟨g, (j + 1) * 3 + i, none⟩ from by unfold Addr.add; split <;> simp_all]
        exact this
      rintro _ w8 ⟨v8, rfl, ho8, f8⟩
      have hlen : (C.decls.take j ++ C.decls.drop (j + 1)).length = j + (C.decls.length - (j + 1)) := by rw [List.length_append, List.length_take, List.length_drop]; omega
      have F78 : Frm (fun _ => False) w6 w8 := F7.trans f8
      have HD8 : Hid (Decls w8 0 v8 (C.decls.take j ++ C.decls.drop (j + 1))) := ⟨_, by rw [hlen]; exact own_base ho8 (Nat.zero_le _), Dls.keep (Nat.zero_le _) (fun b _ hl => F78.2 b hl id) (Dls.app (HDL.out.cut j).1 (HDL.out.cut (j + 1)).2)⟩
      obtain ⟨A8, c8, rfl⟩ := own_form ho8
      have HV8 := Lib.hid (Rep.keep (A' := fun _ => True) (F78.same fun _ _ _ => id) (fun _ _ _ => trivial) HV6.out)
      have HF8 := Lib.hid (F6w.out.trans F78)
      have m1 := (F78.blk HBC6.out id).cell 1
      clear hW7 F7 hb7 hcl hjn hcc F78 ho8 f8 hlen k0 k1 b1 b2 b3 b4 b5 b6
      go_wp2_with fail
      have hr := L.rest_ok HFC.out j
      refine (newPiece_any _ _ _ C.typ t6 w8 HD8.out hr.1 hr.2.1 hr.2.2 HV8.out HN6.out).mono ?_
      rintro _ w9 ⟨f9, pv, rfl, hpv⟩
      have HPV := Lib.hid hpv
      have F9 := Lib.hid (HF8.out.trans f9)
      clear hr
      generalize L.newPiece (C.decls.take j ++ C.decls.drop (j + 1)) C.typ t6 = np at *
      obtain ⟨n1, n2⟩ := np
      dsimp only at hpv
      have hpf : ∃ a, pv = .pointer a := by
        cases n2 with
        | none => exact ⟨_, hpv⟩
        | some P => obtain ⟨p, h, _⟩ := hpv; exact ⟨_, h⟩
      obtain ⟨a, rfl⟩ := hpf
      clear hpv f9
      go_wp2_with fail
      go_ret2
      rw [HY.out]
      exact ⟨F9.out, _, rfl, HPV.out⟩
  · have HY : Hid (L.fill C P = (er, none)) := by rw [HX.out]; exact if_pos h0
    have e6d := HRS6.out.err.drew.cell 0
    have F6d := Lib.hid F6w.out.drew
    go_wp2_with fail
    go_region
    go_wp2_with fail
    go_ret2
    rw [HY.out]
    exact ⟨F6d.out, _, rfl, rfl⟩
end Go.Proofs.YtpdbkdcdlafobaaGreatDoor
end
section
namespace Go.Proofs.YtpdbkdcdlafobaaGreatDoor
open Go.RowKit
theorem fill_pc {w : World} {pc pp : Nat} {C P : L.Piece} (hC : PcAt w pc C) (hP : PcAt w pp P) (fC : L.Fit C) (fP : L.Fit P) :
    Calls Tryz.prog 9 #[.pointer (some ⟨pc, 0, none⟩), .pointer (some ⟨pp, 0, none⟩)] w (PcPost w (L.fill C P)) := by
  have hn : C.decls.length ≤ 1000 := Nat.le_trans fC.decls (by omega)
  rcases L.holeAt_lt C.decls with h | ⟨j, h, hj⟩
  · exact fill_early hC hP hn (.inl (by omega))
  · by_cases hty : C.decls[j].result = P.typ
    · exact fill_main hC hP fC h hj hty fP
    · refine fill_early hC hP hn (.inr ⟨by omega, ?_⟩)
      rw [h]
      simpa [hj] using hty
theorem fill_any {w : World} {v1 v2 : Value} {o1 o2 : Option L.Piece} (h1 : Pv w v1 o1) (h2 : Pv w v2 o2) (f1 : ∀ P, o1 = some P → L.Fit P) (f2 : ∀ P, o2 = some P → L.Fit P) :
    Calls Tryz.prog 9 #[v1, v2] w (PcPost w (L.fillO o1 o2)) := by
  cases o1 with
  | none => exact fill_bad h1 h2 (.inl rfl)
  | some C =>
    cases o2 with
    | none => exact fill_bad h1 h2 (.inr rfl)
    | some P =>
      obtain ⟨pc, rfl, hC⟩ := h1
      obtain ⟨pp, rfl, hP⟩ := h2
      exact fill_pc hC hP (f1 C rfl) (f2 P rfl)
theorem fill_yes {w : World} {pc pp : Nat} {C P R : L.Piece} {e : Int} (hC : PcAt w pc C) (hP : PcAt w pp P) (fC : L.Fit C) (fP : L.Fit P) (h : L.fill C P = (e, some R)) :
    Calls Tryz.prog 9 #[.pointer (some ⟨pc, 0, none⟩), .pointer (some ⟨pp, 0, none⟩)] w fun r w' => ∃ g, r = .returned (.tuple #[.pointer (some ⟨g, 0, none⟩), .int .i64 e]) ∧ PcAt w' g R ∧ Frm (fun _ => False) w w' := by
  refine (fill_pc hC hP fC fP).mono ?_
  rw [h]
  rintro r w' ⟨f, v, rfl, p, rfl, hp⟩
  exact ⟨p, rfl, hp, f⟩
end Go.Proofs.YtpdbkdcdlafobaaGreatDoor
end
section
namespace Go.Proofs.YtpdbkdcdlafobaaGreatDoor
open Go.RowKit
theorem read_yes {l : L.Bytes} {e : Int} {P : L.Piece} (h : L.readText l = (e, some P)) (w : World) :
    Calls Tryz.prog 5 #[.string (str l)] w fun r w' => ∃ p, r = .returned (.tuple #[.pointer (some ⟨p, 0, none⟩), .int .i64 e]) ∧ PcAt w' p P ∧ Frm (fun _ => False) w w' := by
  refine (read_any l w).mono ?_
  rw [h]
  rintro r w' ⟨f, v, rfl, p, rfl, hp⟩
  exact ⟨p, rfl, hp, f⟩
theorem read_not {l : L.Bytes} {e : Int} (h : L.readText l = (e, none)) (w : World) :
    Calls Tryz.prog 5 #[.string (str l)] w fun r w' => r = .returned (.tuple #[.pointer none, .int .i64 e]) ∧ Frm (fun _ => False) w w' := by
  refine (read_any l w).mono ?_
  rw [h]
  rintro r w' ⟨f, v, rfl, rfl⟩
  exact ⟨rfl, f⟩
theorem text_at {w : World} {p : Nat} {P : L.Piece} (h : PcAt w p P) (hf : L.Fit P) : Calls Tryz.prog 10 #[.pointer (some ⟨p, 0, none⟩)] w fun e w' => e = .returned (.string (str (L.text P.decls P.typ P.root))) ∧ Frm (fun _ => False) w w' :=
  text_any (o := some P) ⟨p, rfl, h⟩ fun Q hQ => by
    have : P = Q := Option.some.inj hQ
    exact this ▸ hf.tame
theorem text_yes {w : World} {p : Nat} {P : L.Piece} {x : L.Bytes} {b : ByteArray} (h : PcAt w p P) (hf : L.Fit P) (hx : L.text P.decls P.typ P.root = x) (hb : str x = b) : Calls Tryz.prog 10 #[.pointer (some ⟨p, 0, none⟩)] w fun e w' => e = .returned (.string b) ∧ Frm (fun _ => False) w w' := by
  subst hx hb
  exact text_at h hf
theorem L.nodeList_len {P : L.Piece} (f : L.Fit P) : (L.nodeList P.root).length = L.nodes P.root := L.nds_len _ _ _ f.ok (Nat.le_refl _)
theorem nodes_at {w : World} {p n : Nat} {P : L.Piece} (h : PcAt w p P) (f : L.Fit P) (hn : L.nodes P.root = n) : Calls Tryz.prog 7 #[.pointer (some ⟨p, 0, none⟩)] w fun e w' => ∃ A c cs, e = .returned (.slice A n c) ∧ w'.ownsRow w.heap.size 47 7 (.slice A n c) (L.nodeList P.root).length cs ∧ Nds w' (w.heap.size ≤ ·) (L.nodeList P.root) cs ∧ Frm (fun _ => False) w w' := by
  have hv : Pv w (.pointer (some ⟨p, 0, none⟩)) (some P) := ⟨p, rfl, h⟩
  refine (nodes_acc hv fun Q hQ => ?_).mono ?_
  · have hq : P = Q := Option.some.inj hQ
    have := f.nodes
    subst hq; omega
  · rintro e w' ⟨⟨v', cs, rfl, ho, hd⟩, fr⟩
    have ho' : w'.ownsRow w.heap.size 47 7 v' (L.nodeList P.root).length cs := ho
    obtain ⟨A, c, rfl⟩ := own_form ho'
    have hl := L.nodeList_len f
    rw [hn] at hl
    rw [hl] at ho' ⊢
    exact ⟨A, c, cs, rfl, ho', hd, fr⟩
theorem decls_at {w : World} {p n : Nat} {P : L.Piece} (h : PcAt w p P) (f : L.Fit P) (hn : P.decls.length = n) : Calls Tryz.prog 11 #[.pointer (some ⟨p, 0, none⟩)] w fun e w' => ∃ A c, e = .returned (.slice A n c) ∧ Decls w' w.heap.size (.slice A n c) P.decls ∧ Frm (fun _ => False) w w' := by
  have hv : Pv w (.pointer (some ⟨p, 0, none⟩)) (some P) := ⟨p, rfl, h⟩
  refine (decls_acc hv (Nat.le_trans f.decls (by omega)) fun d hd => Nat.le_trans (f.args d hd) (by omega)).mono ?_
  rintro e w' ⟨⟨v', rfl, hd⟩, fr⟩
  obtain ⟨A, c, rfl⟩ : ∃ A c, v' = .slice A P.decls.length c := by
    obtain ⟨cs, ho, _⟩ := hd
    exact own_form ho
  rw [hn] at hd
  rw [hn]
  exact ⟨A, c, rfl, hd, fr⟩
set_option maxRecDepth 100000 in
set_option maxHeartbeats 4000000 in
theorem awake_any (w : World) : Calls Tryz.prog 8 #[] w fun e w' => e = .returned (.bool true) ∧ Frm (fun _ => False) w w' := by
  obtain ⟨p, q, c, r, h1, h2, h3, h4, h5, h6, h7, n1, n2, x1, x2, x3⟩ := L.awake_facts
  have fp := L.readText_fit h1
  have fq := L.readText_fit h2
  have fc := L.readText_fit h6
  have fr := L.fill_fit fc fp h7
  have H1 := Lib.hid h1
  have H2 := Lib.hid h2
  have H3 := Lib.hid h3
  have H4 := Lib.hid h4
  have H5 := Lib.hid h5
  have H6 := Lib.hid h6
  have H7 := Lib.hid h7
  have N1 := Lib.hid n1
  have N2 := Lib.hid n2
  have X1 := Lib.hid x1
  have X2 := Lib.hid x2
  have X3 := Lib.hid x3
  clear h1 h2 h3 h4 h5 h6 h7 n1 n2 x1 x2 x3
  go_enter Tryz.func8, Tryz.ntmps8
  go_wp2_with fail
  refine (read_yes H1.out _).mono ?_
  rintro _ w1 ⟨a, rfl, pa, f1⟩
  have F1 := Lib.hid f1
  have PA1 := Lib.hid pa
  clear f1 pa
  go_wp2_with fail
  refine (read_yes H2.out _).mono ?_
  rintro _ w2 ⟨b, rfl, pb, f2⟩
  have F2 := Lib.hid (F1.out.trans f2)
  have PA2 := Lib.hid (PA1.out.keep f2)
  have PB2 := Lib.hid pb
  clear f2 pb
  go_wp2_with fail
  refine (read_not H3.out _).mono ?_
  rintro _ w3 ⟨rfl, f3⟩
  have F3 := Lib.hid (F2.out.trans f3)
  have PA3 := Lib.hid (PA2.out.keep f3)
  have PB3 := Lib.hid (PB2.out.keep f3)
  clear f3
  go_wp2_with fail
  refine (read_not H4.out _).mono ?_
  rintro _ w4 ⟨rfl, f4⟩
  have F4 := Lib.hid (F3.out.trans f4)
  have PA4 := Lib.hid (PA3.out.keep f4)
  have PB4 := Lib.hid (PB3.out.keep f4)
  clear f4
  go_wp2_with fail
  refine (read_not H5.out _).mono ?_
  rintro _ w5 ⟨rfl, f5⟩
  have F5 := Lib.hid (F4.out.trans f5)
  have PA5 := Lib.hid (PA4.out.keep f5)
  have PB5 := Lib.hid (PB4.out.keep f5)
  clear f5
  go_wp2_with fail
  refine (read_yes H6.out _).mono ?_
  rintro _ w6 ⟨d, rfl, pc, f6⟩
  have F6 := Lib.hid (F5.out.trans f6)
  have PA6 := Lib.hid (PA5.out.keep f6)
  have PB6 := Lib.hid (PB5.out.keep f6)
  have PC6 := Lib.hid pc
  clear f6 pc
  go_wp2_with fail
  refine (fill_yes PC6.out PA6.out fc fp H7.out).mono ?_
  rintro _ w7 ⟨g, rfl, pr, f7⟩
  have F7 := Lib.hid (F6.out.trans f7)
  have PA7 := Lib.hid (PA6.out.keep f7)
  have PB7 := Lib.hid (PB6.out.keep f7)
  have PR7 := Lib.hid pr
  clear f7 pr
  go_wp2_with fail
  refine (nodes_at PA7.out fp N1.out).mono ?_
  rintro _ w8 ⟨A8, c8, cs8, rfl, -, -, f8⟩
  have F8 := Lib.hid (F7.out.trans f8)
  have PA8 := Lib.hid (PA7.out.keep f8)
  have PB8 := Lib.hid (PB7.out.keep f8)
  have PR8 := Lib.hid (PR7.out.keep f8)
  clear f8
  go_wp2_with fail
  refine (decls_at PB8.out fq N2.out).mono ?_
  rintro _ w9 ⟨A9, c9, rfl, -, f9⟩
  have F9 := Lib.hid (F8.out.trans f9)
  have PA9 := Lib.hid (PA8.out.keep f9)
  have PB9 := Lib.hid (PB8.out.keep f9)
  have PR9 := Lib.hid (PR8.out.keep f9)
  clear f9
  go_wp2_with fail
  refine (text_yes PA9.out fp X1.out L.x1_str).mono ?_
  rintro _ w10 ⟨rfl, f10⟩
  have F10 := Lib.hid (F9.out.trans f10)
  have PB10 := Lib.hid (PB9.out.keep f10)
  have PR10 := Lib.hid (PR9.out.keep f10)
  clear f10
  go_wp2_with fail
  refine (text_yes PB10.out fq X2.out L.x2_str).mono ?_
  rintro _ w11 ⟨rfl, f11⟩
  have F11 := Lib.hid (F10.out.trans f11)
  have PR11 := Lib.hid (PR10.out.keep f11)
  clear f11
  go_wp2_with fail
  refine (text_yes PR11.out fr X3.out L.x3_str).mono ?_
  rintro _ w12 ⟨rfl, f12⟩
  have F12 := Lib.hid (F11.out.trans f12)
  clear f12
  go_wp2_with fail
  go_ret
  exact ⟨rfl, F12.out⟩
end Go.Proofs.YtpdbkdcdlafobaaGreatDoor
end
section
namespace Go.Proofs.YtpdbkdcdlafobaaGreatDoor
open Go.ChangeShapes Go.WideShapes Go.ChangeAt Go.RowKit
def lits1 : DataW Unit → List Int
  | .lit (.int _ z) => [z]
  | _ => []
def lits2 : DataW Unit → List Int
  | .agg ps => ps.flatMap lits1
  | d => lits1 d
def lits3 : DataW Unit → List Int
  | .agg ps => ps.flatMap lits2
  | d => lits1 d
def laidCells (k : IntKind) (d : DataW Unit) (o : Obj) : Obj := match o with
  | .cells _ t frozen => .cells ((lits3 d).map fun z => Value.int k z).toArray t frozen
  | o => o
noncomputable def laidWorld (os : Os) : World :=
  { World.holding Tryz.prog os ⟨#[], #[], []⟩ with heap := (((((World.holding Tryz.prog os ⟨#[], #[], []⟩).heap.modify 1 (laidCells .u8 Rows.laid_unicode_utf8_first)).modify 2 (laidCells .u8 Rows.laid_unicode_utf8_acceptRanges)).modify 3 (laidCells .u64 Rows.laid_internal_strconv_uint64pow10)).modify 4 (laidCells .u8 Rows.laid_math_bits_deBruijn32tab)).modify 5 (laidCells .u8 Rows.laid_math_bits_deBruijn64tab) }
def laid5 : List (String × DataW Unit) := Rows.langLimitsRow.laid
set_option maxRecDepth 100000 in
theorem laid_met (os : Os) (args : Array Value) : laidMet Tryz.prog laid5 ((laidWorld os).forCall (fun _ _ => 0) ⟨#[], args, []⟩).memory :=
  laidMet_of_run' 8 (by kernel_rfl) (by kernel_rfl)
theorem own : ownKnob Tryz.prog.godebug = none := by kernel_rfl
theorem Frm.kept {w w' : World} (h : Frm (fun _ => False) w w') (may : MemPlace → Prop) : w.keptBut w' may := by
  refine ⟨h.3.1, h.3.2, fun i hi => ?_⟩
  rw [h.2 i hi id]
  split <;> simp_all
end Go.Proofs.YtpdbkdcdlafobaaGreatDoor
end
