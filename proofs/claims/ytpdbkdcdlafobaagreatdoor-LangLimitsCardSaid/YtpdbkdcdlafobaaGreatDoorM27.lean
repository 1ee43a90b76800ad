/- Texts of steps that use no name: what L.readText gives is told by the parse alone. What L.readText gives at the texts of LangLimits. The contract of Fill: the hole is there. The contract of Fill, whatever the pieces are. Contracts of the program's functions, with no condition beyond what each theorem states. -/
import Derived.Test.YtpdbkdcdlafobaaGreatDoorM26
import Derived.Test.YtpdbkdcdlafobaaGreatDoorM01
import Derived.Test.YtpdbkdcdlafobaaGreatDoorM25
import Derived.Deep.RegionHeld3
import Derived.IntWalk
section
namespace Go.Proofs.YtpdbkdcdlafobaaGreatDoor.L
mutual
/-- A term of steps, numbers and loops alone, its rows flat. -/
def plainT : Tm → Bool
  | .skip => true
  | .num _ => true
  | .loop x y => plainT x && plainT y
  | .row ts => decide (2 ≤ ts.length) && plainL ts
  | .stop _ => false | .fault _ => false | .assign _ _ => false | .choice _ _ _ _ => false | .fresh _ _ _ _ => false | .call _ _ _ => false | .proc _ _ _ _ _ _ => false
  | .read _ => false | .binary _ _ _ => false | .doing _ _ => false | .labelled _ _ => false | .exit _ _ => false
def plainL : List Tm → Bool
  | [] => true
  | t :: ts => !isRow t && (plainT t && plainL ts)
end
theorem steps_of {t : Tm} (h : isRow t = false) : stepsOf t = [t] := by cases t <;> first | rfl | simp [isRow] at h
theorem inRow_self {ts : List Tm} (h : ts.flatMap stepsOf = ts) (h2 : 2 ≤ ts.length) : inRow ts = .row ts := by
  unfold inRow
  rw [h]
  match ts, h2 with
  | a :: b :: ts, _ => rfl
mutual
theorem rd_plain : ∀ (t : Tm) (bs : List Bnd), plainT t = true → rd visResolve bs t 0 = (t, 0)
  | .skip, bs, _ => by simp [rd, at_, visResolve, meant, wrong, isRead]
  | .num _, bs, _ => by simp [rd, at_, visResolve, meant, wrong, isRead]
  | .loop x y, bs, h => by
    simp only [plainT, Bool.and_eq_true] at h
    have h1 := rd_plain x bs h.1
    have h2 := rd_plain y bs h.2
    simp [rd, at_, visResolve, meant, wrong, isRead, h1, h2]
  | .row ts, bs, h => by
    simp only [plainT, Bool.and_eq_true, decide_eq_true_eq] at h
    obtain ⟨h1, h2⟩ := rdL_plain ts bs h.2
    rw [rd, h1, inRow_self h2 h.1]
  | .stop _, _, h => by simp [plainT] at h
  | .fault _, _, h => by simp [plainT] at h
  | .assign _ _, _, h => by simp [plainT] at h
  | .choice _ _ _ _, _, h => by simp [plainT] at h
  | .fresh _ _ _ _, _, h => by simp [plainT] at h
  | .call _ _ _, _, h => by simp [plainT] at h
  | .proc _ _ _ _ _ _, _, h => by simp [plainT] at h
  | .read _, _, h => by simp [plainT] at h
  | .binary _ _ _, _, h => by simp [plainT] at h
  | .doing _ _, _, h => by simp [plainT] at h
  | .labelled _ _, _, h => by simp [plainT] at h
  | .exit _ _, _, h => by simp [plainT] at h
theorem rdL_plain : ∀ (ts : List Tm) (bs : List Bnd), plainL ts = true → rdL visResolve bs ts 0 = (ts, 0) ∧ ts.flatMap stepsOf = ts
  | [], _, _ => ⟨rfl, rfl⟩
  | t :: ts, bs, h => by
    simp only [plainL, Bool.and_eq_true, Bool.not_eq_true'] at h
    have h1 := rd_plain t bs h.2.1
    obtain ⟨h2, h3⟩ := rdL_plain ts bs h.2.2
    exact ⟨by rw [rdL, h1, h2], by rw [List.flatMap_cons, steps_of h.1, h3]; rfl⟩
end
def quick (l : Bytes) : Option (Nat × Nat) := match parse l with
  | some ([], ty, t) => if plainT t then (if ty = 0 then some (nodes t, levels t) else none) else none
  | _ => none
theorem quick_read {l : Bytes} {n v : Nat} (h : quick l = some (n, v)) : ∃ t, readText l = (if 600 < n ∨ 60 < v then (5, none) else (0, some ⟨[], 0, t⟩)) ∧ nodes t = n := by
  unfold quick at h
  split at h
  · rename_i ty t hp
    split at h
    · rename_i ht
      split at h
      · rename_i hty
        simp only [Option.some.injEq, Prod.mk.injEq] at h
        refine ⟨t, ?_, h.1⟩
        unfold readText
        rw [hp]
        have hr : resolve [] t = (t, 0) := rd_plain t _ ht
        simp only [hr, hty, newPiece, h.1, h.2]
        simp [sortD]
      · cases h
    · cases h
  · cases h
def okQ (q : Option (Nat × Nat)) (f : Nat → Bool) : Bool := match q with
  | some (n, v) => f n && (decide (n ≤ 600) && decide (v ≤ 60))
  | none => false
def fullQ (q : Option (Nat × Nat)) : Bool := match q with
  | some (n, v) => !(decide (n ≤ 600) && decide (v ≤ 60))
  | none => false
theorem okQ_out {l : Bytes} {f : Nat → Bool} (h : okQ (quick l) f = true) : ∃ P, readText l = (0, some P) ∧ f (nodes P.root) = true := by
  unfold okQ at h
  split at h
  · rename_i n v hq
    obtain ⟨t, h1, h2⟩ := quick_read hq
    simp only [Bool.and_eq_true, decide_eq_true_eq] at h
    rw [if_neg (by omega)] at h1
    exact ⟨_, h1, by dsimp only; rw [h2]; exact h.1⟩
  · cases h
theorem fullQ_out {l : Bytes} (h : fullQ (quick l) = true) : readText l = (5, none) := by
  unfold fullQ at h
  split at h
  · rename_i n v hq
    obtain ⟨t, h1, h2⟩ := quick_read hq
    rw [h1, if_pos]
    simp only [Bool.not_eq_true', Bool.and_eq_false_iff, decide_eq_false_iff_not] at h
    omega
  · cases h
end Go.Proofs.YtpdbkdcdlafobaaGreatDoor.L
end
section
namespace Go.Proofs.YtpdbkdcdlafobaaGreatDoor.L
def stepsAt (deep : Nat) : Nat := (600 - 2 * deep + 1) / 2
def repR (x : Bytes) : Nat → Bytes | 0 => [] | n + 1 => x ++ repR x n
def skipsR : Nat → Bytes | 0 => [] | 1 => [115, 107, 105, 112] | n + 2 => [115, 107, 105, 112, 59] ++ skipsR (n + 1)
def rowR (steps deep : Nat) : Bytes := [124, 45, 32, 99, 111, 109, 32, 58, 32] ++ (repR [119, 104, 105, 108, 101, 32, 49, 32, 123, 32] deep ++ (skipsR steps ++ repR [32, 125] deep))
theorem repR_snoc (x : Bytes) : ∀ n, repR x (n + 1) = repR x n ++ x | 0 => by simp [repR] | n + 1 => by show x ++ repR x (n + 1) = (x ++ repR x n) ++ x; rw [repR_snoc x n, List.append_assoc]
theorem rep_R (x : Bytes) : ∀ n, rep x n = repR x n | 0 => rfl | n + 1 => by rw [rep, rep_R x n, repR_snoc]
theorem skipsR_snoc : ∀ n, skipsR (n + 2) = skipsR (n + 1) ++ ([59] ++ [115, 107, 105, 112]) | 0 => by simp [skipsR] | n + 1 => by show [115, 107, 105, 112, 59] ++ skipsR (n + 2) = ([115, 107, 105, 112, 59] ++ skipsR (n + 1)) ++ _; rw [skipsR_snoc n, List.append_assoc]
theorem skips_R : ∀ n, skips n = skipsR n | 0 => rfl | 1 => by simp [skips, skipsR] | n + 2 => by rw [skips, skips_R (n + 1), skipsR_snoc, if_neg (by omega)]
theorem row_R (s d : Nat) : rowT s d = rowR s d := by unfold rowT rowR; rw [rep_R, rep_R, skips_R, List.append_assoc, List.append_assoc]
def limB (deep : Nat) : Bool := okQ (quick (rowR (stepsAt deep) deep)) (fun n => decide (n = 2 * stepsAt deep - 1 + 2 * deep)) && fullQ (quick (rowR (stepsAt deep + 1) deep))
set_option maxRecDepth 100000
theorem lim0 : limB 0 = true := by decide +kernel
theorem lim1 : limB 1 = true := by decide +kernel
theorem lim2 : limB 2 = true := by decide +kernel
theorem lim3 : limB 3 = true := by decide +kernel
theorem lim4 : limB 4 = true := by decide +kernel
theorem lim5 : limB 5 = true := by decide +kernel
theorem lim6 : limB 6 = true := by decide +kernel
theorem lim7 : limB 7 = true := by decide +kernel
theorem lim8 : limB 8 = true := by decide +kernel
theorem lim9 : limB 9 = true := by decide +kernel
theorem lim10 : limB 10 = true := by decide +kernel
theorem lim11 : limB 11 = true := by decide +kernel
theorem lim12 : limB 12 = true := by decide +kernel
theorem lim13 : limB 13 = true := by decide +kernel
theorem lim14 : limB 14 = true := by decide +kernel
theorem lim15 : limB 15 = true := by decide +kernel
theorem lim16 : limB 16 = true := by decide +kernel
theorem lim17 : limB 17 = true := by decide +kernel
theorem lim18 : limB 18 = true := by decide +kernel
theorem lim19 : limB 19 = true := by decide +kernel
theorem lim20 : limB 20 = true := by decide +kernel
theorem lim21 : limB 21 = true := by decide +kernel
theorem lim22 : limB 22 = true := by decide +kernel
theorem lim23 : limB 23 = true := by decide +kernel
theorem lim24 : limB 24 = true := by decide +kernel
theorem lim25 : limB 25 = true := by decide +kernel
theorem lim26 : limB 26 = true := by decide +kernel
theorem lim27 : limB 27 = true := by decide +kernel
theorem lim28 : limB 28 = true := by decide +kernel
theorem lim29 : limB 29 = true := by decide +kernel
theorem lim30 : limB 30 = true := by decide +kernel
theorem lim31 : limB 31 = true := by decide +kernel
theorem lim32 : limB 32 = true := by decide +kernel
theorem lim33 : limB 33 = true := by decide +kernel
theorem lim34 : limB 34 = true := by decide +kernel
theorem lim35 : limB 35 = true := by decide +kernel
theorem lim36 : limB 36 = true := by decide +kernel
theorem lim37 : limB 37 = true := by decide +kernel
theorem lim38 : limB 38 = true := by decide +kernel
theorem lim39 : limB 39 = true := by decide +kernel
theorem lim40 : limB 40 = true := by decide +kernel
theorem lim41 : limB 41 = true := by decide +kernel
theorem lim42 : limB 42 = true := by decide +kernel
theorem lim43 : limB 43 = true := by decide +kernel
theorem lim44 : limB 44 = true := by decide +kernel
theorem lim45 : limB 45 = true := by decide +kernel
theorem lim46 : limB 46 = true := by decide +kernel
theorem lim47 : limB 47 = true := by decide +kernel
theorem lim48 : limB 48 = true := by decide +kernel
theorem lim49 : limB 49 = true := by decide +kernel
theorem lim50 : limB 50 = true := by decide +kernel
theorem lim51 : limB 51 = true := by decide +kernel
theorem lim52 : limB 52 = true := by decide +kernel
theorem lim53 : limB 53 = true := by decide +kernel
theorem lim54 : limB 54 = true := by decide +kernel
theorem lim55 : limB 55 = true := by decide +kernel
theorem lim56 : limB 56 = true := by decide +kernel
theorem lim57 : limB 57 = true := by decide +kernel
theorem lim58 : limB 58 = true := by decide +kernel
theorem lim_all : ∀ d, d < 59 → limB d = true
  | 0, _ => lim0
  | 1, _ => lim1
  | 2, _ => lim2
  | 3, _ => lim3
  | 4, _ => lim4
  | 5, _ => lim5
  | 6, _ => lim6
  | 7, _ => lim7
  | 8, _ => lim8
  | 9, _ => lim9
  | 10, _ => lim10
  | 11, _ => lim11
  | 12, _ => lim12
  | 13, _ => lim13
  | 14, _ => lim14
  | 15, _ => lim15
  | 16, _ => lim16
  | 17, _ => lim17
  | 18, _ => lim18
  | 19, _ => lim19
  | 20, _ => lim20
  | 21, _ => lim21
  | 22, _ => lim22
  | 23, _ => lim23
  | 24, _ => lim24
  | 25, _ => lim25
  | 26, _ => lim26
  | 27, _ => lim27
  | 28, _ => lim28
  | 29, _ => lim29
  | 30, _ => lim30
  | 31, _ => lim31
  | 32, _ => lim32
  | 33, _ => lim33
  | 34, _ => lim34
  | 35, _ => lim35
  | 36, _ => lim36
  | 37, _ => lim37
  | 38, _ => lim38
  | 39, _ => lim39
  | 40, _ => lim40
  | 41, _ => lim41
  | 42, _ => lim42
  | 43, _ => lim43
  | 44, _ => lim44
  | 45, _ => lim45
  | 46, _ => lim46
  | 47, _ => lim47
  | 48, _ => lim48
  | 49, _ => lim49
  | 50, _ => lim50
  | 51, _ => lim51
  | 52, _ => lim52
  | 53, _ => lim53
  | 54, _ => lim54
  | 55, _ => lim55
  | 56, _ => lim56
  | 57, _ => lim57
  | 58, _ => lim58
  | n + 59, h => absurd h (by omega)
def y1 : Bytes := [97, 40, 99, 111, 109, 44, 32, 101, 120, 112, 44, 32, 99, 111, 109, 41, 32, 58, 32, 99, 111, 109, 44, 32, 98, 32, 58, 32, 99, 111, 109, 44, 32, 99, 32, 58, 32, 99, 111, 109, 44, 32, 97, 98, 99, 100, 101, 102, 103, 104, 32, 58, 32, 99, 111, 109, 32, 124, 45, 32, 99, 111, 109, 32, 58, 32, 97, 98, 99, 100, 101, 102, 103, 104]
def y2 : Bytes := [97, 40, 99, 111, 109, 44, 32, 101, 120, 112, 44, 32, 99, 111, 109, 44, 32, 99, 111, 109, 41, 32, 58, 32, 99, 111, 109, 32, 124, 45, 32, 99, 111, 109, 32, 58, 32, 115, 107, 105, 112]
def y3 : Bytes := [97, 32, 58, 32, 99, 111, 109, 44, 32, 98, 32, 58, 32, 99, 111, 109, 44, 32, 99, 32, 58, 32, 99, 111, 109, 44, 32, 100, 32, 58, 32, 99, 111, 109, 44, 32, 101, 32, 58, 32, 99, 111, 109, 32, 124, 45, 32, 99, 111, 109, 32, 58, 32, 115, 107, 105, 112]
def y4 : Bytes := [97, 98, 99, 100, 101, 102, 103, 104, 105, 32, 58, 32, 99, 111, 109, 32, 124, 45, 32, 99, 111, 109, 32, 58, 32, 115, 107, 105, 112]
theorem limC : (okQ (quick (rowR 1 59)) (fun _ => true) && (fullQ (quick (rowR 1 60)) && (okQ (quick (rowR 2 58)) (fun _ => true) && fullQ (quick (rowR 2 59))))) = true := by decide +kernel
theorem limD : (isOk (readText y1) (fun _ => true) && (isErr (readText y2) 2 && (isErr (readText y3) 2 && isErr (readText y4) 2))) = true := by decide +kernel
theorem pad_R (n : Nat) : pad n = [124, 45, 32, 99, 111, 109, 32, 58, 32, 115, 107, 105, 112] ++ repR [32] n := by unfold pad; rw [rep_R]
theorem limE : okQ (quick ([124, 45, 32, 99, 111, 109, 32, 58, 32, 115, 107, 105, 112] ++ repR [32] 3987)) (fun _ => true) = true := by decide +kernel
theorem limF : isErr (readText ([124, 45, 32, 99, 111, 109, 32, 58, 32, 115, 107, 105, 112] ++ repR [32] 3988)) 2 = true := by decide +kernel
theorem lim_facts (d : Nat) (h : d < 59) : ∃ P, readText (rowT (stepsAt d) d) = (0, some P) ∧ nodes P.root = 2 * stepsAt d - 1 + 2 * d ∧ readText (rowT (stepsAt d + 1) d) = (5, none) := by
  have hb := lim_all d h
  unfold limB at hb
  rw [Bool.and_eq_true] at hb
  rw [row_R, row_R]
  obtain ⟨P, h1, h2⟩ := okQ_out hb.1
  exact ⟨P, h1, of_decide_eq_true h2, fullQ_out hb.2⟩
theorem lim_more : (∃ P, readText (rowT 1 59) = (0, some P)) ∧ readText (rowT 1 60) = (5, none) ∧ (∃ P, readText (rowT 2 58) = (0, some P)) ∧ readText (rowT 2 59) = (5, none) ∧ (∃ P, readText y1 = (0, some P)) ∧ readText y2 = (2, none) ∧ readText y3 = (2, none) ∧ readText y4 = (2, none) ∧ (∃ P, readText (pad 3987) = (0, some P)) ∧ readText (pad 3988) = (2, none) := by
  have hc := limC
  have hd := limD
  simp only [Bool.and_eq_true] at hc hd
  rw [row_R, row_R, row_R, row_R, pad_R, pad_R]
  obtain ⟨P1, h1, _⟩ := okQ_out hc.1
  obtain ⟨P2, h2, _⟩ := okQ_out hc.2.2.1
  obtain ⟨P3, h3, _⟩ := isOk_out hd.1
  obtain ⟨P4, h4, _⟩ := okQ_out limE
  exact ⟨⟨P1, h1⟩, fullQ_out hc.2.1, ⟨P2, h2⟩, fullQ_out hc.2.2.2, ⟨P3, h3⟩, isErr_out hd.2.1, isErr_out hd.2.2.1, isErr_out hd.2.2.2, ⟨P4, h4⟩, isErr_out limF⟩
end Go.Proofs.YtpdbkdcdlafobaaGreatDoor.L
end
section
namespace Go.Proofs.YtpdbkdcdlafobaaGreatDoor
open Go.RowKit
theorem Dls.cut {w : World} {lo : Nat} : ∀ (k : Nat) {ds : List L.Decl} {cs : List Value}, Dls w lo ds cs → Dls w lo (ds.take k) (cs.take (k * 3)) ∧ Dls w lo (ds.drop k) (cs.drop (k * 3))
  | 0, _, _, h => ⟨by simp [Dls], by simpa using h⟩
  | _ + 1, [], _, h => by
    have h : _ = [] := h
    subst h; simp [Dls]
  | k + 1, d :: ds, _, ⟨a, cs', h1, h2, h3⟩ => by
    subst h1
    have ih := Dls.cut k h3
    rw [show (k + 1) * 3 = k * 3 + 1 + 1 + 1 from by omega]
    exact ⟨⟨a, _, rfl, h2, ih.1⟩, ih.2⟩
theorem L.rest_ok {C : L.Piece} (f : L.Fit C) (j : Nat) : (C.decls.take j ++ C.decls.drop (j + 1)).length ≤ 4 ∧ L.Names (C.decls.take j ++ C.decls.drop (j + 1)) ∧ ∀ d ∈ C.decls.take j ++ C.decls.drop (j + 1), d.args.length ≤ 3 := by
  have h1 : (C.decls.drop (j + 1)).Sublist (C.decls.drop j) := by rw [← List.drop_drop]; exact List.drop_sublist _ _
  have h2 := (List.Sublist.refl (C.decls.take j)).append h1
  rw [List.take_append_drop] at h2
  exact ⟨Nat.le_trans h2.length_le f.decls, List.Sublist.nodup (List.Sublist.map (fun d : L.Decl => d.name) h2) f.names, fun d hd => f.args d (h2.mem hd)⟩
theorem own_cap {w : World} {base size n : Nat} {e : TypeId} {g c : Nat} {A : Option Addr} {xs : List Value} (h : w.ownsRow base e size (.slice A n c) n xs) (hn : g < n) : n ≤ c ∧ c ≤ maxLen := by
  rcases h.2 with ⟨_, h0⟩ | ⟨g', cap, cur, h1, _, _, h4, h5, _⟩
  · omega
  · injection h1 with _ _ h3
    subst h3
    exact ⟨h4, h5⟩
theorem Dls.app {w : World} {lo : Nat} : ∀ {ds ds' : List L.Decl} {cs cs' : List Value}, Dls w lo ds cs → Dls w lo ds' cs' → Dls w lo (ds ++ ds') (cs ++ cs')
  | [], _, _, _, h, h' => by
    have h : _ = [] := h
    subst h; simpa using h'
  | d :: ds, _, _, _, ⟨a, cs1, h1, h2, h3⟩, h' => ⟨a, cs1 ++ _, by rw [h1]; rfl, h2, Dls.app h3 h'⟩
set_option maxRecDepth 100000 in
set_option maxHeartbeats 8000000 in
theorem fill_main {w : World} {pc pp : Nat} {C P : L.Piece} (hC : PcAt w pc C) (hP : PcAt w pp P) (fC : L.Fit C)
    {j : Nat} (hh : L.holeAt C.decls = j) (hj : j < C.decls.length) (hty : C.decls[j].result = P.typ) (fP : L.Fit P) :
    Calls Tryz.prog 9 #[.pointer (some ⟨pc, 0, none⟩), .pointer (some ⟨pp, 0, none⟩)] w (PcPost w (L.fill C P)) := by
  have hn : C.decls.length ≤ 1000 := Nat.le_trans fC.decls (by omega)
  have hPf := fP.flat
  have hPn := fP.nodes
  have hCn := fC.nodes
  have hPd : P.decls.length ≤ 1000 := Nat.le_trans fP.decls (by omega)
  have HFC := Lib.hid fC
  have HFP := Lib.hid fP
  clear fC fP
  have F0 := (Frm.refl (fun _ => False) w).alloc (.cells #[.pointer (some ⟨pp, 0, none⟩)] 22)
  have BX := Blk.new w 22 #[.pointer (some ⟨pp, 0, none⟩)]
  have c0 := BX.cell 0
  have hC1 := hC.keep F0
  have hP1 := hP.keep F0
  have V1 : Pv (w.alloc (.cells #[.pointer (some ⟨pp, 0, none⟩)] 22)) (.pointer (some ⟨pc, 0, none⟩)) (some C) := ⟨pc, rfl, hC1⟩
  have V2 : Pv (w.alloc (.cells #[.pointer (some ⟨pp, 0, none⟩)] 22)) (.pointer (some ⟨pp, 0, none⟩)) (some P) := ⟨pp, rfl, hP1⟩
  have HV1 := Lib.hid V1
  have HV2 := Lib.hid V2
  have HF := Lib.hid F0
  obtain ⟨dv, rv, hbc, hdc, hrc⟩ := hC1
  have hrc0 : Rep _ (· < (w.alloc (.cells #[.pointer (some ⟨pp, 0, none⟩)] 22)).heap.size) C.root rv := hrc.sub fun _ _ h => h
  obtain ⟨TC, xC, rfl⟩ := Rep.form hrc0
  have HRC := Lib.hid hrc0
  obtain ⟨dv', rv', hbp, hdp, hrp⟩ := hP1
  have hrp0 : Rep _ (· < (w.alloc (.cells #[.pointer (some ⟨pp, 0, none⟩)] 22)).heap.size) P.root rv' := hrp.sub fun _ _ h => h
  have HRP := Lib.hid hrp0
  have HDP := Lib.hid hdp
  clear hrc hrc0 hrp hrp0
  obtain ⟨A, c, rfl, hcs⟩ := dls_cells hdc
  have HD := Lib.hid hdc
  have k0 := hbc.cell 0
  have HBC := Lib.hid hbc
  have HBP := Lib.hid hbp
  have HBX := Lib.hid BX
  have HCS := Lib.hid hcs
  clear hC hP V1 V2 F0 BX hbc hdc hbp hdp hcs
  go_enter Tryz.func9, Tryz.ntmps9
  go_wp2_with fail
  refine (valid_any HV1.out).mono ?_
  rintro _ w1 ⟨rfl, rfl⟩
  go_wp2_with fail
  refine (valid_any HV2.out).mono ?_
  rintro _ w1 ⟨rfl, rfl⟩
  go_wp2_with fail
  refine (index_any HD.out hn).mono ?_
  rintro _ w1 ⟨rfl, f1⟩
  have HF1 := Lib.hid (HF.out.trans f1)
  obtain ⟨g, Aa, ca, hg0, hca, hcb, hcc, -⟩ := HCS.out j hj
  subst hg0
  rw [hh]
  rw [hty] at hcc
  have x0 := (f1.blk HBC.out id).drew.cell 0
  have x1 := (f1.blk HBP.out id).drew.cell 1
  have x2 := (f1.drew).cell id hcc
  have x3 := (f1.blk HBX.out id).drew.cell 0
  have HFd := Lib.hid HF1.out.drew
  have HBC2 := Lib.hid (f1.blk HBC.out id)
  have HBX2 := Lib.hid (f1.blk HBX.out id)
  have HBP2 := Lib.hid (f1.blk HBP.out id)
  have HDP2 : Hid (Decls w1 0 dv' P.decls) := HDP.out.keep (Nat.zero_le _) fun b _ hl => f1.2 b hl id
  have HRC2 := Lib.hid (Rep.keep (A' := fun b => b < w1.heap.size) (f1.same fun _ _ _ => id) (fun b hb _ => Nat.lt_of_lt_of_le hb f1.1) HRC.out)
  have HRP2 := Lib.hid (Rep.keep (A' := fun b => b < w1.heap.size) (f1.same fun _ _ _ => id) (fun b hb _ => Nat.lt_of_lt_of_le hb f1.1) HRP.out)
  have HD2 : Hid (Decls w1 0 (.slice (some ⟨g, 0, none⟩) C.decls.length c) C.decls) := HD.out.keep (Nat.zero_le _) fun b _ hl => f1.2 b hl id
  have HHH := Lib.hid hh
  have HTY := Lib.hid hty
  clear hh f1 k0 c0 hca hcb hcc hty
  have hjj : (j : Int) < (C.decls.length : Int) := by omega
  go_wp2_with fail
  go_region
  clear x0 x1 x2 x3
  have F0 : Frm (fun _ => False) w1 (w1.alloc (.cells #[.int .i64 0] 23)).drew := ((Frm.refl (fun _ => False) w1).alloc (.cells #[.int .i64 0] 23)).drew
  have y0 := (F0.blk HBC2.out id).cell 0
  have e1 := (Blk.new w1 23 #[.int .i64 0]).drew
  go_wp2_with fail
  refine (newReader_any _ C.decls _ (HD2.out.keep (Nat.le_refl _) fun b _ hl => F0.2 b hl id) hn).mono ?_
  rintro _ w2 ⟨rfl, rd1, f2⟩
  have hsd : (w1.alloc (.cells #[.int .i64 0] 23)).drew.heap.size = w1.heap.size + 1 := World.size_alloc _ _
  rw [hsd] at rd1
  try rw [hsd]
  have hE1 : Hid (ErrAt w2 w1.heap.size 0) := f2.blk e1 id
  have hs1 : w1.heap.size + 1 < w2.heap.size := by obtain ⟨v', hb, _⟩ := rd1; exact hb.lt
  obtain ⟨g2, c2, hlo, hgR, hb2, hc2, ⟨u2, hu2⟩, hz2, rd3, f3⟩ := rd1.hole (k := j) (by rw [List.length_map]; exact hj)
  rw [List.length_map] at hb2 hc2
  have hg2 : g2 < w2.heap.size := lt_of_cell hu2
  have z0 := hb2.cell 0
  have z1 := hb2.cell 1
  have q1 := hb2.frozen 1
  have zz1 : ∀ o, (w2.alloc o).cell? ⟨w1.heap.size + 1, 1, none⟩ = some .nilFunc := fun o => (hb2.alloc o).cell 1
  have qq1 : ∀ o, (w2.alloc o).frozen? ⟨w1.heap.size + 1, 1, none⟩ = false := fun o => (hb2.alloc o).frozen 1
  obtain ⟨rd4, f4⟩ := rd3.visit (.func (.func 25) #[] #[.pointer (some ⟨w2.heap.size, 0, none⟩), .pointer (some ⟨w1.heap.size, 0, none⟩), .pointer (some ⟨w.heap.size, 0, none⟩)])
  have HF3 := Lib.hid f3
  have HF4 := Lib.hid f4
  have HRD4 := Lib.hid rd4
  have HF2 := Lib.hid (F0.trans f2)
  have sf := run_store_func
  clear rd1 rd3 rd4 f4 f3 f2 F0 e1 HCS HV1 HV2
  go_wp2_with fail
  obtain ⟨W5, hW5⟩ : ∃ W5, W5 = ((w2.setCell ⟨g2, j * 4, none⟩ (.int .i64 5)).setCell ⟨w1.heap.size + 1, 1, none⟩ (.func (.func 25) #[] #[.pointer (some ⟨w2.heap.size, 0, none⟩), .pointer (some ⟨w1.heap.size, 0, none⟩), .pointer (some ⟨w.heap.size, 0, none⟩)])).alloc (.cells #[.pointer (some ⟨w1.heap.size + 1, 0, none⟩)] 64) := ⟨_, rfl⟩
  have hs4 : ((w2.setCell ⟨g2, j * 4, none⟩ (.int .i64 5)).setCell ⟨w1.heap.size + 1, 1, none⟩ (.func (.func 25) #[] #[.pointer (some ⟨w2.heap.size, 0, none⟩), .pointer (some ⟨w1.heap.size, 0, none⟩), .pointer (some ⟨w.heap.size, 0, none⟩)])).heap.size = w2.heap.size := by simp
  have BR5 : Hid (RBox (w1.heap.size + 1) w2.heap.size W5) := by rw [hW5]; exact blk_at (by simp)
  have G5 : Frm (fun b => b = g2 ∨ b = w1.heap.size + 1) w2 W5 := by
    rw [hW5]
    exact ((HF3.out.mono fun _ _ h => .inl h).trans (HF4.out.mono fun _ _ h => .inr h)).alloc _
  have HRD5 : Hid (RdAt W5 (w1.heap.size + 1) (fun b => w1.heap.size + 1 < b) (L.holed j (C.decls.map L.ofDecl)) (.func (.func 25) #[] #[.pointer (some ⟨w2.heap.size, 0, none⟩), .pointer (some ⟨w1.heap.size, 0, none⟩), .pointer (some ⟨w.heap.size, 0, none⟩)])) := by
    rw [hW5]; exact HRD4.out.keep ((Frm.refl _ _).alloc _)
  have FW5 : Hid (Frm (fun _ => False) w1 W5) := Frm.mono (E := fun b => b = g2 ∨ b = w1.heap.size + 1) ((HF2.out.mono fun _ _ h => h.elim).trans G5) fun b hb h => by omega
  have HE5 : Hid (ErrAt W5 w1.heap.size 0) := G5.blk hE1.out (by omega)
  have HBC5 := Lib.hid (FW5.out.blk HBC2.out id)
  have HBX5 := Lib.hid (FW5.out.blk HBX2.out id)
  rw [← hW5]
  have m0 := BR5.out.cell 0
  have m1 := HBC5.out.cell 2
  clear hW5 z0 z1 q1 zz1 qq1 hu2 hz2 y0 hb2 HF3 HF4 HRD4 G5 hs4
  go_still_tail 5, (by kernel_rfl)
  change wpList _ _ _ _ _ W5.drew
  go_wp2_with fail
  have FD := Lib.hid (FW5.out.drew)
  have HRC5 := Lib.hid (Rep.keep (A' := fun b => b < w1.heap.size) (FD.out.same fun _ _ _ => id) (fun b hb _ => hb) HRC2.out)
  have HRP5 := Lib.hid (Rep.keep (A' := fun b => b < w1.heap.size) (FD.out.same fun _ _ _ => id) (fun b hb _ => hb) HRP2.out)
  have HInv : Hid (FInv w1.heap.size (w1.heap.size + 1) w2.heap.size w.heap.size pp P W5.drew) := ⟨BR5.out.drew, HBX5.out.drew, dv', rv', FD.out.blk HBP2.out id, HDP2.out.keep (Nat.zero_le _) fun b _ hl => FD.out.2 b hl id, HRP5.out⟩
  have hG : L.Good 600 (L.visFill P) := fun bs t e u hu => by
    unfold L.visFill at hu
    split at hu
    · dsimp only at hu
      injection hu with hu
      subst hu
      exact ⟨HRP5.out.ok, hPf, hPn⟩
    · exact absurd hu (by simp)
  have hlv := HRC5.out.ok.levels
  refine (read_ok (P := 600) (by omega) hG (fill2_vis w1.heap.size (w1.heap.size + 1) w1.heap.size w2.heap.size w.heap.size pp P hPd) HRC5.out.ok _ (fun b => w1.heap.size + 1 < b) (L.holed j (C.decls.map L.ofDecl)) 0 _ ⟨HRD5.out.keep (Frm0.drew _), HE5.out.drew⟩ HInv.out FD.out.1 (by rw [L.holed_length, List.length_map]; omega) (by omega) HRC5.out).mono ?_
  rintro _ w6 ⟨⟨v6, rfl, hv6⟩, rs6, k6⟩
  have F6 : Hid (Frm (fun _ => False) w1 w6) := Frm.mono (E := fun b => b = w1.heap.size + 1 ∨ b = w1.heap.size ∨ w1.heap.size + 1 < b) ((FD.out.mono fun _ _ h => h.elim).trans k6.3) fun b hb h => by omega
  have F6w : Hid (Frm (fun _ => False) w w6) := HF1.out.trans F6.out
  have HRS6 := Lib.hid rs6
  have e6 := rs6.err.cell 0
  obtain ⟨T6, x6, rfl⟩ := Rep.form hv6
  have HV6 := Lib.hid hv6
  have HBC6 := Lib.hid (F6.out.blk HBC2.out id)
  have HD6 : Hid (Decls w6 0 (.slice (some ⟨g, 0, none⟩) C.decls.length c) C.decls) := HD2.out.keep (Nat.zero_le _) fun b _ hl => F6.out.2 b hl id
  have hfill : L.fill C P = if (L.rd (L.visFill P) (L.holed j (C.decls.map L.ofDecl)) C.root 0).2 ≠ 0 then ((L.rd (L.visFill P) (L.holed j (C.decls.map L.ofDecl)) C.root 0).2, none) else L.newPiece (C.decls.take j ++ C.decls.drop (j + 1)) C.typ (L.rd (L.visFill P) (L.holed j (C.decls.map L.ofDecl)) C.root 0).1 := by
    have h1 : ¬ L.holeAt C.decls < 0 := by rw [HHH.out]; omega
    have h2 : ¬ (C.decls.getD (L.holeAt C.decls).toNat default).result ≠ P.typ := by rw [HHH.out]; simpa [hj] using HTY.out
    rw [L.fill, if_neg h1, if_neg h2, HHH.out]
    rfl
  have HX := Lib.hid hfill
  clear hfill rs6 k6 hv6 hlv m0 m1
  have hn6 := (L.rd_fine (P := 600) (by omega) hG HFC.out.ok (L.holed j (C.decls.map L.ofDecl)) 0).2.2
  have HN6 : Hid (L.nodes (L.rd (L.visFill P) (L.holed j (C.decls.map L.ofDecl)) C.root 0).1 ≤ 1000000) := Nat.le_trans hn6 (by omega)
  clear hn6
  generalize L.rd (L.visFill P) (L.holed j (C.decls.map L.ofDecl)) C.root 0 = rr at *
  obtain ⟨t6, er⟩ := rr
  dsimp only at e6 HV6 HX HN6
  by_cases h0 : er = 0
  · subst h0
    have HY : Hid (L.fill C P = L.newPiece (C.decls.take j ++ C.decls.drop (j + 1)) C.typ t6) := by rw [HX.out]; exact if_neg (by simp)
    obtain ⟨cs, ho, hdl⟩ := HD6.out
    have k0 := HBC6.out.cell 0
    have k1 := HBC6.out.cell 1
    have hcap : C.decls.length ≤ c := (own_cap HD6.out.choose_spec.1 hj).1
    have HO := Lib.hid ho
    have HDL := Lib.hid hdl
    have HJ := Lib.hid hj
    have b1 : (j : Int) ≤ (c : Int) := by omega
    have b2 : (j : Int) + 1 ≤ (C.decls.length : Int) := by omega
    have b3 : (0 : Int) ≤ (j : Int) + 1 := by omega
    have b4 : (0 : Int) ≤ (j : Int) := by omega
    have b5 : (C.decls.length : Int) ≤ (c : Int) := by omega
    have b6 : ((j : Int) + 1).toNat = j + 1 := by omega
    have b7 : IntKind.i64.wrap ((j : Int) + 1) = (j : Int) + 1 := IntWalk.i64_in _ (by omega)
    clear ho hdl HX b7
    go_wp2_with fail
    have b7 : IntKind.i64.wrap ((j : Int) + 1) = (j : Int) + 1 := IntWalk.i64_in _ (by omega)
    clear e6 hlo hgR hs1 hg2 hjj hPf hPn hCn hPd hn hcap hsd
    go_still_tail 13, (by kernel_rfl)
    change wpList _ _ _ _ _ w6.drew
    clear b7
    go_wp2_with fail
    · obtain ⟨W7, hW7⟩ : ∃ W7, W7 = (w6.alloc (.cells #[.slice (some ⟨g, 0, none⟩) j (j + 1), .slice (some ⟨g, 0, none⟩) (C.decls.length - (j + 1)) 0] 31)).drew := ⟨_, rfl⟩
      have F7 : Frm (fun _ => False) w6 W7 := by rw [hW7]; exact ((Frm.refl _ w6).alloc _).drew
      have hb7 : Blk W7 w6.heap.size 31 #[.slice (some ⟨g, 0, none⟩) j (j + 1), .slice (some ⟨g, 0, none⟩) (C.decls.length - (j + 1)) 0] := by rw [hW7]; exact (Blk.new w6 _ _).drew
      rw [← hW7]
      have hcl : cs.length = C.decls.length * 3 := HO.out.1
      have hjn := HJ.out
      have hcc := @World.ownsRow.cells _ _ _ _ _ _ _ HO.out g rfl
      refine (concat_any W7 w6.heap.size ⟨g, 0, none⟩ ⟨g, 0, none⟩ (cs.take (j * 3)) (cs.drop ((j + 1) * 3)) j (C.decls.length - (j + 1)) (j + 1) 0 (hb7.cell 0) (hb7.cell 1) (by rw [List.length_take]; omega) (by rw [List.length_drop]; omega) ?cx1 ?cy1 (fun u hu => HDL.out.one u (List.mem_of_mem_take hu)) (fun u hu => HDL.out.one u (List.mem_of_mem_drop hu)) (by have := HFC.out.decls; omega)).mono ?_
      case cx1 =>
        intro i u hu
        have hi : i < j * 3 := by
          have := (List.getElem?_eq_some_iff.1 hu).1
          rw [List.length_take] at this; omega
        rw [List.getElem?_take_of_lt hi] at hu
        have := F7.cell id (hcc i u hu)
        exact this
      case cy1 =>
        intro i u hu
        rw [List.getElem?_eq_none (by rw [List.length_drop]; omega)] at hu
        cases hu
      rintro _ w8 ⟨v8, rfl, ho8, f8⟩
      have hlen : (C.decls.take j ++ C.decls.drop (j + 1)).length = j + (C.decls.length - (j + 1)) := by rw [List.length_append, List.length_take, List.length_drop]; omega
      have F78 : Frm (fun _ => False) w6 w8 := F7.trans f8
      have HD8 : Hid (Decls w8 0 v8 (C.decls.take j ++ C.decls.drop (j + 1))) := ⟨_, by rw [hlen]; exact own_base ho8 (Nat.zero_le _), Dls.keep (Nat.zero_le _) (fun b _ hl => F78.2 b hl id) (Dls.app (HDL.out.cut j).1 (HDL.out.cut (j + 1)).2)⟩
      obtain ⟨A8, c8, rfl⟩ := own_form ho8
      have HV8 := Lib.hid (Rep.keep (A' := fun _ => True) (F78.same fun _ _ _ => id) (fun _ _ _ => trivial) HV6.out)
      have HF8 := Lib.hid (F6w.out.trans F78)
      have m1 := (F78.blk HBC6.out id).cell 1
      clear hW7 F7 hb7 hcl hjn hcc F78 ho8 f8 hlen k0 k1 b1 b2 b3 b4 b5 b6
      go_wp2_with fail
      have hr := L.rest_ok HFC.out j
      refine (newPiece_any _ _ _ C.typ t6 w8 HD8.out hr.1 hr.2.1 hr.2.2 HV8.out HN6.out).mono ?_
      rintro _ w9 ⟨f9, pv, rfl, hpv⟩
      have HPV := Lib.hid hpv
      have F9 := Lib.hid (HF8.out.trans f9)
      clear hr
      generalize L.newPiece (C.decls.take j ++ C.decls.drop (j + 1)) C.typ t6 = np at *
      obtain ⟨n1, n2⟩ := np
      dsimp only at hpv
      have hpf : ∃ a, pv = .pointer a := by
        cases n2 with
        | none => exact ⟨_, hpv⟩
        | some P => obtain ⟨p, h, _⟩ := hpv; exact ⟨_, h⟩
      obtain ⟨a, rfl⟩ := hpf
      clear hpv f9
      go_wp2_with fail
      go_ret2
      rw [HY.out]
      exact ⟨F9.out, _, rfl, HPV.out⟩
    · obtain ⟨W7, hW7⟩ : ∃ W7, W7 = (w6.alloc (.cells #[.slice (some ⟨g, 0, none⟩) j c, .slice (some ⟨g, (j + 1) * 3, none⟩) (C.decls.length - (j + 1)) (c - (j + 1))] 31)).drew := ⟨_, rfl⟩
      have F7 : Frm (fun _ => False) w6 W7 := by rw [hW7]; exact ((Frm.refl _ w6).alloc _).drew
      have hb7 : Blk W7 w6.heap.size 31 #[.slice (some ⟨g, 0, none⟩) j c, .slice (some ⟨g, (j + 1) * 3, none⟩) (C.decls.length - (j + 1)) (c - (j + 1))] := by rw [hW7]; exact (Blk.new w6 _ _).drew
      rw [← hW7]
      have hcl : cs.length = C.decls.length * 3 := HO.out.1
      have hjn := HJ.out
      have hcc := @World.ownsRow.cells _ _ _ _ _ _ _ HO.out g rfl
      refine (concat_any W7 w6.heap.size ⟨g, 0, none⟩ ⟨g, (j + 1) * 3, none⟩ (cs.take (j * 3)) (cs.drop ((j + 1) * 3)) j (C.decls.length - (j + 1)) c (c - (j + 1)) (hb7.cell 0) (hb7.cell 1) (by rw [List.length_take]; omega) (by rw [List.length_drop]; omega) ?cx2 ?cy2 (fun u hu => HDL.out.one u (List.mem_of_mem_take hu)) (fun u hu => HDL.out.one u (List.mem_of_mem_drop hu)) (by have := HFC.out.decls; omega)).mono ?_
      case cx2 =>
        intro i u hu
        have hi : i < j * 3 := by
          have := (List.getElem?_eq_some_iff.1 hu).1
          rw [List.length_take] at this; omega
        rw [List.getElem?_take_of_lt hi] at hu
        have := F7.cell id (hcc i u hu)
        exact this
      case cy2 =>
        intro i u hu
        rw [List.getElem?_drop] at hu
        have := F7.cell id (hcc _ u hu)
        rw [add_zero_off] at this
        rw [show (⟨g, (j + 1) * 3, none⟩ : Addr).add i = ⟨g, (j + 1) * 3 + i, none⟩ from by unfold Addr.add; split <;> simp_all]
        exact this
      rintro _ w8 ⟨v8, rfl, ho8, f8⟩
      have hlen : (C.decls.take j ++ C.decls.drop (j + 1)).length = j + (C.decls.length - (j + 1)) := by rw [List.length_append, List.length_take, List.length_drop]; omega
      have F78 : Frm (fun _ => False) w6 w8 := F7.trans f8
      have HD8 : Hid (Decls w8 0 v8 (C.decls.take j ++ C.decls.drop (j + 1))) := ⟨_, by rw [hlen]; exact own_base ho8 (Nat.zero_le _), Dls.keep (Nat.zero_le _) (fun b _ hl => F78.2 b hl id) (Dls.app (HDL.out.cut j).1 (HDL.out.cut (j + 1)).2)⟩
      obtain ⟨A8, c8, rfl⟩ := own_form ho8
      have HV8 := Lib.hid (Rep.keep (A' := fun _ => True) (F78.same fun _ _ _ => id) (fun _ _ _ => trivial) HV6.out)
      have HF8 := Lib.hid (F6w.out.trans F78)
      have m1 := (F78.blk HBC6.out id).cell 1
      clear hW7 F7 hb7 hcl hjn hcc F78 ho8 f8 hlen k0 k1 b1 b2 b3 b4 b5 b6
      go_wp2_with fail
      have hr := L.rest_ok HFC.out j
      refine (newPiece_any _ _ _ C.typ t6 w8 HD8.out hr.1 hr.2.1 hr.2.2 HV8.out HN6.out).mono ?_
      rintro _ w9 ⟨f9, pv, rfl, hpv⟩
      have HPV := Lib.hid hpv
      have F9 := Lib.hid (HF8.out.trans f9)
      clear hr
      generalize L.newPiece (C.decls.take j ++ C.decls.drop (j + 1)) C.typ t6 = np at *
      obtain ⟨n1, n2⟩ := np
      dsimp only at hpv
      have hpf : ∃ a, pv = .pointer a := by
        cases n2 with
        | none => exact ⟨_, hpv⟩
        | some P => obtain ⟨p, h, _⟩ := hpv; exact ⟨_, h⟩
      obtain ⟨a, rfl⟩ := hpf
      clear hpv f9
      go_wp2_with fail
      go_ret2
      rw [HY.out]
      exact ⟨F9.out, _, rfl, HPV.out⟩
  · have HY : Hid (L.fill C P = (er, none)) := by rw [HX.out]; exact if_pos h0
    have e6d := HRS6.out.err.drew.cell 0
    have F6d := Lib.hid F6w.out.drew
    go_wp2_with fail
    go_region
    go_wp2_with fail
    go_ret2
    rw [HY.out]
    exact ⟨F6d.out, _, rfl, rfl⟩
end Go.Proofs.YtpdbkdcdlafobaaGreatDoor
end
section
namespace Go.Proofs.YtpdbkdcdlafobaaGreatDoor
open Go.RowKit
theorem fill_pc {w : World} {pc pp : Nat} {C P : L.Piece} (hC : PcAt w pc C) (hP : PcAt w pp P) (fC : L.Fit C) (fP : L.Fit P) :
    Calls Tryz.prog 9 #[.pointer (some ⟨pc, 0, none⟩), .pointer (some ⟨pp, 0, none⟩)] w (PcPost w (L.fill C P)) := by
  have hn : C.decls.length ≤ 1000 := Nat.le_trans fC.decls (by omega)
  rcases L.holeAt_lt C.decls with h | ⟨j, h, hj⟩
  · exact fill_early hC hP hn (.inl (by omega))
  · by_cases hty : C.decls[j].result = P.typ
    · exact fill_main hC hP fC h hj hty fP
    · refine fill_early hC hP hn (.inr ⟨by omega, ?_⟩)
      rw [h]
      simpa [hj] using hty
theorem fill_any {w : World} {v1 v2 : Value} {o1 o2 : Option L.Piece} (h1 : Pv w v1 o1) (h2 : Pv w v2 o2) (f1 : ∀ P, o1 = some P → L.Fit P) (f2 : ∀ P, o2 = some P → L.Fit P) :
    Calls Tryz.prog 9 #[v1, v2] w (PcPost w (L.fillO o1 o2)) := by
  cases o1 with
  | none => exact fill_bad h1 h2 (.inl rfl)
  | some C =>
    cases o2 with
    | none => exact fill_bad h1 h2 (.inr rfl)
    | some P =>
      obtain ⟨pc, rfl, hC⟩ := h1
      obtain ⟨pp, rfl, hP⟩ := h2
      exact fill_pc hC hP (f1 C rfl) (f2 P rfl)
theorem fill_yes {w : World} {pc pp : Nat} {C P R : L.Piece} {e : Int} (hC : PcAt w pc C) (hP : PcAt w pp P) (fC : L.Fit C) (fP : L.Fit P) (h : L.fill C P = (e, some R)) :
    Calls Tryz.prog 9 #[.pointer (some ⟨pc, 0, none⟩), .pointer (some ⟨pp, 0, none⟩)] w fun r w' => ∃ g, r = .returned (.tuple #[.pointer (some ⟨g, 0, none⟩), .int .i64 e]) ∧ PcAt w' g R ∧ Frm (fun _ => False) w w' := by
  refine (fill_pc hC hP fC fP).mono ?_
  rw [h]
  rintro r w' ⟨f, v, rfl, p, rfl, hp⟩
  exact ⟨p, rfl, hp, f⟩
end Go.Proofs.YtpdbkdcdlafobaaGreatDoor
end
