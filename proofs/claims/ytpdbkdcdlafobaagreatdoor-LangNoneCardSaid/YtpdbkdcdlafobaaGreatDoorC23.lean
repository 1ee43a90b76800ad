/- The writer at declarations and pieces; Text. The writer at a piece; Text. The nodes of a piece; what a hole is. slices.Equal at types; fits, wrongAround. Contracts of the program's functions, with no condition beyond what each theorem states. -/
import Derived.Test.YtpdbkdcdlafobaaGreatDoorC22
import Derived.Shelf.Strings.OnBuilder
import Derived.Test.YtpdbkdcdlafobaaGreatDoorC14
section
namespace Go.Proofs.YtpdbkdcdlafobaaGreatDoor
open Go.RowKit
theorem term_all {b : Nat} {t : L.Tm} (h : L.Ok t) : L.nums t = true → WOk b t := by
  have nb : ∀ {u : L.Tm}, L.isBin u = false → TmOk b u → WOk b u := fun hb h => ⟨h, fun k x y e => by subst e; simp [L.isBin] at hb⟩
  induction h with
  | skip => exact fun _ => nb rfl tm_skip
  | stop t => exact fun _ => nb rfl (tm_stop t)
  | fault t => exact fun _ => nb rfl (tm_fault t)
  | row ts _ _ ih => exact fun hn => nb rfl (tm_row ts fun t ht => (ih t ht (L.numsL_mem (by simpa [L.nums] using hn) t ht)).1)
  | assign n x _ ih => exact fun hn => nb rfl (tm_assign n (ih (by simpa [L.nums] using hn)).1)
  | choice t x y z _ _ _ i0 i1 i2 =>
    intro hn
    simp only [L.nums, Bool.and_eq_true] at hn
    exact nb rfl (tm_choice t (i0 hn.1).1 (i1 hn.2.1).1 (i2 hn.2.2).1)
  | loop x y _ _ i0 i1 =>
    intro hn
    simp only [L.nums, Bool.and_eq_true] at hn
    exact nb rfl (tm_loop (i0 hn.1).1 (i1 hn.2).1)
  | fresh t n x y _ _ i0 i1 =>
    intro hn
    simp only [L.nums, Bool.and_eq_true] at hn
    exact nb rfl (tm_fresh t n (i0 hn.1).1 (i1 hn.2).1)
  | call t n ts _ ih => exact fun hn => nb rfl (tm_call t n ts fun u hu => (ih u hu (L.numsL_mem (by simpa [L.nums] using hn) u hu)).1)
  | proc t n ps r x y _ _ i0 i1 =>
    intro hn
    simp only [L.nums, Bool.and_eq_true] at hn
    exact nb rfl (tm_proc t n ps r (i0 hn.1).1 (i1 hn.2).1)
  | num i =>
    intro hn
    simp only [L.nums, Bool.and_eq_true, decide_eq_true_eq] at hn
    exact nb rfl (tm_num i hn.1 hn.2)
  | read n => exact fun _ => nb rfl (tm_read n)
  | binary k x y _ _ i0 i1 =>
    intro hn
    simp only [L.nums, Bool.and_eq_true] at hn
    exact ⟨tm_binary k (i0 hn.1) (i1 hn.2), fun k' x' y' e => by injection e with e1 e2 e3; subst e1 e2 e3; exact binary_ok k (i0 hn.1) (i1 hn.2)⟩
  | doing x y _ _ i0 i1 =>
    intro hn
    simp only [L.nums, Bool.and_eq_true] at hn
    exact nb rfl (tm_doing (i0 hn.1).1 (i1 hn.2).1)
  | labelled n x _ ih => exact fun hn => nb rfl (tm_labelled n (ih (by simpa [L.nums] using hn)).1)
  | exit t n => exact fun _ => nb rfl (tm_exit t n)
theorem join_eq : ∀ l : List L.Bytes, Lib.join l [44, 32] = L.joinC l
  | [] => Lib.join_nil _
  | [x] => Lib.join_one _ _
  | x :: y :: l => by
    have h := join_eq (y :: l)
    rw [Lib.join_cons] at h ⊢
    rw [L.joinC, ← h, Lib.joinTail, Lib.joinTail]
    simp
theorem join_any {w : World} {base g cap n : Nat} {l : List L.Bytes} (ho : w.ownsRow base 9 1 (.slice (some ⟨g, 0, none⟩) n cap) n (strs l)) (hn : l.length = n) (h9 : n ≤ 1000000000) (hl : (L.joinC l).length ≤ 1000000000) :
    Calls Tryz.prog 79 #[.slice (some ⟨g, 0, none⟩) n cap, .string (str [44, 32])] w fun e w' => e = .returned (.string (str (L.joinC l))) ∧ Frm (fun _ => False) w w' := by
  subst hn
  have hc := @World.ownsRow.cells _ _ _ _ _ _ _ ho g rfl
  have hd : (l.map str).map (·.data.toList) = l := by rw [List.map_map]; exact List.map_id' l
  have hcap : l.length ≤ cap := by
    rcases ho.2 with ⟨hv, _⟩ | ⟨g', c', cur, hv, _, _, h, _⟩
    · cases hv
    · injection hv with _ _ e; omega
  have h := Tryz.strings_Join g 0 cap (l.map str) (str [44, 32]) w (fun j x hx => by
    have := hc j (.string x) (by
      rw [List.getElem?_map] at hx
      simp only [strs, List.getElem?_map]
      cases hj : l[j]? with
      | none => rw [hj] at hx; cases hx
      | some y => rw [hj] at hx; injection hx with hx; rw [← hx]; rfl)
    rw [add_zero_off] at this
    rw [Nat.zero_add]; exact this) (ho.lt g rfl).2 (by simp; omega) (by simpa using hcap) (by rw [hd, show (str [44, 32]).data.toList = [44, 32] from rfl, join_eq]; omega)
  rw [hd, show (str [44, 32]).data.toList = [44, 32] from rfl, join_eq, List.length_map] at h
  refine h.mono ?_
  rintro e w' ⟨rfl, hb⟩
  exact ⟨rfl, (Frm.refl _ w).below hb (Nat.le_refl _)⟩
theorem word_len (t : Int) : (L.typeWord t).length = 3 := by unfold L.typeWord; split; rfl; split <;> rfl
theorem joinC_words : ∀ l : List Int, (L.joinC (l.map L.typeWord)).length ≤ 5 * l.length
  | [] => by simp [L.joinC]
  | [x] => by simp [L.joinC, word_len]
  | x :: y :: l => by
    have := joinC_words (y :: l)
    simp only [List.map_cons, L.joinC, List.length_append, word_len, List.length_cons, List.length_nil] at this ⊢
    omega
set_option maxRecDepth 100000 in
set_option maxHeartbeats 2000000 in
theorem decl_ok {b : Nat} (d : L.Decl) {w : World} {l : L.Bytes} {asl : Value} (h : WrAt w b l) (ha : Tys w 0 asl d.args) (hn : d.args.length ≤ 1000) (hlen : l.length + d.name.length ≤ 999990000) :
    Calls Tryz.prog 57 #[.pointer (some ⟨b, 0, none⟩), .agg #[.string (str d.name), asl, .int .i64 d.result]] w (WPost b (l ++ L.txDecl d) w) := by
  obtain ⟨nm, ats, r⟩ := d
  dsimp only at ha hn hlen ⊢
  obtain ⟨Aa, ca, rfl, -⟩ := ha.form
  have HA := Lib.hid ha
  have F := (Frm.refl (fun _ => False) w).alloc (.cells #[.string (str nm), .slice Aa ats.length ca, .int .i64 r] 52)
  have HW := Lib.hid (h.frm F)
  have HK : Hid (Kw b w (w.alloc (.cells #[.string (str nm), .slice Aa ats.length ca, .int .i64 r] 52))) := Kw.frm F
  have HB := Lib.hid (Blk.new w 52 #[.string (str nm), .slice Aa ats.length ca, .int .i64 r])
  have HX : Hid (L.txDecl ⟨nm, ats, r⟩ = nm ++ ((if ats.length = 0 then [] else [40] ++ (L.joinC (ats.map L.typeWord) ++ [41])) ++ ([32, 58, 32] ++ L.typeWord r))) := rfl
  have hjl := joinC_words ats
  have hwr := word_len r
  clear ha h F
  go_enter Tryz.func57, Tryz.ntmps57
  go_wp2_with fail
  refine (add_lit HW.out [nm] (by simp) (by simp; omega) (by simp)).mono ?_
  rintro _ w2 ⟨rfl, h2, k2⟩
  have HW2 := Lib.hid h2
  have HK2 := Lib.hid (HK.out.trans k2)
  have HB2 : Hid (Blk w2 w.heap.size 52 #[.string (str nm), .slice Aa ats.length ca, .int .i64 r]) := (k2.2 52 (by decide) (by decide) _ _ HB.out).trans HB.out
  have g1 := HB2.out.cell 1
  have g2 := HB2.out.cell 2
  clear h2 k2
  by_cases hz : ats.length = 0
  · have HY : Hid (L.txDecl ⟨nm, ats, r⟩ = nm ++ ([32, 58, 32] ++ L.typeWord r)) := show _ = _ by rw [HX.out, if_pos hz]; rfl
    go_wp2_with fail
    refine (typeWord_any _ _).mono ?_
    rintro _ w3 ⟨rfl, rfl⟩
    go_wp2_with fail
    refine (add_lit HW2.out [[32, 58, 32], L.typeWord r] rfl (by simp; omega) (by simp)).mono ?_
    rintro _ w4 ⟨rfl, h4, k4⟩
    have HW4 := Lib.hid h4
    have HK4 := Lib.hid (HK2.out.trans k4)
    clear h4 k4 g1 g2
    go_wp2_with fail
    go_end0
    exact ⟨rfl, by rw [HY.out]; simpa using HW4.out, HK4.out⟩
  · have HY : Hid (L.txDecl ⟨nm, ats, r⟩ = nm ++ (([40] ++ (L.joinC (ats.map L.typeWord) ++ [41])) ++ ([32, 58, 32] ++ L.typeWord r))) := show _ = _ by rw [HX.out, if_neg hz]
    have hp : decide (0 < ats.length) = true := by simp; omega
    have HA2 := Lib.hid ((HK2.out.2 32 (by decide) (by decide)).row HA.out)
    go_wp2_with fail
    go_loopg [4, 19] (ats.length + 1) (fun n av i wr => ∃ k : Nat, k ≤ ats.length ∧ n = ats.length + 1 - k ∧ i = .int .i64 k ∧ wr.ownsRow w2.heap.size 9 1 av k (strs ((ats.map L.typeWord).take k)) ∧ Hid (Frm (fun _ => False) w2 wr))
    case atStart => exact ⟨0, Nat.zero_le _, rfl, rfl, World.ownsRow_nil _ _ _ _, Frm.refl _ _⟩
    case round =>
      obtain ⟨k, hk, rfl, rfl, hown, HF⟩ := hrel
      by_cases hlt : k < ats.length
      · obtain ⟨Ax, cx, hsl, hcs⟩ := Tys.form (show Tys wr 0 (.slice Aa ats.length ca) ats from HF.out.row HA2.out (fun _ _ h => h) (Nat.le_refl _))
        injection hsl with e1 _ e2
        subst e1 e2
        obtain ⟨g, rfl, hcu⟩ := hcs k hlt
        have hcu' := hcu
        have HS : Hid (strs ((ats.map L.typeWord).take (k + 1)) = strs ((ats.map L.typeWord).take k) ++ [.string (str (L.typeWord ats[k]))]) := show _ = _ by
          rw [List.take_succ_eq_append_getElem (by simpa using hlt), strs, strs, List.map_append]; simp
        have hs2 := HF.out.1
        clear hcs hcu' g1 g2
        generalize ats[k] = t at *
        obtain ⟨i0, hi, hz0, hz1, hz2⟩ := info_parts info_string
        go_wp2_with fail
        refine (typeWord_any _ _).mono ?_
        rintro _ w3 ⟨rfl, rfl⟩
        go_wp2_with (at_builtin; refine wpList_append_own _ rfl _ _ 159 rfl w2.heap.size 9 i0 (.string ⟨#[]⟩) 1 16 Tryz.underlying159 hi hz0 hz1 hz2 rfl (by decide) _ _ _ rfl (hown.alloc _) ⟨wr.heap.size, 0, none⟩ 1 1 [.string (str (L.typeWord t))] rfl rfl ?c1 ?c2 ?c3 ?c4 ?c5 ?_)
        case c1 => exact cell_one_at rfl
        case c2 => simp [Value.oneCell']
        case c3 => unfold maxLen; omega
        case c4 => omega
        case c5 => simp; omega
        intro v' w4 hown4 hgrow4 _
        have HF4 := Lib.hid ((HF.out.alloc _).own (hown.alloc _) hgrow4)
        have HO4 := Lib.hid hown4
        clear hown4 hgrow4 hi hz0 hz1 hz2 hcu hown
        go_wp2_with fail
        go_roundg (ats.length + 1 - (k + 1))
        case measure => omega
        case rel => exact ⟨k + 1, by omega, rfl, by go_num, by rw [HS.out]; exact HO4.out, HF4.out⟩
      · have ek : k = ats.length := by omega
        subst ek
        rw [List.take_of_length_le (by simp)] at hown
        rcases hown.2 with ⟨_, hn0⟩ | ⟨g, cap, cur, rfl, _⟩
        · omega
        have HO := Lib.hid hown
        have HWj := Lib.hid (HW2.out.frm HF.out)
        have HKj := Lib.hid (HK2.out.trans (Kw.frm HF.out))
        have HBj := Lib.hid (HF.out.blk HB2.out id)
        clear hown g1 g2
        go_wp2_with fail
        refine (join_any HO.out (by simp) (by omega) (by omega)).mono ?_
        rintro _ w5 ⟨rfl, f5⟩
        have HW5 := Lib.hid (HWj.out.frm f5)
        have HK5 := Lib.hid (HKj.out.trans (Kw.frm f5))
        have HB5 := Lib.hid (f5.blk HBj.out id)
        clear f5
        generalize L.joinC (ats.map L.typeWord) = jt at *
        go_wp2_with fail
        refine (add_lit HW5.out [[40], jt, [41]] rfl (by simp; omega) (by simp)).mono ?_
        rintro _ w6 ⟨rfl, h6, k6⟩
        have HW6 := Lib.hid h6
        have HK6 := Lib.hid (HK5.out.trans k6)
        have HB6 : Blk w6 w.heap.size 52 #[.string (str nm), .slice Aa ats.length ca, .int .i64 r] := (k6.2 52 (by decide) (by decide) _ _ HB5.out).trans HB5.out
        have g6 := HB6.cell 2
        clear h6 k6 HB6
        go_wp2_with fail
        refine (typeWord_any _ _).mono ?_
        rintro _ w7 ⟨rfl, rfl⟩
        go_wp2_with fail
        refine (add_lit HW6.out [[32, 58, 32], L.typeWord r] rfl (by simp; omega) (by simp)).mono ?_
        rintro _ w8 ⟨rfl, h8, k8⟩
        have HW8 := Lib.hid h8
        have HK8 := Lib.hid (HK6.out.trans k8)
        clear h8 k8 g6
        go_wp2_with fail
        go_end0
        exact ⟨rfl, by rw [HY.out]; simpa using HW8.out, HK8.out⟩
end Go.Proofs.YtpdbkdcdlafobaaGreatDoor
end
section
namespace Go.Proofs.YtpdbkdcdlafobaaGreatDoor
namespace L
def joinD (ds : List Decl) : Bytes := joinC (ds.map txDecl)
theorem joinD_snoc {ds : List Decl} {k : Nat} (hk : k < ds.length) : joinD (ds.take (k + 1)) = joinD (ds.take k) ++ ((if k = 0 then [] else [44, 32]) ++ txDecl ds[k]) := by
  unfold joinD
  rw [List.take_succ_eq_append_getElem hk, List.map_append, List.map_cons, List.map_nil, joinC_snoc]
  have e : ((ds.take k).map txDecl) = [] ↔ k = 0 := by
    rw [List.map_eq_nil_iff]
    constructor
    · intro h; have := congrArg List.length h; rw [List.length_take, List.length_nil] at this; omega
    · intro h; subst h; rfl
  by_cases h : k = 0
  · rw [if_pos (e.2 h), if_pos h]
  · rw [if_neg (fun h' => h (e.1 h')), if_neg h]
theorem joinD_le (ds : List Decl) (k : Nat) : (joinD (ds.take k)).length ≤ (joinD ds).length := by
  induction hk : ds.length - k generalizing k with
  | zero => rw [List.take_of_length_le (by omega)]; exact Nat.le_refl _
  | succ n ih =>
    have hlt : k < ds.length := by omega
    have := ih (k + 1) (by omega)
    rw [joinD_snoc hlt, List.length_append] at this; omega
theorem txDecl_name (d : Decl) : d.name.length ≤ (txDecl d).length := by unfold txDecl; rw [List.length_append]; omega
end L
open Go.RowKit
theorem Decls.kw {w w' : World} {b lo : Nat} {v : Value} {ds : List L.Decl} (h : Decls w lo v ds) (k : Kw b w w') : Decls w' lo v ds := by
  obtain ⟨cs, ho, hd⟩ := h
  exact ⟨cs, (k.2 52 (by decide) (by decide)).row ho, hd.keep2 (k.2 _ (by decide) (by decide))⟩
set_option maxRecDepth 100000 in
set_option maxHeartbeats 4000000 in
theorem piece_ok {b p : Nat} {w : World} {dv rv : Value} {ds : List L.Decl} {ty : Int} {t : L.Tm} (h : WrAt w b []) (hb : Blk w p 36 #[dv, .int .i64 ty, rv]) (hd : Decls w 0 dv ds) (hr : Rep w (· < b) t rv) (hk : L.nums t = true) (hn : ds.length ≤ 1000) (ha : ∀ d ∈ ds, d.args.length ≤ 1000) (hlen : (L.joinD ds).length + (L.tx t).length ≤ 999900000) :
    Calls Tryz.prog 30 #[.pointer (some ⟨b, 0, none⟩), .pointer (some ⟨p, 0, none⟩)] w (WPost b (L.text ds ty t) w) := by
  obtain ⟨T0, x0, rfl⟩ := Rep.form hr
  obtain ⟨A, c, rfl⟩ : ∃ A c, dv = .slice A ds.length c := by obtain ⟨cs, ho, _⟩ := hd; exact own_form ho
  have HW := Lib.hid h
  have HB := Lib.hid hb
  have HD := Lib.hid hd
  have HR := Lib.hid hr
  have HAR := Lib.hid ha
  have HT := Lib.hid (term_all (b := b) hr.ok hk).1
  have c0 := hb.cell 0
  have HX : Hid (L.text ds ty t = L.joinD ds ++ ((if ds.length = 0 then [] else [32]) ++ ([124, 45, 32] ++ (L.typeWord ty ++ ([32, 58, 32] ++ L.tx t))))) := rfl
  have hwt := word_len ty
  clear h hb hd hr ha hk
  go_enter Tryz.func30, Tryz.ntmps30
  go_wp2_with fail
  go_loopg [11] (ds.length + 1) (fun n i wr => ∃ k : Nat, k ≤ ds.length ∧ n = ds.length + 1 - k ∧ i = .int .i64 k ∧ Hid (WrAt wr b (L.joinD (ds.take k))) ∧ Hid (Kw b w wr))
  case atStart => exact ⟨0, Nat.zero_le _, rfl, rfl, HW.out, Kw.refl _⟩
  case round =>
    obtain ⟨k, hk, rfl, rfl, HWk, HKk⟩ := hrel
    by_cases hlt : k < ds.length
    · obtain ⟨Ad', c', hsl, hcs⟩ := dls_cells (HD.out.kw HKk.out)
      injection hsl with e1 _ e2
      subst e1 e2
      obtain ⟨g, Aa, ca, hg0, hca, hcb, hcc, hta⟩ := hcs k hlt
      subst hg0
      have htk := L.joinD_snoc hlt
      have hb1 := L.joinD_le ds (k + 1)
      rw [htk, List.length_append] at hb1
      have hal := HAR.out _ (List.getElem_mem hlt)
      have hnl := L.txDecl_name ds[k]
      have HTA := Lib.hid hta
      clear hcs hta c0
      generalize ds[k] = d at *
      obtain ⟨nm, ats, r⟩ := d
      dsimp only at hca hcb hcc HTA hal hnl
      have FB := (Frm.refl (fun _ => False) wr).alloc (.cells #[.string (str nm), .slice Aa ats.length ca, .int .i64 r] 52)
      have HWb := Lib.hid (HWk.out.frm FB)
      have HKb := Lib.hid (HKk.out.trans (Kw.frm FB))
      have HTb := Lib.hid (FB.row HTA.out (fun _ _ h => h) (Nat.le_refl _))
      have BQ := Lib.hid (Blk.new wr 52 #[.string (str nm), .slice Aa ats.length ca, .int .i64 r])
      clear FB
      by_cases h0 : k = 0
      · subst h0
        have HS : Hid (L.joinD (ds.take 1) = L.txDecl ⟨nm, ats, r⟩) := show _ = _ by rw [htk]; simp [L.joinD, L.joinC]
        simp only [if_true, List.nil_append] at hb1
        clear htk
        go_wp2_with fail
        refine (decl_ok ⟨nm, ats, r⟩ HWb.out HTb.out hal (by simp [L.joinD, L.joinC]; omega)).mono ?_
        rintro _ w5 ⟨rfl, h5, k5⟩
        have HW5 := Lib.hid h5
        have HK5 := Lib.hid (HKb.out.trans k5)
        clear h5 k5
        go_wp2_with fail
        go_roundg (ds.length + 1 - (0 + 1))
        case measure => omega
        case rel => exact ⟨0 + 1, by omega, rfl, by go_num, show WrAt _ _ _ by rw [HS.out]; simpa [L.joinD, L.joinC] using HW5.out, HK5.out⟩
      · have HS : Hid (L.joinD (ds.take (k + 1)) = L.joinD (ds.take k) ++ ([44, 32] ++ L.txDecl ⟨nm, ats, r⟩)) := show _ = _ by rw [htk, if_neg h0]
        rw [if_neg h0, List.length_append] at hb1
        simp only [List.length_cons, List.length_nil] at hb1
        have hk0 : (0 : Int) < (k : Int) := by omega
        clear htk
        go_wp2_with fail
        refine (add_lit HWb.out [[44, 32]] (by simp) (by simp; omega) (by simp)).mono ?_
        rintro _ wa ⟨rfl, hx, ka⟩
        have HWa := Lib.hid hx
        have HKa := Lib.hid (HKb.out.trans ka)
        have BZ : Blk wa wr.heap.size 52 #[.string (str nm), .slice Aa ats.length ca, .int .i64 r] := (ka.2 52 (by decide) (by decide) _ _ BQ.out).trans BQ.out
        have HTa := Lib.hid ((ka.2 32 (by decide) (by decide)).row HTb.out)
        have y0 := BZ.cell 0
        have y1 := BZ.cell 1
        have y2 := BZ.cell 2
        clear hx ka BZ hca hcb hcc
        go_wp2_with fail
        refine (decl_ok ⟨nm, ats, r⟩ HWa.out HTa.out hal (by simp; omega)).mono ?_
        rintro _ w5 ⟨rfl, h5, k5⟩
        have HW5 := Lib.hid h5
        have HK5 := Lib.hid (HKa.out.trans k5)
        clear h5 k5 y0 y1 y2
        go_wp2_with fail
        go_roundg (ds.length + 1 - (k + 1))
        case measure => omega
        case rel => exact ⟨k + 1, by omega, rfl, by go_num, show WrAt _ _ _ by rw [HS.out]; simpa using HW5.out, HK5.out⟩
    · have ek : k = ds.length := by omega
      subst ek
      rw [List.take_length] at HWk
      have HBk : Hid (Blk wr p 36 #[.slice A ds.length c, .int .i64 ty, .iface T0 (.agg x0)]) := (HKk.out.2 36 (by decide) (by decide) _ _ HB.out).trans HB.out
      have HRk := Lib.hid (HR.out.kw HKk.out)
      have y0 := HBk.out.cell 0
      have y1 := HBk.out.cell 1
      clear c0
      by_cases hz : ds.length = 0
      · have HY : Hid (L.text ds ty t = L.joinD ds ++ ([124, 45, 32] ++ (L.typeWord ty ++ ([32, 58, 32] ++ L.tx t)))) := show _ = _ by rw [HX.out, if_pos hz]; rfl
        have HWa := HWk
        have HKa := HKk
        have HBa := HBk
        have HRa := HRk
        go_wp2_with fail
        refine (typeWord_any _ _).mono ?_
        rintro _ w7 ⟨rfl, rfl⟩
        go_wp2_with fail
        refine (add_lit HWa.out [[124, 45, 32], L.typeWord ty, [32, 58, 32]] rfl (by simp; omega) (by simp)).mono ?_
        rintro _ w8 ⟨rfl, h8, k8⟩
        have HW8 := Lib.hid h8
        have HK8 := Lib.hid (HKa.out.trans k8)
        have HB8 : Blk w8 p 36 #[.slice A ds.length c, .int .i64 ty, .iface T0 (.agg x0)] := (k8.2 36 (by decide) (by decide) _ _ HBa.out).trans HBa.out
        have HR8 := Lib.hid (HRa.out.kw k8)
        have q2 := HB8.cell 2
        clear h8 k8 HB8 y0 y1
        go_wp2_with fail
        refine (HT.out _ _ _ HW8.out HR8.out (by simp; omega)).mono ?_
        rintro _ w9 ⟨rfl, h9, k9⟩
        have HW9 := Lib.hid h9
        have HK9 := Lib.hid (HK8.out.trans k9)
        clear h9 k9 q2
        go_wp2_with fail
        go_end0
        exact ⟨rfl, by rw [HY.out]; simpa using HW9.out, HK9.out⟩
      · have HY : Hid (L.text ds ty t = L.joinD ds ++ ([32] ++ ([124, 45, 32] ++ (L.typeWord ty ++ ([32, 58, 32] ++ L.tx t))))) := show _ = _ by rw [HX.out, if_neg hz]
        have hp : decide (0 < ds.length) = true := by simp; omega
        have hpp : 0 < ds.length := by omega
        go_wp2_with fail
        refine (add_lit HWk.out [[32]] rfl (by simp; omega) (by simp)).mono ?_
        rintro _ wa ⟨rfl, hx, ka⟩
        have HWa := Lib.hid hx
        have HKa := Lib.hid (HKk.out.trans ka)
        have HBa : Hid (Blk wa p 36 #[.slice A ds.length c, .int .i64 ty, .iface T0 (.agg x0)]) := (ka.2 36 (by decide) (by decide) _ _ HBk.out).trans HBk.out
        have HRa := Lib.hid (HRk.out.kw ka)
        have z1 := HBa.out.cell 1
        clear hx ka y0 y1
        go_wp2_with fail
        refine (typeWord_any _ _).mono ?_
        rintro _ w7 ⟨rfl, rfl⟩
        go_wp2_with fail
        refine (add_lit HWa.out [[124, 45, 32], L.typeWord ty, [32, 58, 32]] rfl (by simp; omega) (by simp)).mono ?_
        rintro _ w8 ⟨rfl, h8, k8⟩
        have HW8 := Lib.hid h8
        have HK8 := Lib.hid (HKa.out.trans k8)
        have HB8 : Blk w8 p 36 #[.slice A ds.length c, .int .i64 ty, .iface T0 (.agg x0)] := (k8.2 36 (by decide) (by decide) _ _ HBa.out).trans HBa.out
        have HR8 := Lib.hid (HRa.out.kw k8)
        have q2 := HB8.cell 2
        clear h8 k8 HB8 z1
        go_wp2_with fail
        refine (HT.out _ _ _ HW8.out HR8.out (by simp; omega)).mono ?_
        rintro _ w9 ⟨rfl, h9, k9⟩
        have HW9 := Lib.hid h9
        have HK9 := Lib.hid (HK8.out.trans k9)
        clear h9 k9 q2
        go_wp2_with fail
        go_end0
        exact ⟨rfl, by rw [HY.out]; simpa using HW9.out, HK9.out⟩
def textOf (o : Option L.Piece) : L.Bytes := match o with
  | none => []
  | some P => L.text P.decls P.typ P.root
/-- What Text needs to know of a piece: numbers of one digit, and some bounds. -/
def Tame (P : L.Piece) : Prop := L.nums P.root = true ∧ P.decls.length ≤ 1000 ∧ (∀ d ∈ P.decls, d.args.length ≤ 1000) ∧ (L.joinD P.decls).length + (L.tx P.root).length ≤ 999900000
set_option maxHeartbeats 1000000 in
theorem text_any {w : World} {v : Value} {o : Option L.Piece} (h : Pv w v o) (ht : ∀ P, o = some P → Tame P) : Calls Tryz.prog 10 #[v] w fun e w' => e = .returned (.string (str (textOf o))) ∧ Frm (fun _ => False) w w' := by
  have HP := Lib.hid h
  obtain ⟨a, rfl⟩ : ∃ a, v = .pointer a := by
    cases o with
    | none => rcases h with rfl | ⟨p, rfl, _⟩ <;> exact ⟨_, rfl⟩
    | some P => obtain ⟨p, rfl, _⟩ := h; exact ⟨_, rfl⟩
  have HT := Lib.hid ht
  clear ht
  go_enter Tryz.func10, Tryz.ntmps10
  go_wp2_with fail
  refine (valid_any HP.out).mono ?_
  rintro _ w1 ⟨rfl, rfl⟩
  cases o with
  | none =>
    clear h
    go_wp2_with fail
    go_ret
    exact ⟨rfl, Frm.refl _ _⟩
  | some P =>
    obtain ⟨p, hp, dv, rv, hb, hd, hr⟩ := h
    injection hp with hp
    subst hp
    obtain ⟨t1, t2, t3, t4⟩ := HT.out P rfl
    have HT3 := Lib.hid t3
    have F := (Frm.refl (fun _ => False) w).alloc (.cells #[.pointer none, .slice none 0 0] 82)
    have HWr : Hid (WrAt (w.alloc (.cells #[.pointer none, .slice none 0 0] 82)) w.heap.size []) := .inl ⟨Nat.le_refl _, .slice none 0 0, Blk.new w _ _, World.ownsRow_nil _ _ _ _, by simp [Value.ownBlock]⟩
    have HB := Lib.hid (F.blk hb id)
    have HD : Hid (Decls (w.alloc (.cells #[.pointer none, .slice none 0 0] 82)) 0 dv P.decls) := hd.keep (Nat.le_refl _) fun b _ hl => F.2 b hl id
    have HR : Hid (Rep (w.alloc (.cells #[.pointer none, .slice none 0 0] 82)) (· < w.heap.size) P.root rv) := Rep.keep (F.same fun _ _ _ => id) (fun _ _ hl => hl) hr
    have HF := Lib.hid F
    have hne : L.text P.decls P.typ P.root ≠ [] := by unfold L.text; intro h; have := congrArg List.length h; simp at this
    clear hb hd hr t3 F
    go_wp2_with fail
    refine (piece_ok (ty := P.typ) HWr.out HB.out HD.out HR.out t1 t2 HT3.out t4).mono ?_
    rintro _ w2 ⟨rfl, h2, k2⟩
    have HW2 := Lib.hid h2
    have HF2 : Hid (Frm (fun _ => False) w w2) := Frm.mono (E := fun b => w.heap.size ≤ b) ((HF.out.mono fun _ _ h => h.elim).trans k2.3) fun b hb h => by omega
    clear h2 k2
    go_wp2_with fail
    refine (string_any HW2.out hne).mono ?_
    rintro _ w3 ⟨rfl, hb3⟩
    have HF3 := Lib.hid (HF2.out.below hb3 (Nat.le_refl _))
    clear hb3
    go_wp2_with fail
    go_ret
    exact ⟨rfl, HF3.out⟩
end Go.Proofs.YtpdbkdcdlafobaaGreatDoor
end
section
namespace Go.Proofs.YtpdbkdcdlafobaaGreatDoor
open Go.RowKit
def nodesOf (o : Option L.Piece) : List L.Nd := match o with
  | none => []
  | some P => L.nodeList P.root
theorem own_raise {w : World} {base lo size n : Nat} {e : TypeId} {v : Value} {xs : List Value} (h : w.ownsRow base e size v n xs) (hl : ∀ g, v.ownBlock = some g → lo ≤ g) : w.ownsRow lo e size v n xs :=
  ⟨h.1, h.2.imp id fun ⟨g, cap, cur, h1, h2, h3⟩ => ⟨g, cap, cur, h1, hl g (by rw [h1]; rfl), h3⟩⟩
set_option maxHeartbeats 1000000 in
theorem nodes_acc {w : World} {v : Value} {o : Option L.Piece} (h : Pv w v o) (hn : ∀ P, o = some P → L.nodes P.root ≤ 100000) :
    Calls Tryz.prog 7 #[v] w fun e w' => (∃ v' cs, e = .returned v' ∧ w'.ownsRow w.heap.size 47 7 v' (nodesOf o).length cs ∧ Nds w' (w.heap.size ≤ ·) (nodesOf o) cs) ∧ Frm (fun _ => False) w w' := by
  have HP := Lib.hid h
  obtain ⟨a, rfl⟩ : ∃ a, v = .pointer a := by
    cases o with
    | none => rcases h with rfl | ⟨p, rfl, _⟩ <;> exact ⟨_, rfl⟩
    | some P => obtain ⟨p, rfl, _⟩ := h; exact ⟨_, rfl⟩
  have HN := Lib.hid hn
  clear hn
  go_enter Tryz.func7, Tryz.ntmps7
  go_wp2_with fail
  refine (valid_any HP.out).mono ?_
  rintro _ w1 ⟨rfl, rfl⟩
  cases o with
  | none =>
    clear h
    go_wp2_with fail
    go_ret
    exact ⟨⟨_, [], rfl, World.ownsRow_nil _ _ _ _, rfl⟩, Frm.refl _ _⟩
  | some P =>
    obtain ⟨p, hp, dv, rv, hb, hd, hr⟩ := h
    injection hp with hp
    subst hp
    have hnd := HN.out P rfl
    obtain ⟨T, x, rfl⟩ := Rep.form hr
    have HR := Lib.hid hr
    have c2 := hb.cell 2
    have hlen : Hid ((nodesOf (some P)).length = L.nodes P.root) := L.nds_len _ 0 _ hr.ok (Nat.le_refl _)
    clear hr hd hb
    go_wp2_with fail
    refine (append_any (L.nodes P.root) P.root _ _ (.slice none 0 0) 0 [] w (Nat.le_refl _) HR.out (World.ownsRow_nil _ _ _ _) (by omega)).mono ?_
    rintro _ w2 ⟨f2, v2, cs2, rfl, ho2, hn2, hb2⟩
    rw [Nat.zero_add, List.nil_append] at ho2
    have HF : Hid (Frm (fun _ => False) w w2) := f2.mono fun b _ h => by cases h
    have HO : Hid (w2.ownsRow w.heap.size 47 7 v2 (nodesOf (some P)).length cs2) := by
      have h := own_raise (lo := w.heap.size) ho2 fun g hg => (hb2 g hg).resolve_left (by simp [Value.ownBlock])
      exact show World.ownsRow _ _ _ _ _ _ _ by rw [hlen.out]; exact h
    have HN2 := Lib.hid hn2
    obtain ⟨A2, c2', rfl⟩ := own_form ho2
    clear f2 ho2 hn2 hb2 c2
    go_wp2_with fail
    go_ret
    exact ⟨⟨_, cs2, rfl, HO.out, HN2.out⟩, HF.out⟩
namespace L
/-- Whether a node is a call of the hole. -/
def isHole (bs : List Bnd) : Tm → Bool
  | .call _ n _ => (look bs n).any fun b => decide (b.sort = 5)
  | _ => false
theorem isHole_no {bs : List Bnd} {t : Tm} (h : isCall t = false) : isHole bs t = false := by cases t <;> first | rfl | simp [isCall] at h
end L
set_option maxRecDepth 100000 in
set_option maxHeartbeats 2000000 in
theorem isHole_any {w : World} {R : Nat} {lo : Nat → Prop} {bs : List L.Bnd} {vis : Value} (h : RdAt w R lo bs vis) (hm : bs.length ≤ 1000000) {A : Nat → Prop} {t : L.Tm} {v : Value} (ht : Rep w A t v) :
    Calls Tryz.prog 26 #[.pointer (some ⟨R, 0, none⟩), v] w fun e w' => e = .returned (.bool (L.isHole bs t)) ∧ Frm (fun _ => False) w w' := by
  cases hic : L.isCall t
  · obtain ⟨T, cs, rfl, hT⟩ := ht.notCall hic
    have a1 := fun W => assert_call_no W T (.agg cs) hT
    have HX := Lib.hid (L.isHole_no (bs := bs) hic)
    clear ht hT
    go_enter Tryz.func26, Tryz.ntmps26
    go_wp2_with fail
    go_ret
    exact ⟨by rw [HX.out]; rfl, (Frm.refl _ w).alloc _⟩
  · obtain ⟨of, nm, ts, rfl⟩ : ∃ of nm ts, t = .call of nm ts := by cases t <;> first | exact ⟨_, _, _, rfl⟩ | simp [L.isCall] at hic
    obtain ⟨sl, vs, rfl, ho, ha, hr⟩ := ht
    obtain ⟨As, c, rfl⟩ := own_form ho
    have a1 := assert_call_yes
    clear ho ha hr
    go_enter Tryz.func26, Tryz.ntmps26
    have F := (Frm.refl (fun _ => False) w).alloc (.cells #[.int .i64 of, .string (str nm), .slice As ts.length c] 106)
    go_wp2_with fail
    refine (find_any (h.keep F) hm nm).mono ?_
    rintro e w1 ⟨f1, ⟨b, A2, c2, hl, _, rfl⟩ | ⟨hl, rfl⟩⟩
    · have HX : Hid (L.isHole bs (.call of nm ts) = decide (b.sort = 5)) := show _ = _ by simp [L.isHole, hl]
      have HF := Lib.hid ((F.trans f1).alloc (.cells #[.int .i64 b.sort, .string (str b.name), .slice A2 b.args.length c2, .int .i64 b.result] 67))
      clear hl f1
      go_wp2_with fail
      go_ret
      exact ⟨by rw [HX.out]; rfl, HF.out⟩
    · have HX : Hid (L.isHole bs (.call of nm ts) = false) := show _ = _ by simp [L.isHole, hl]
      have HF := Lib.hid ((F.trans f1).alloc (.cells #[.int .i64 0, .string ⟨#[]⟩, .slice none 0 0, .int .i64 0] 67))
      clear hl f1
      go_wp2_with fail
      go_ret
      exact ⟨by rw [HX.out]; rfl, HF.out⟩
end Go.Proofs.YtpdbkdcdlafobaaGreatDoor
end
section
namespace Go.Proofs.YtpdbkdcdlafobaaGreatDoor
open Go.RowKit
theorem drop_eq_cons {l : List Int} {k : Nat} (hk : k < l.length) : l.drop k = l[k] :: l.drop (k + 1) := List.drop_eq_getElem_cons hk
set_option maxRecDepth 100000 in
set_option maxHeartbeats 2000000 in
theorem equal_any {w : World} {u v : Value} {a c : List Int} (ha : Tys w 0 u a) (hc : Tys w 0 v c) : Calls Tryz.prog 76 #[u, v] w fun e w' => e = .returned (.bool (a == c)) ∧ Frm (fun _ => False) w w' := by
  have hla := own_max ha
  obtain ⟨Aa, ca, rfl, hca⟩ := ha.form
  obtain ⟨Ac, cc, rfl, hcc⟩ := hc.form
  have HA := Lib.hid hca
  have HC := Lib.hid hcc
  clear hca hcc ha hc
  by_cases hl : a.length = c.length
  · go_enter Tryz.func76, Tryz.ntmps76
    have HL := Lib.hid hl
    go_wp2_with fail
    go_loopg [13] (c.length + 1) (fun n i wr => ∃ k : Nat, k ≤ c.length ∧ n = c.length + 1 - k ∧ i = .int .i64 k ∧ Hid ((a == c) = (a.drop k == c.drop k)) ∧ Frm (fun _ => False) w wr)
    case atStart => exact ⟨0, Nat.zero_le _, rfl, rfl, rfl, Frm.refl _ _⟩
    case round =>
      obtain ⟨k, hk, rfl, rfl, HK, hf⟩ := hrel
      by_cases hlt : k < c.length
      · have hla' : k < a.length := by omega
        obtain ⟨g, hg, hx⟩ := HA.out k hla'
        obtain ⟨g', hg', hy⟩ := HC.out k hlt
        subst hg hg'
        have x0 : wr.drew.cell? ⟨g, k, none⟩ = _ := (hf.drew).cell id hx
        have y0 : wr.drew.cell? ⟨g', k, none⟩ = _ := (hf.drew).cell id hy
        have HS : Hid ((a.drop k == c.drop k) = ((a[k] == c[k]) && (a.drop (k + 1) == c.drop (k + 1)))) := show _ = _ by
          rw [drop_eq_cons hla', drop_eq_cons hlt]; rfl
        clear hx hy
        generalize a[k] = p at *
        generalize c[k] = q at *
        by_cases hpq : p = q
        · have HG : Hid ((a == c) = (a.drop (k + 1) == c.drop (k + 1))) := show _ = _ by rw [HK.out, HS.out, hpq]; simp
          subst hpq
          go_wp2_with fail
          go_region
          go_wp2_with fail
          go_roundg (c.length + 1 - (k + 1))
          case measure => omega
          case rel => exact ⟨k + 1, by omega, rfl, by go_num, HG.out, hf.drew⟩
        · have HG : Hid ((a == c) = false) := show _ = _ by rw [HK.out, HS.out]; simp [hpq]
          go_wp2_with fail
          go_region
          go_wp2_with fail
          go_ret
          exact ⟨by rw [HG.out]; rfl, hf.drew⟩
      · have ek : k = c.length := by omega
        have HG : Hid ((a == c) = true) := show _ = _ by rw [HK.out, ek, List.drop_length, List.drop_of_length_le (by omega)]; rfl
        go_wp2_with fail
        go_ret
        exact ⟨by rw [HG.out]; rfl, hf⟩
  · have hne : (a == c) = false := by
      rw [beq_eq_false_iff_ne]; intro h; exact hl (by rw [h])
    have HN := Lib.hid hne
    clear hne
    go_enter Tryz.func76, Tryz.ntmps76
    go_wp2_with fail
    go_ret
    exact ⟨by rw [HN.out]; rfl, Frm.refl _ _⟩
end Go.Proofs.YtpdbkdcdlafobaaGreatDoor
end
