/- Read and Fill where the plain functions' answers are known; awake. The world in which the listed tables of Go's library lie as their text lays them: the witness of the laws' rows. The row and the card of LangLimits, given what the call comes to. LangLimits: what the call comes to. Contracts of the program's functions, with no condition beyond what each theorem states. -/
import Derived.Test.YtpdbkdcdlafobaaGreatDoorM26
import Derived.Test.YtpdbkdcdlafobaaGreatDoorM27
import Derived.Test.YtpdbkdcdlafobaaGreatDoorM24
import Derived.Test.YtpdbkdcdlafobaaGreatDoorRows
import Derived.Test.YtpdbkdcdlafobaaGreatDoorTie
import Derived.SevenTiedAt
import Derived.WalkKit
import Derived.ProofKit
import Derived.OpenShut
import Derived.LaidLaws
import Derived.Test.YtpdbkdcdlafobaaGreatDoorM04
import Derived.Test.YtpdbkdcdlafobaaGreatDoorCards
section
namespace Go.Proofs.YtpdbkdcdlafobaaGreatDoor
open Go.RowKit
theorem read_yes {l : L.Bytes} {e : Int} {P : L.Piece} (h : L.readText l = (e, some P)) (w : World) :
    Calls Tryz.prog 5 #[.string (str l)] w fun r w' => ∃ p, r = .returned (.tuple #[.pointer (some ⟨p, 0, none⟩), .int .i64 e]) ∧ PcAt w' p P ∧ Frm (fun _ => False) w w' := by
  refine (read_any l w).mono ?_
  rw [h]
  rintro r w' ⟨f, v, rfl, p, rfl, hp⟩
  exact ⟨p, rfl, hp, f⟩
theorem read_not {l : L.Bytes} {e : Int} (h : L.readText l = (e, none)) (w : World) :
    Calls Tryz.prog 5 #[.string (str l)] w fun r w' => r = .returned (.tuple #[.pointer none, .int .i64 e]) ∧ Frm (fun _ => False) w w' := by
  refine (read_any l w).mono ?_
  rw [h]
  rintro r w' ⟨f, v, rfl, rfl⟩
  exact ⟨rfl, f⟩
theorem text_at {w : World} {p : Nat} {P : L.Piece} (h : PcAt w p P) (hf : L.Fit P) : Calls Tryz.prog 10 #[.pointer (some ⟨p, 0, none⟩)] w fun e w' => e = .returned (.string (str (L.text P.decls P.typ P.root))) ∧ Frm (fun _ => False) w w' :=
  text_any (o := some P) ⟨p, rfl, h⟩ fun Q hQ => by
    have : P = Q := Option.some.inj hQ
    exact this ▸ hf.tame
theorem text_yes {w : World} {p : Nat} {P : L.Piece} {x : L.Bytes} {b : ByteArray} (h : PcAt w p P) (hf : L.Fit P) (hx : L.text P.decls P.typ P.root = x) (hb : str x = b) : Calls Tryz.prog 10 #[.pointer (some ⟨p, 0, none⟩)] w fun e w' => e = .returned (.string b) ∧ Frm (fun _ => False) w w' := by
  subst hx hb
  exact text_at h hf
theorem L.nodeList_len {P : L.Piece} (f : L.Fit P) : (L.nodeList P.root).length = L.nodes P.root := L.nds_len _ _ _ f.ok (Nat.le_refl _)
theorem nodes_at {w : World} {p n : Nat} {P : L.Piece} (h : PcAt w p P) (f : L.Fit P) (hn : L.nodes P.root = n) : Calls Tryz.prog 7 #[.pointer (some ⟨p, 0, none⟩)] w fun e w' => ∃ A c cs, e = .returned (.slice A n c) ∧ w'.ownsRow w.heap.size 47 7 (.slice A n c) (L.nodeList P.root).length cs ∧ Nds w' (w.heap.size ≤ ·) (L.nodeList P.root) cs ∧ Frm (fun _ => False) w w' := by
  have hv : Pv w (.pointer (some ⟨p, 0, none⟩)) (some P) := ⟨p, rfl, h⟩
  refine (nodes_acc hv fun Q hQ => ?_).mono ?_
  · have hq : P = Q := Option.some.inj hQ
    have := f.nodes
    subst hq; omega
  · rintro e w' ⟨⟨v', cs, rfl, ho, hd⟩, fr⟩
    have ho' : w'.ownsRow w.heap.size 47 7 v' (L.nodeList P.root).length cs := ho
    obtain ⟨A, c, rfl⟩ := own_form ho'
    have hl := L.nodeList_len f
    rw [hn] at hl
    rw [hl] at ho' ⊢
    exact ⟨A, c, cs, rfl, ho', hd, fr⟩
theorem decls_at {w : World} {p n : Nat} {P : L.Piece} (h : PcAt w p P) (f : L.Fit P) (hn : P.decls.length = n) : Calls Tryz.prog 11 #[.pointer (some ⟨p, 0, none⟩)] w fun e w' => ∃ A c, e = .returned (.slice A n c) ∧ Decls w' w.heap.size (.slice A n c) P.decls ∧ Frm (fun _ => False) w w' := by
  have hv : Pv w (.pointer (some ⟨p, 0, none⟩)) (some P) := ⟨p, rfl, h⟩
  refine (decls_acc hv (Nat.le_trans f.decls (by omega)) fun d hd => Nat.le_trans (f.args d hd) (by omega)).mono ?_
  rintro e w' ⟨⟨v', rfl, hd⟩, fr⟩
  obtain ⟨A, c, rfl⟩ : ∃ A c, v' = .slice A P.decls.length c := by
    obtain ⟨cs, ho, _⟩ := hd
    exact own_form ho
  rw [hn] at hd
  rw [hn]
  exact ⟨A, c, rfl, hd, fr⟩
set_option maxRecDepth 100000 in
set_option maxHeartbeats 4000000 in
theorem awake_any (w : World) : Calls Tryz.prog 8 #[] w fun e w' => e = .returned (.bool true) ∧ Frm (fun _ => False) w w' := by
  obtain ⟨p, q, c, r, h1, h2, h3, h4, h5, h6, h7, n1, n2, x1, x2, x3⟩ := L.awake_facts
  have fp := L.readText_fit h1
  have fq := L.readText_fit h2
  have fc := L.readText_fit h6
  have fr := L.fill_fit fc fp h7
  have H1 := Lib.hid h1
  have H2 := Lib.hid h2
  have H3 := Lib.hid h3
  have H4 := Lib.hid h4
  have H5 := Lib.hid h5
  have H6 := Lib.hid h6
  have H7 := Lib.hid h7
  have N1 := Lib.hid n1
  have N2 := Lib.hid n2
  have X1 := Lib.hid x1
  have X2 := Lib.hid x2
  have X3 := Lib.hid x3
  clear h1 h2 h3 h4 h5 h6 h7 n1 n2 x1 x2 x3
  go_enter Tryz.func8, Tryz.ntmps8
  go_wp2_with fail
  refine (read_yes H1.out _).mono ?_
  rintro _ w1 ⟨a, rfl, pa, f1⟩
  have F1 := Lib.hid f1
  have PA1 := Lib.hid pa
  clear f1 pa
  go_wp2_with fail
  refine (read_yes H2.out _).mono ?_
  rintro _ w2 ⟨b, rfl, pb, f2⟩
  have F2 := Lib.hid (F1.out.trans f2)
  have PA2 := Lib.hid (PA1.out.keep f2)
  have PB2 := Lib.hid pb
  clear f2 pb
  go_wp2_with fail
  refine (read_not H3.out _).mono ?_
  rintro _ w3 ⟨rfl, f3⟩
  have F3 := Lib.hid (F2.out.trans f3)
  have PA3 := Lib.hid (PA2.out.keep f3)
  have PB3 := Lib.hid (PB2.out.keep f3)
  clear f3
  go_wp2_with fail
  refine (read_not H4.out _).mono ?_
  rintro _ w4 ⟨rfl, f4⟩
  have F4 := Lib.hid (F3.out.trans f4)
  have PA4 := Lib.hid (PA3.out.keep f4)
  have PB4 := Lib.hid (PB3.out.keep f4)
  clear f4
  go_wp2_with fail
  refine (read_not H5.out _).mono ?_
  rintro _ w5 ⟨rfl, f5⟩
  have F5 := Lib.hid (F4.out.trans f5)
  have PA5 := Lib.hid (PA4.out.keep f5)
  have PB5 := Lib.hid (PB4.out.keep f5)
  clear f5
  go_wp2_with fail
  refine (read_yes H6.out _).mono ?_
  rintro _ w6 ⟨d, rfl, pc, f6⟩
  have F6 := Lib.hid (F5.out.trans f6)
  have PA6 := Lib.hid (PA5.out.keep f6)
  have PB6 := Lib.hid (PB5.out.keep f6)
  have PC6 := Lib.hid pc
  clear f6 pc
  go_wp2_with fail
  refine (fill_yes PC6.out PA6.out fc fp H7.out).mono ?_
  rintro _ w7 ⟨g, rfl, pr, f7⟩
  have F7 := Lib.hid (F6.out.trans f7)
  have PA7 := Lib.hid (PA6.out.keep f7)
  have PB7 := Lib.hid (PB6.out.keep f7)
  have PR7 := Lib.hid pr
  clear f7 pr
  go_wp2_with fail
  refine (nodes_at PA7.out fp N1.out).mono ?_
  rintro _ w8 ⟨A8, c8, cs8, rfl, -, -, f8⟩
  have F8 := Lib.hid (F7.out.trans f8)
  have PA8 := Lib.hid (PA7.out.keep f8)
  have PB8 := Lib.hid (PB7.out.keep f8)
  have PR8 := Lib.hid (PR7.out.keep f8)
  clear f8
  go_wp2_with fail
  refine (decls_at PB8.out fq N2.out).mono ?_
  rintro _ w9 ⟨A9, c9, rfl, -, f9⟩
  have F9 := Lib.hid (F8.out.trans f9)
  have PA9 := Lib.hid (PA8.out.keep f9)
  have PB9 := Lib.hid (PB8.out.keep f9)
  have PR9 := Lib.hid (PR8.out.keep f9)
  clear f9
  go_wp2_with fail
  refine (text_yes PA9.out fp X1.out L.x1_str).mono ?_
  rintro _ w10 ⟨rfl, f10⟩
  have F10 := Lib.hid (F9.out.trans f10)
  have PB10 := Lib.hid (PB9.out.keep f10)
  have PR10 := Lib.hid (PR9.out.keep f10)
  clear f10
  go_wp2_with fail
  refine (text_yes PB10.out fq X2.out L.x2_str).mono ?_
  rintro _ w11 ⟨rfl, f11⟩
  have F11 := Lib.hid (F10.out.trans f11)
  have PR11 := Lib.hid (PR10.out.keep f11)
  clear f11
  go_wp2_with fail
  refine (text_yes PR11.out fr X3.out L.x3_str).mono ?_
  rintro _ w12 ⟨rfl, f12⟩
  have F12 := Lib.hid (F11.out.trans f12)
  clear f12
  go_wp2_with fail
  go_ret
  exact ⟨rfl, F12.out⟩
end Go.Proofs.YtpdbkdcdlafobaaGreatDoor
end
section
namespace Go.Proofs.YtpdbkdcdlafobaaGreatDoor
open Go.ChangeShapes Go.WideShapes Go.ChangeAt Go.RowKit
def lits1 : DataW Unit → List Int
  | .lit (.int _ z) => [z]
  | _ => []
def lits2 : DataW Unit → List Int
  | .agg ps => ps.flatMap lits1
  | d => lits1 d
def lits3 : DataW Unit → List Int
  | .agg ps => ps.flatMap lits2
  | d => lits1 d
def laidCells (k : IntKind) (d : DataW Unit) (o : Obj) : Obj := match o with
  | .cells _ t frozen => .cells ((lits3 d).map fun z => Value.int k z).toArray t frozen
  | o => o
noncomputable def laidWorld (os : Os) : World :=
  { World.holding Tryz.prog os ⟨#[], #[], []⟩ with heap := (((((World.holding Tryz.prog os ⟨#[], #[], []⟩).heap.modify 1 (laidCells .u8 Rows.laid_unicode_utf8_first)).modify 2 (laidCells .u8 Rows.laid_unicode_utf8_acceptRanges)).modify 3 (laidCells .u64 Rows.laid_internal_strconv_uint64pow10)).modify 4 (laidCells .u8 Rows.laid_math_bits_deBruijn32tab)).modify 5 (laidCells .u8 Rows.laid_math_bits_deBruijn64tab) }
def laid5 : List (String × DataW Unit) := Rows.langLimitsRow.laid
set_option maxRecDepth 100000 in
theorem laid_met (os : Os) (args : Array Value) : laidMet Tryz.prog laid5 ((laidWorld os).forCall (fun _ _ => 0) ⟨#[], args, []⟩).memory :=
  laidMet_of_run' 8 (by kernel_rfl) (by kernel_rfl)
theorem own : ownKnob Tryz.prog.godebug = none := by kernel_rfl
theorem Frm.kept {w w' : World} (h : Frm (fun _ => False) w w') (may : MemPlace → Prop) : w.keptBut w' may := by
  refine ⟨h.3.1, h.3.2, fun i hi => ?_⟩
  rw [h.2 i hi id]
  split <;> simp_all
end Go.Proofs.YtpdbkdcdlafobaaGreatDoor
end
section
namespace Go.Proofs.YtpdbkdcdlafobaaGreatDoor.Limits
open Go.ChangeShapes Go.WideShapes Go.ChangeAt Go.RowKit
def Walk : Prop := ∀ (a0 : Int) (_ : (Lit.int .u8 a0).wf = true) (w : World), Calls Tryz.prog 3 #[.int .u8 a0] w fun e w' => e = .returned (.bool true) ∧ Frm (fun _ => False) w w'
set_option maxRecDepth 100000 in
theorem lifted (walk : Walk) (os : Os) (started : os.Started) (H : Type) (enc : TypeId × Value → H) :
    ReturnsInHanded {} Tryz.checked os 3 .any (fun w args => (Rows.langLimitsSpec.pre enc Tryz.prog Tryz.f3 [] false w args ∧ laidMet Tryz.prog Rows.langLimitsRow.laid w) ∧ sizedMet enc Tryz.prog Tryz.f3 (OpenSpec.ofChange Rows.langLimitsSpec) false w args)
      (Rows.langLimitsSpec.post enc Tryz.prog Tryz.f3 false true false false) := by
  refine returnsInHanded_of_change_and (C := Tryz.checked) (X := fun w _ => laidMet Tryz.prog Rows.langLimitsRow.laid w) (fun _ _ _ hh h => h.of_heap hh) own started (by kernel_rfl) Tryz.func3
    (ChangeSpec.witness_at (enc := enc) (C := Tryz.checked) (os := os) (X := fun w _ => laidMet Tryz.prog Rows.langLimitsRow.laid w) false (laidWorld os) #[.int .u8 0] 8 rfl (by kernel_rfl) (by kernel_rfl) (by kernel_rfl) (by kernel_rfl) (by kernel_rfl) (laid_met os _)) ?_
  intro W base args ds gs before hval0 hW _ _ hL _
  have hval : ∀ (j : Nat) t v, Tryz.f3.params[j]? = some t → args[j]? = some v → Value.okWide Tryz.prog W .any base t v := hval0
  have hW' := hW
  obtain ⟨p, q, hA0, hV, rfl, hfz, hnd⟩ := hW
  have hA : DataW.TrodAll enc Tryz.prog W 0 (fun _ => true) true Tryz.f3.params.toList args.toList ds p := hA0
  rw [Tryz.params3] at hA hval
  obtain ⟨v0, vs0, d0, ds0, p0, q0, hargs, rfl, rfl, h0, r0⟩ := trodAll_cons hA
  obtain ⟨rfl, rfl, rfl⟩ := trodAll_nil r0
  obtain rfl : args = #[v0] := by cases args; simp_all
  obtain ⟨rfl, rfl⟩ := trodVars_none hV
  obtain ⟨a0, rfl, rfl, rfl, w0⟩ := open_int Tryz.underlying5 (hval 0 5 v0 rfl rfl) h0
  clear hA0 hval0
  simp only [List.append_nil] at hW'
  refine (walk a0 w0 W).mono fun e W' ⟨he, hg⟩ => ?_
  subst he
  exact ⟨_, rfl, _, _, _, _, _, _, hW', trodAll_cons_mk (shut_bool Tryz.underlying4 _) trodAll_mk0, trodAll_cons_mk (shut_int Tryz.underlying5 w0) trodAll_mk0, rfl, hg.kept _, fun h => by cases h⟩
theorem row_holds (walk : Walk) : Rows.LangLimitsSaid :=
  OpenClaim.holds_of_wide 3 Tryz.f3 rfl rfl rfl rfl rfl rfl rfl ⟨rfl, rfl, rfl, rfl, rfl⟩ rfl rfl rfl rfl rfl (by kernel_rfl) Tryz.func3 (by kernel_rfl)
    (of_decide_eq_true (by kernel_rfl)) (by unfold Func.isWrapper; first | (rw [if_pos (by decide +kernel)]; kernel_rfl) | (rw [if_neg (by decide +kernel)]; exact ⟨rfl, rfl⟩))
    (fun os started H enc _ => lifted walk os started H enc)
theorem card_of (walk : Walk) : Rows.LangLimitsCardSaid :=
  Claim7.holds_tied_plain_at .later [] [.data, .data, .data, .data, .pinned] true Rows.langLimitsCard.stood.harness true
    (row_holds walk) (fun _ h => by cases h) (by kernel_rfl) (fun _ h => by cases h) langLimits_row_tie rfl ⟨rfl, rfl⟩ (by kernel_rfl) rfl
    (fun f fn hf hfn => by
      obtain rfl : f = 3 := Option.some.inj ((show Tryz.prog.funcNamed "doppelganger/doppelgangerlaw01.LangLimits" = some 3 by kernel_rfl).symm.trans hf) |>.symm
      obtain rfl : fn = Tryz.f3 := (Option.some.inj (Tryz.func3.symm.trans hfn)).symm
      exact ⟨by kernel_rfl, fun j t ht => by
        rw [Tryz.params3] at ht
        have h3 : t = 5 := by
          rcases j with _ | j
          · simpa using ht.symm
          · simp at ht
        subst h3
        exact (show Tryz.prog.wantsStandIn 5 = false by kernel_rfl)⟩)
    (by kernel_rfl)
end Go.Proofs.YtpdbkdcdlafobaaGreatDoor.Limits
end
section
namespace Go.Proofs.YtpdbkdcdlafobaaGreatDoor
open Go.RowKit
theorem u8_nat {a0 : Int} (h : (Lit.int .u8 a0).wf = true) : ∃ n : Nat, a0 = n ∧ n < 256 := by
  have h1 : IntKind.u8.min = 0 := rfl
  have h2 : IntKind.u8.max = 255 := rfl
  simp [Lit.wf, h1, h2] at h
  exact ⟨a0.toNat, by omega, by omega⟩
theorem row_int (a b : Int) (s d : Nat) (ha : a = s) (hb : b = d) (hs : s ≤ 1000) (hd : d ≤ 1000) (w : World) : Calls Tryz.prog 6 #[.int .i64 a, .int .i64 b] w fun e w' => e = .returned (.string (str (L.rowT s d))) ∧ w = w' := by
  subst ha hb
  exact row_nat s d hs hd w
theorem L.pad_snoc (k : Nat) : L.pad (k + 1) = L.pad k ++ [32] := by unfold L.pad; rw [L.rep, List.append_assoc]
theorem L.pad_len (k : Nat) : (L.pad k).length = 13 + k := by unfold L.pad; rw [List.length_append, L.rep_len]; simp
theorem run_sp {a : L.Bytes} (h : a.length ≤ 900000) (w : World) : (Op.stringOp .add (str a) ⟨#[32]⟩).run Tryz.prog w = .ok (.string (str (a ++ [32]))) w := run_cat (b := [32]) (by simp; omega) w
set_option maxRecDepth 100000 in
set_option maxHeartbeats 4000000 in
theorem limits_walk : Limits.Walk := by
  intro a0 w0 w
  obtain ⟨n, rfl, hn⟩ := u8_nat w0
  clear w0
  obtain ⟨d, hd, hD, hS⟩ : ∃ d : Nat, d < 59 ∧ (n : Int) % 59 = (d : Int) ∧ (600 - 2 * ((n : Int) % 59) + 1) / 2 = (L.stepsAt d : Nat) := ⟨n % 59, by omega, by omega, by unfold L.stepsAt; omega⟩
  obtain ⟨P, h1, hnd, h2⟩ := L.lim_facts d hd
  obtain ⟨⟨P3, h3⟩, h4, ⟨P5, h5⟩, h6, ⟨P7, h7⟩, h8, h9, h10, ⟨P11, h11⟩, h12⟩ := L.lim_more
  have fp := L.readText_fit h1
  have hs : L.stepsAt d ≤ 300 := by unfold L.stepsAt; omega
  have hs1 : 1 ≤ L.stepsAt d := by unfold L.stepsAt; omega
  obtain ⟨m, hm1, hm2⟩ : ∃ m : Nat, L.nodes P.root = m ∧ (m : Int) = 2 * (L.stepsAt d : Nat) - 1 + 2 * (d : Nat) := ⟨_, rfl, by omega⟩
  generalize L.stepsAt d = s at *
  have H1 := Lib.hid h1
  have H2 := Lib.hid h2
  have H3 := Lib.hid h3
  have H4 := Lib.hid h4
  have H5 := Lib.hid h5
  have H6 := Lib.hid h6
  have H7 := Lib.hid h7
  have H8 := Lib.hid h8
  have H9 := Lib.hid h9
  have H10 := Lib.hid h10
  have H11 := Lib.hid h11
  have H12 := Lib.hid h12
  have HD := Lib.hid hD
  have HS := Lib.hid hS
  have HM1 := Lib.hid hm1
  have HM2 := Lib.hid hm2
  clear h1 h2 h3 h4 h5 h6 h7 h8 h9 h10 h11 h12 hD hS hm1 hm2 hnd
  go_enter Tryz.func3, Tryz.ntmps3
  go_wp2_with fail
  rw [HS.out, HD.out]
  refine (row_int _ _ s d rfl rfl (by omega) (by omega) w).mono ?_
  rintro _ _ ⟨rfl, rfl⟩
  go_wp2_with fail
  refine (read_yes H1.out _).mono ?_
  rintro _ w1 ⟨p, rfl, pp, f1⟩
  have F1 := Lib.hid f1
  have PP1 := Lib.hid pp
  clear f1 pp
  go_wp2_with fail
  refine (row_int _ _ (s + 1) (d) (by omega) rfl (by omega) (by omega) _).mono ?_
  rintro _ _ ⟨rfl, rfl⟩
  go_wp2_with fail
  refine (read_not H2.out _).mono ?_
  rintro _ w2 ⟨rfl, f2⟩
  have F2 := Lib.hid (F1.out.trans f2)
  have PP2 := Lib.hid (PP1.out.keep f2)
  clear f2
  go_wp2_with fail
  refine (row_int _ _ (1) (59) rfl rfl (by omega) (by omega) _).mono ?_
  rintro _ _ ⟨rfl, rfl⟩
  go_wp2_with fail
  refine (read_yes H3.out _).mono ?_
  rintro _ w3 ⟨p3, rfl, -, f3⟩
  have F3 := Lib.hid (F2.out.trans f3)
  have PP3 := Lib.hid (PP2.out.keep f3)
  clear f3
  go_wp2_with fail
  refine (row_int _ _ (1) (60) rfl rfl (by omega) (by omega) _).mono ?_
  rintro _ _ ⟨rfl, rfl⟩
  go_wp2_with fail
  refine (read_not H4.out _).mono ?_
  rintro _ w4 ⟨rfl, f4⟩
  have F4 := Lib.hid (F3.out.trans f4)
  have PP4 := Lib.hid (PP3.out.keep f4)
  clear f4
  go_wp2_with fail
  refine (row_int _ _ (2) (58) rfl rfl (by omega) (by omega) _).mono ?_
  rintro _ _ ⟨rfl, rfl⟩
  go_wp2_with fail
  refine (read_yes H5.out _).mono ?_
  rintro _ w5 ⟨p5, rfl, -, f5⟩
  have F5 := Lib.hid (F4.out.trans f5)
  have PP5 := Lib.hid (PP4.out.keep f5)
  clear f5
  go_wp2_with fail
  refine (row_int _ _ (2) (59) rfl rfl (by omega) (by omega) _).mono ?_
  rintro _ _ ⟨rfl, rfl⟩
  go_wp2_with fail
  refine (read_not H6.out _).mono ?_
  rintro _ w6 ⟨rfl, f6⟩
  have F6 := Lib.hid (F5.out.trans f6)
  have PP6 := Lib.hid (PP5.out.keep f6)
  clear f6
  go_wp2_with fail
  refine (nodes_at PP6.out fp HM1.out).mono ?_
  rintro _ w7 ⟨A7, c7, cs7, rfl, -, -, f7⟩
  have F7 := Lib.hid (F6.out.trans f7)
  clear f7
  have hm := HM2.out
  go_wp2_with fail
  clear hm
  refine (read_yes H7.out _).mono ?_
  rintro _ w8 ⟨p8, rfl, -, f8⟩
  have F8 := Lib.hid (F7.out.trans f8)
  clear f8
  go_wp2_with fail
  refine (read_not H8.out _).mono ?_
  rintro _ w9 ⟨rfl, f9⟩
  have F9 := Lib.hid (F8.out.trans f9)
  clear f9
  go_wp2_with fail
  refine (read_not H9.out _).mono ?_
  rintro _ w10 ⟨rfl, f10⟩
  have F10 := Lib.hid (F9.out.trans f10)
  clear f10
  go_wp2_with fail
  refine (read_not H10.out _).mono ?_
  rintro _ w11 ⟨rfl, f11⟩
  have F11 := Lib.hid (F10.out.trans f11)
  clear f11
  go_wp2_with fail
  go_loopg [17] 3988 (fun q v wr => ∃ k : Nat, k ≤ 3987 ∧ q = 3988 - k ∧ v = .string (str (L.pad k)) ∧ wr = w11)
  case atStart => exact ⟨0, Nat.zero_le _, rfl, rfl, rfl⟩
  case round =>
    obtain ⟨k, hk, rfl, rfl, rfl⟩ := hrel
    have hlen := L.pad_len k
    have hsz : (str (L.pad k)).size = 13 + k := by rw [size_str, hlen]
    have HSN := Lib.hid (L.pad_snoc k)
    by_cases hlt : k < 3987
    · have hcat := fun W => run_sp (a := L.pad k) (by omega) W
      generalize L.pad k = A at *
      have hlt' : (13 : Int) + (k : Int) < 4000 := by omega
      clear hlen
      go_wp2_with fail
      go_roundg (3988 - (k + 1))
      case measure => omega
      case rel => exact ⟨k + 1, by omega, rfl, by rw [HSN.out], rfl⟩
    · have ek : k = 3987 := by omega
      subst ek
      have hcat := fun W => run_sp (a := L.pad 3987) (by omega) W
      rw [← L.pad_snoc] at hcat
      clear hlen
      go_wp2_with fail
      refine (read_yes H11.out _).mono ?_
      rintro _ w12 ⟨p12, rfl, -, f12⟩
      have F12 := Lib.hid (F11.out.trans f12)
      clear f12
      go_wp2_with fail
      refine (read_not (l := L.pad (3987 + 1)) H12.out _).mono ?_
      rintro _ w13 ⟨rfl, f13⟩
      have F13 := Lib.hid (F12.out.trans f13)
      clear f13
      go_wp2_with fail
      refine (awake_any _).mono ?_
      rintro _ w14 ⟨rfl, f14⟩
      have F14 := Lib.hid (F13.out.trans f14)
      clear f14
      go_wp2_with fail
      go_ret
      exact ⟨rfl, F14.out⟩
theorem langLimits_holds : Rows.LangLimitsCardSaid := Limits.card_of limits_walk
end Go.Proofs.YtpdbkdcdlafobaaGreatDoor
end
