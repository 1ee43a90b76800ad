/- The contract of parse: it never panics. The contracts of newPiece and Read. The contracts of valid, Decls, Type. Contracts of the program's functions, with no condition beyond what each theorem states. -/
import Derived.Test.YtpdbkdcdlafobaaGreatDoorC17
import Derived.Defers
import Derived.Recover
import Derived.Laws.Pointers
import Derived.RegionTactic
import Derived.ChangeAlike
import Derived.Test.YtpdbkdcdlafobaaGreatDoorC15
section
namespace Go.Proofs.YtpdbkdcdlafobaaGreatDoor
open Go.RowKit
/-- What parse hands back. -/
def okParse (lo : Nat) (r : Option (List L.Decl × Int × L.Tm)) (w : World) (e : Ending) (w' : World) : Prop :=
  Frm (fun _ => False) w w' ∧ match r with
  | none => e = .returned (.tuple #[.slice none 0 0, .int .i64 0, .nilIface, .bool false])
  | some (ds, t, x) => ∃ dv v, e = .returned (.tuple #[dv, .int .i64 t, v, .bool true]) ∧ Decls w' lo dv ds ∧ Rep w' (lo ≤ ·) x v
set_option maxHeartbeats 400000 in
theorem catch_idle (p0 p1 p2 p3 : Addr) (w : World) :
    CallsD Tryz.prog 35 #[.pointer (some p0), .pointer (some p1), .pointer (some p2), .pointer (some p3)] .returning w fun e u' w' => e = .returned (.tuple #[]) ∧ u' = .returning ∧ w' = w := by
  refine callsD_of_wpS Tryz.func35 rfl fun c₀ cs hu => ?_
  apply wpS_seq
  apply wpS_region
  simp [wpOpsS, go_sem, recoverD, hu, Tryz.ntmps35, Exit.thenS]
  refine wpS_cond (t := false) (by simp [Act.eval, Array.replicate]) ?_
  simp only [Bool.false_eq_true, if_false]
  refine wpS_of_wp (wp_skip ?_)
  cases c₀
  simp_all [bodyPostS, results, Tryz.results35]
set_option maxHeartbeats 400000 in
theorem catch_panicking (r : Nat) (v0 v1 v2 v3 : Value) (u : TypeId) (pv : Value) (w : World) (h0 : Blk w r 31 #[v0]) (h1 : Blk w (r + 1) 32 #[v1]) (h2 : Blk w (r + 2) 34 #[v2]) (h3 : Blk w (r + 3) 4 #[v3]) :
    CallsD Tryz.prog 35 #[.pointer (some ⟨r, 0, none⟩), .pointer (some ⟨r + 1, 0, none⟩), .pointer (some ⟨r + 2, 0, none⟩), .pointer (some ⟨r + 3, 0, none⟩)] (.panicking [{ v := .iface u pv, recovered := false }]) w fun e u' w' =>
      e = .returned (.tuple #[]) ∧ u' = .panicking [{ v := .iface u pv, recovered := true }] ∧ w' = (((w.setCell ⟨r, 0, none⟩ (.slice none 0 0)).setCell ⟨r + 1, 0, none⟩ (.int .i64 0)).setCell ⟨r + 2, 0, none⟩ .nilIface).setCell ⟨r + 3, 0, none⟩ (.bool false) := by
  have c0 := h0.cell 0
  have c1 := h1.cell 0
  have c2 := h2.cell 0
  have c3 := h3.cell 0
  have z0 := h0.frozen 0
  have z1 := h1.frozen 0
  have z2 := h2.frozen 0
  have z3 := h3.frozen 0
  refine callsD_of_wpS Tryz.func35 rfl fun c₀ cs hu => ?_
  apply wpS_seq
  apply wpS_region
  simp [wpOpsS, go_sem, recoverD, hu, Tryz.ntmps35, Exit.thenS]
  refine wpS_cond (t := true) (by simp [Act.eval, Array.replicate]) ?_
  simp only [if_true]
  apply wpS_region
  simp [wpOpsS, go_sem, c0, c1, c2, c3, z0, z1, z2, z3, bodyPostS, results, Tryz.results35]
set_option maxHeartbeats 1000000 in
theorem parse_long (l : L.Bytes) (w : World) (hl : 4000 < l.length) :
    Calls Tryz.prog 17 #[.string (str l)] w (okParse w.heap.size (L.parse l) w) := by
  have HX : Hid (L.parse l = none) := by rw [Hid, L.parse, if_pos hl]
  go_enter_defers Tryz.func17, Tryz.ntmps17
  go_wp2_with fail
  simp [bodyPostD, Leaves, results, Tryz.results17, go_sem]
  exact ⟨((((Frm.refl _ w).alloc _).alloc _).alloc _).alloc _, by rw [HX.out]⟩
theorem declsFrom_le : ∀ n acc, L.Le (L.declsFrom n acc)
  | 0, _ => L.lt_no.le
  | n + 1, _ => L.le_bind L.decl_lt.le fun _ => L.le_bind (L.take_le _) fun _ => L.le_ite (declsFrom_le n _) (L.le_ite (L.le_ret _) L.lt_no.le)
theorem decls_le : L.Le L.decls := fun s x s' h => by
  unfold L.decls at h
  split at h
  · cases h; exact Nat.le_refl _
  · exact declsFrom_le _ _ s x s' h
theorem door_bad {T : Array Value} {r : Nat} (w w' : World) (R : Option (List L.Decl × Int × L.Tm)) (hR : R = none) (hr : w.heap.size ≤ r)
    (t2 : T[2]?.getD undef = .pointer (some ⟨r, 0, none⟩)) (t3 : T[3]?.getD undef = .pointer (some ⟨r + 1, 0, none⟩)) (t4 : T[4]?.getD undef = .pointer (some ⟨r + 1 + 1, 0, none⟩)) (t5 : T[5]?.getD undef = .pointer (some ⟨r + 1 + 1 + 1, 0, none⟩))
    (v0 v1 v2 v3 : Value) (h0 : Blk w' r 31 #[v0]) (h1 : Blk w' (r + 1) 32 #[v1]) (h2 : Blk w' (r + 2) 34 #[v2]) (h3 : Blk w' (r + 3) 4 #[v3]) (hf : Frm (fun _ => False) w w') :
    bodyPostD Tryz.prog Tryz.f17 (okParse w.heap.size R w) (Exit.panic malformed)
      { tmps := T, defers := [{ target := Target.fn (Fn.func 35) #[.pointer (some ⟨r, 0, none⟩), .pointer (some ⟨r + 1, 0, none⟩), .pointer (some ⟨r + 1 + 1, 0, none⟩), .pointer (some ⟨r + 1 + 1 + 1, 0, none⟩)], args := #[] }] } w' := by
  refine leaves_cons (f := 35) (args := #[.pointer (some ⟨r, 0, none⟩), .pointer (some ⟨r + 1, 0, none⟩), .pointer (some ⟨r + 1 + 1, 0, none⟩), .pointer (some ⟨r + 1 + 1 + 1, 0, none⟩)]) (by simp) (by simp [go_sem]) ?_
  refine (catch_panicking r v0 v1 v2 v3 _ _ w' h0 h1 h2 h3).mono ?_
  rintro e u' w'' ⟨rfl, rfl, rfl⟩
  have b0 := ((((h0.set_ 0 (.slice none 0 0)).far (p := ⟨r + 1, 0, none⟩) (by simp) (.int .i64 0)).far (p := ⟨r + 2, 0, none⟩) (by simp) .nilIface).far (p := ⟨r + 3, 0, none⟩) (by simp) (.bool false)).cell 0
  have b1 := ((((h1.far (p := ⟨r, 0, none⟩) (by simp) (.slice none 0 0)).set_ 0 (.int .i64 0)).far (p := ⟨r + 2, 0, none⟩) (by simp) .nilIface).far (p := ⟨r + 3, 0, none⟩) (by simp) (.bool false)).cell 0
  have b2 := ((((h2.far (p := ⟨r, 0, none⟩) (by simp) (.slice none 0 0)).far (p := ⟨r + 1, 0, none⟩) (by simp) (.int .i64 0)).set_ 0 .nilIface).far (p := ⟨r + 3, 0, none⟩) (by simp) (.bool false)).cell 0
  have b3 := ((((h3.far (p := ⟨r, 0, none⟩) (by simp) (.slice none 0 0)).far (p := ⟨r + 1, 0, none⟩) (by simp) (.int .i64 0)).far (p := ⟨r + 2, 0, none⟩) (by simp) .nilIface).set_ 0 (.bool false)).cell 0
  simp [Leaves, settle, results, Tryz.results17, go_sem, t2, t3, t4, t5, b0, b1, b2, b3]
  exact ⟨(((hf.set_ (p := ⟨r, 0, none⟩) (fun h => by simp at h; omega) _).set_ (p := ⟨r + 1, 0, none⟩) (fun h => by simp at h; omega) _).set_ (p := ⟨r + 2, 0, none⟩) (fun h => by simp at h; omega) _).set_ (p := ⟨r + 3, 0, none⟩) (fun h => by simp at h; omega) _, by rw [hR]⟩
set_option maxHeartbeats 2000000 in
theorem parse_short (l : L.Bytes) (w : World) (hl : l.length ≤ 4000) :
    Calls Tryz.prog 17 #[.string (str l)] w (okParse w.heap.size (L.parse l) w) := by
  have HX : Hid (L.parse l = match L.whole l ⟨[], l⟩ with | some (x, _) => some x | none => none) := by rw [Hid, L.parse, if_neg (by omega)]; rfl
  have hmf : ∀ (fn : Fn) (first cap : Array Value) (w : World), (Instr.makeFunc fn first cap).run Tryz.prog w = .ok (.func fn first cap) w := fun _ _ _ _ => rfl
  have q0 : PS (((((w.alloc (.cells #[.slice none 0 0] 31)).alloc (.cells #[.int .i64 0] 32)).alloc (.cells #[.nilIface] 34)).alloc (.cells #[.bool false] 4)).alloc (.cells #[.string ⟨#[]⟩, .string (str l)] 88)) (w.heap.size + 1 + 1 + 1 + 1) ⟨[], l⟩ :=
    ⟨by have := Blk.new ((((w.alloc (.cells #[.slice none 0 0] 31)).alloc (.cells #[.int .i64 0] 32)).alloc (.cells #[.nilIface] 34)).alloc (.cells #[.bool false] 4)) 88 #[.string (str []), .string (str l)]; simp at this; exact this, by simp, hl⟩
  have B0_0 := Lib.hid (((((Blk.new w 31 #[.slice none 0 0]).alloc (.cells #[.int .i64 0] 32)).alloc (.cells #[.nilIface] 34)).alloc (.cells #[.bool false] 4)).alloc (.cells #[.string ⟨#[]⟩, .string (str l)] 88))
  have B1_0 : Hid (Blk (((((w.alloc (.cells #[.slice none 0 0] 31)).alloc (.cells #[.int .i64 0] 32)).alloc (.cells #[.nilIface] 34)).alloc (.cells #[.bool false] 4)).alloc (.cells #[.string ⟨#[]⟩, .string (str l)] 88)) (w.heap.size + 1) 32 #[.int .i64 0]) := by
    have := (((Blk.new (w.alloc (.cells #[.slice none 0 0] 31)) 32 #[.int .i64 0]).alloc (.cells #[.nilIface] 34)).alloc (.cells #[.bool false] 4)).alloc (.cells #[.string ⟨#[]⟩, .string (str l)] 88); simp at this; exact this
  have B2_0 : Hid (Blk (((((w.alloc (.cells #[.slice none 0 0] 31)).alloc (.cells #[.int .i64 0] 32)).alloc (.cells #[.nilIface] 34)).alloc (.cells #[.bool false] 4)).alloc (.cells #[.string ⟨#[]⟩, .string (str l)] 88)) (w.heap.size + 1 + 1) 34 #[.nilIface]) := by
    have := ((Blk.new ((w.alloc (.cells #[.slice none 0 0] 31)).alloc (.cells #[.int .i64 0] 32)) 34 #[.nilIface]).alloc (.cells #[.bool false] 4)).alloc (.cells #[.string ⟨#[]⟩, .string (str l)] 88); simp at this; exact this
  have B3_0 : Hid (Blk (((((w.alloc (.cells #[.slice none 0 0] 31)).alloc (.cells #[.int .i64 0] 32)).alloc (.cells #[.nilIface] 34)).alloc (.cells #[.bool false] 4)).alloc (.cells #[.string ⟨#[]⟩, .string (str l)] 88)) (w.heap.size + 1 + 1 + 1) 4 #[.bool false]) := by
    have := (Blk.new (((w.alloc (.cells #[.slice none 0 0] 31)).alloc (.cells #[.int .i64 0] 32)).alloc (.cells #[.nilIface] 34)) 4 #[.bool false]).alloc (.cells #[.string ⟨#[]⟩, .string (str l)] 88); simp at this; exact this
  have F0 := Lib.hid ((((((Frm.refl (· = w.heap.size + 1 + 1 + 1 + 1) w).alloc (.cells #[.slice none 0 0] 31)).alloc (.cells #[.int .i64 0] 32)).alloc (.cells #[.nilIface] 34)).alloc (.cells #[.bool false] 4)).alloc (.cells #[.string ⟨#[]⟩, .string (str l)] 88))
  go_enter_defers Tryz.func17, Tryz.ntmps17
  go_wp2_with fail
  refine PPost.call (next_any _ _ _ q0) (fun w' hn hf => door_bad w w' _ (by simp only [HX.out, L.whole, L.Rd.bind, hn]) (Nat.le_refl _) rfl rfl rfl rfl _ _ _ _ (hf.blk B0_0.out (by omega)) (hf.blk B1_0.out (by omega)) (hf.blk B2_0.out (by omega)) (hf.blk B3_0.out (by omega)) ((F0.out.trans hf).mono fun b hb h => by omega)) ?_
  rintro _ s1 v1 w1 H1 rfl q1 f1
  have B0_1 := Lib.hid (f1.blk B0_0.out (by omega))
  have B1_1 := Lib.hid (f1.blk B1_0.out (by omega))
  have B2_1 := Lib.hid (f1.blk B2_0.out (by omega))
  have B3_1 := Lib.hid (f1.blk B3_0.out (by omega))
  have F1 := Lib.hid (F0.out.trans f1)
  have z1 : w.heap.size + 1 + 1 + 1 < w1.heap.size := B3_1.out.lt
  clear f1
  go_wp2_with fail
  refine PPost.call (decls_any _ _ _ q1) (fun w' hn hf => door_bad w w' _ (by simp only [HX.out, L.whole, L.Rd.bind, H1.out, hn]) (Nat.le_refl _) rfl rfl rfl rfl _ _ _ _ (hf.blk B0_1.out (by omega)) (hf.blk B1_1.out (by omega)) (hf.blk B2_1.out (by omega)) (hf.blk B3_1.out (by omega)) ((F1.out.trans hf).mono fun b hb h => by omega)) ?_
  rintro ds s2 v2 w2 H2 hd q2 f2
  have Z2 := f2.1
  have B0_2 := Lib.hid (f2.blk B0_1.out (by omega))
  have B1_2 := Lib.hid (f2.blk B1_1.out (by omega))
  have B2_2 := Lib.hid (f2.blk B2_1.out (by omega))
  have B3_2 := Lib.hid (f2.blk B3_1.out (by omega))
  have F2 := Lib.hid (F1.out.trans f2)
  have z2 : w.heap.size + 1 + 1 + 1 < w2.heap.size := B3_2.out.lt
  clear f2
  have HD2 : Hid (Decls w2 w1.heap.size v2 ds) := hd
  obtain ⟨A, c, rfl⟩ := own_form HD2.out.choose_spec.1
  clear hd
  have cc := B0_2.out.cell 0
  have zz := B0_2.out.frozen 0
  have B0_2s := Lib.hid (B0_2.out.set_ 0 (.slice A ds.length c))
  have B1_2s := Lib.hid (B1_2.out.far (p := ⟨w.heap.size, 0, none⟩) (by intro h; dsimp only at h; omega) (.slice A ds.length c))
  have B2_2s := Lib.hid (B2_2.out.far (p := ⟨w.heap.size, 0, none⟩) (by intro h; dsimp only at h; omega) (.slice A ds.length c))
  have B3_2s := Lib.hid (B3_2.out.far (p := ⟨w.heap.size, 0, none⟩) (by intro h; dsimp only at h; omega) (.slice A ds.length c))
  have F2s := Lib.hid (F2.out.set_ (p := ⟨w.heap.size, 0, none⟩) (fun h => by dsimp only at h; omega) (.slice A ds.length c))
  have q2s : PS (w2.setCell ⟨w.heap.size, 0, none⟩ (.slice A ds.length c)) (w.heap.size + 1 + 1 + 1 + 1) s2 := ⟨q2.1.far (by intro h; dsimp only at h; omega) _, q2.2⟩
  have HD2s : Hid (Decls (w2.setCell ⟨w.heap.size, 0, none⟩ (.slice A ds.length c)) w1.heap.size (.slice A ds.length c) ds) := HD2.out.keep (Nat.le_refl _) fun b hb hl => Below.heap_setCell _ _ _ _ (by simp; omega)
  have hpb : w.heap.size + 1 + 1 + 1 + 1 < w1.heap.size := q1.1.lt
  go_wp2_with fail
  refine PPost.call (want_any [124, 45] _ _ _ q2s) (fun w' hn hf => door_bad w w' _ (by simp only [HX.out, L.whole, L.Rd.bind, H1.out, H2.out, hn]) (Nat.le_refl _) rfl rfl rfl rfl _ _ _ _ (hf.blk B0_2s.out (by omega)) (hf.blk B1_2s.out (by omega)) (hf.blk B2_2s.out (by omega)) (hf.blk B3_2s.out (by omega)) ((F2s.out.trans hf).mono fun b hb h => by omega)) ?_
  rintro _ s3 v3 w3 H3 rfl q3 f3
  have Z3 := Nat.le_trans Z2 (show w2.heap.size ≤ w3.heap.size from by have := f3.1; simp at this; exact this)
  have B0_3 := Lib.hid (f3.blk B0_2s.out (by omega))
  have B1_3 := Lib.hid (f3.blk B1_2s.out (by omega))
  have B2_3 := Lib.hid (f3.blk B2_2s.out (by omega))
  have B3_3 := Lib.hid (f3.blk B3_2s.out (by omega))
  have F3 := Lib.hid (F2s.out.trans f3)
  have HD3 := Lib.hid (HD2s.out.keep (Nat.le_refl _) (fun b hb hl => f3.2 b hl (by omega)))
  clear f3
  go_wp2_with fail
  refine PPost.call (result_any _ _ _ q3) (fun w' hn hf => door_bad w w' _ (by simp only [HX.out, L.whole, L.Rd.bind, H1.out, H2.out, H3.out, hn]) (Nat.le_refl _) rfl rfl rfl rfl _ _ _ _ (hf.blk B0_3.out (by omega)) (hf.blk B1_3.out (by omega)) (hf.blk B2_3.out (by omega)) (hf.blk B3_3.out (by omega)) ((F3.out.trans hf).mono fun b hb h => by omega)) ?_
  rintro t s4 v4 w4 H4 rfl q4 f4
  have Z4 := Nat.le_trans Z3 f4.1
  have B0_4 := Lib.hid (f4.blk B0_3.out (by omega))
  have B1_4 := Lib.hid (f4.blk B1_3.out (by omega))
  have B2_4 := Lib.hid (f4.blk B2_3.out (by omega))
  have B3_4 := Lib.hid (f4.blk B3_3.out (by omega))
  have F4 := Lib.hid (F3.out.trans f4)
  have HD4 := Lib.hid (HD3.out.keep (Nat.le_refl _) (fun b hb hl => f4.2 b hl (by omega)))
  clear f4
  have ht := Lib.hid (result_01 H4.out)
  have cc := B1_4.out.cell 0
  have zz := B1_4.out.frozen 0
  have B0_4s := Lib.hid (B0_4.out.far (p := ⟨w.heap.size + 1, 0, none⟩) (by intro h; dsimp only at h; omega) (.int .i64 t))
  have B1_4s := Lib.hid (B1_4.out.set_ 0 (.int .i64 t))
  have B2_4s := Lib.hid (B2_4.out.far (p := ⟨w.heap.size + 1, 0, none⟩) (by intro h; dsimp only at h; omega) (.int .i64 t))
  have B3_4s := Lib.hid (B3_4.out.far (p := ⟨w.heap.size + 1, 0, none⟩) (by intro h; dsimp only at h; omega) (.int .i64 t))
  have F4s := Lib.hid (F4.out.set_ (p := ⟨w.heap.size + 1, 0, none⟩) (fun h => by dsimp only at h; omega) (.int .i64 t))
  have q4s : PS (w4.setCell ⟨w.heap.size + 1, 0, none⟩ (.int .i64 t)) (w.heap.size + 1 + 1 + 1 + 1) s4 := ⟨q4.1.far (by intro h; dsimp only at h; omega) _, q4.2⟩
  have HD4s : Hid (Decls (w4.setCell ⟨w.heap.size + 1, 0, none⟩ (.int .i64 t)) w1.heap.size (.slice A ds.length c) ds) := HD4.out.keep (Nat.le_refl _) fun b hb hl => Below.heap_setCell _ _ _ _ (by simp; omega)
  go_wp2_with fail
  refine PPost.call (want_any [58] _ _ _ q4s) (fun w' hn hf => door_bad w w' _ (by simp only [HX.out, L.whole, L.Rd.bind, H1.out, H2.out, H3.out, H4.out, hn]) (Nat.le_refl _) rfl rfl rfl rfl _ _ _ _ (hf.blk B0_4s.out (by omega)) (hf.blk B1_4s.out (by omega)) (hf.blk B2_4s.out (by omega)) (hf.blk B3_4s.out (by omega)) ((F4s.out.trans hf).mono fun b hb h => by omega)) ?_
  rintro _ s5 v5 w5 H5 rfl q5 f5
  have Z5 := Nat.le_trans Z4 (show w4.heap.size ≤ w5.heap.size from by have := f5.1; simp at this; exact this)
  have B0_5 := Lib.hid (f5.blk B0_4s.out (by omega))
  have B1_5 := Lib.hid (f5.blk B1_4s.out (by omega))
  have B2_5 := Lib.hid (f5.blk B2_4s.out (by omega))
  have B3_5 := Lib.hid (f5.blk B3_4s.out (by omega))
  have F5 := Lib.hid (F4s.out.trans f5)
  have HD5 := Lib.hid (HD4s.out.keep (Nat.le_refl _) (fun b hb hl => f5.2 b hl (by omega)))
  clear f5
  have c5 := B1_5.out.cell 0
  have hm : s5.m ≤ l.length := by have := L.next_le _ _ _ H1.out; have := decls_le _ _ _ H2.out; have := L.want_le _ _ _ _ H3.out; have := L.result_le _ _ _ H4.out; have := L.want_le _ _ _ _ H5.out; simp only [L.St.m, List.length_nil] at *; omega
  go_wp2_with fail
  refine PPost.call ((good (10 * l.length + 8) _ (Nat.le_refl _)).body t ht.out _ _ _ q5 (by omega)) (fun w' hn hf => door_bad w w' _ (by simp only [HX.out, L.whole, L.Rd.bind, H1.out, H2.out, H3.out, H4.out, H5.out, hn]) (Nat.le_refl _) rfl rfl rfl rfl _ _ _ _ (hf.blk B0_5.out (by omega)) (hf.blk B1_5.out (by omega)) (hf.blk B2_5.out (by omega)) (hf.blk B3_5.out (by omega)) ((F5.out.trans hf).mono fun b hb h => by omega)) ?_
  rintro x s6 v6 w6 H6 hv q6 f6
  have B0_6 := Lib.hid (f6.blk B0_5.out (by omega))
  have B1_6 := Lib.hid (f6.blk B1_5.out (by omega))
  have B2_6 := Lib.hid (f6.blk B2_5.out (by omega))
  have B3_6 := Lib.hid (f6.blk B3_5.out (by omega))
  have F6 := Lib.hid (F5.out.trans f6)
  have HD6 := Lib.hid (HD5.out.keep (Nat.le_refl _) (fun b hb hl => f6.2 b hl (by omega)))
  clear f6
  have HR6 : Hid (Rep w6 (w5.heap.size ≤ ·) x v6) := hv
  obtain ⟨Tx, cx, rfl⟩ := Rep.form HR6.out
  clear hv c5
  have cc := B2_6.out.cell 0
  have zz := B2_6.out.frozen 0
  have B0_6s := Lib.hid (B0_6.out.far (p := ⟨w.heap.size + 1 + 1, 0, none⟩) (by intro h; dsimp only at h; omega) (.iface Tx (.agg cx)))
  have B1_6s := Lib.hid (B1_6.out.far (p := ⟨w.heap.size + 1 + 1, 0, none⟩) (by intro h; dsimp only at h; omega) (.iface Tx (.agg cx)))
  have B2_6s := Lib.hid (B2_6.out.set_ 0 (.iface Tx (.agg cx)))
  have B3_6s := Lib.hid (B3_6.out.far (p := ⟨w.heap.size + 1 + 1, 0, none⟩) (by intro h; dsimp only at h; omega) (.iface Tx (.agg cx)))
  have F6s := Lib.hid (F6.out.set_ (p := ⟨w.heap.size + 1 + 1, 0, none⟩) (fun h => by dsimp only at h; omega) (.iface Tx (.agg cx)))
  have q6s : PS (w6.setCell ⟨w.heap.size + 1 + 1, 0, none⟩ (.iface Tx (.agg cx))) (w.heap.size + 1 + 1 + 1 + 1) s6 := ⟨q6.1.far (by intro h; dsimp only at h; omega) _, q6.2⟩
  have HD6s : Hid (Decls (w6.setCell ⟨w.heap.size + 1 + 1, 0, none⟩ (.iface Tx (.agg cx))) w1.heap.size (.slice A ds.length c) ds) := HD6.out.keep (Nat.le_refl _) fun b hb hl => Below.heap_setCell _ _ _ _ (by simp; omega)
  have HR6s : Hid (Rep (w6.setCell ⟨w.heap.size + 1 + 1, 0, none⟩ (.iface Tx (.agg cx))) (w5.heap.size ≤ ·) x (.iface Tx (.agg cx))) := Rep.keep (fun b hb hl => Below.heap_setCell _ _ _ _ (by simp; omega)) (fun _ hb _ => hb) HR6.out
  go_wp2_with fail
  refine PPost.call (want_any [] _ _ _ q6s) (fun w' hn hf => door_bad w w' _ (by simp only [HX.out, L.whole, L.Rd.bind, H1.out, H2.out, H3.out, H4.out, H5.out, H6.out, hn]) (Nat.le_refl _) rfl rfl rfl rfl _ _ _ _ (hf.blk B0_6s.out (by omega)) (hf.blk B1_6s.out (by omega)) (hf.blk B2_6s.out (by omega)) (hf.blk B3_6s.out (by omega)) ((F6s.out.trans hf).mono fun b hb h => by omega)) ?_
  rintro _ s7 v7 w7 H7 rfl q7 f7
  have B0_7 := Lib.hid (f7.blk B0_6s.out (by omega))
  have B1_7 := Lib.hid (f7.blk B1_6s.out (by omega))
  have B2_7 := Lib.hid (f7.blk B2_6s.out (by omega))
  have B3_7 := Lib.hid (f7.blk B3_6s.out (by omega))
  have F7 := Lib.hid (F6s.out.trans f7)
  have HD7 := Lib.hid (HD6s.out.keep (Nat.le_refl _) (fun b hb hl => f7.2 b hl (by omega)))
  have HR7 := Lib.hid (Rep.over (lo' := w5.heap.size) HR6s.out f7 (by omega) (Nat.le_refl _))
  clear f7
  have e0 := B0_7.out.cell 0
  have e1 := B1_7.out.cell 0
  have e2 := B2_7.out.cell 0
  have e3 := B3_7.out.cell 0
  have y0 := B0_7.out.frozen 0
  have y1 := B1_7.out.frozen 0
  have y2 := B2_7.out.frozen 0
  have y3 := B3_7.out.frozen 0
  go_wp2_with fail
  go_region
  go_wp2_with fail
  refine leaves_cons (f := 35) (args := #[.pointer (some ⟨w.heap.size, 0, none⟩), .pointer (some ⟨w.heap.size + 1, 0, none⟩), .pointer (some ⟨w.heap.size + 1 + 1, 0, none⟩), .pointer (some ⟨w.heap.size + 1 + 1 + 1, 0, none⟩)]) (by simp) (by simp [go_sem]) ?_
  refine (catch_idle _ _ _ _ _).mono ?_
  rintro e u' w'' ⟨rfl, rfl, rfl⟩
  simp [Leaves, settle, results, Tryz.results17, go_sem, e0, e1, e2, e3]
  have K : Frm (fun b => b < w1.heap.size) w7 ((((w7.setCell ⟨w.heap.size, 0, none⟩ (.slice A ds.length c)).setCell ⟨w.heap.size + 1, 0, none⟩ (.int .i64 t)).setCell ⟨w.heap.size + 1 + 1, 0, none⟩ (.iface Tx (.agg cx))).setCell ⟨w.heap.size + 1 + 1 + 1, 0, none⟩ (.bool true)).drew :=
    (((((Frm.refl (fun b => b < w1.heap.size) w7).set_ (p := ⟨w.heap.size, 0, none⟩) (fun _ => by dsimp only; omega) _).set_ (p := ⟨w.heap.size + 1, 0, none⟩) (fun _ => by dsimp only; omega) _).set_ (p := ⟨w.heap.size + 1 + 1, 0, none⟩) (fun _ => by dsimp only; omega) _).set_ (p := ⟨w.heap.size + 1 + 1 + 1, 0, none⟩) (fun _ => by dsimp only; omega) _).drew
  have KF : Frm (fun _ => False) w ((((w7.setCell ⟨w.heap.size, 0, none⟩ (.slice A ds.length c)).setCell ⟨w.heap.size + 1, 0, none⟩ (.int .i64 t)).setCell ⟨w.heap.size + 1 + 1, 0, none⟩ (.iface Tx (.agg cx))).setCell ⟨w.heap.size + 1 + 1 + 1, 0, none⟩ (.bool true)).drew :=
    (((((F7.out.mono (E' := fun _ => False) (fun b hb h => by omega)).set_ (p := ⟨w.heap.size, 0, none⟩) (fun h => by dsimp only at h; omega) _).set_ (p := ⟨w.heap.size + 1, 0, none⟩) (fun h => by dsimp only at h; omega) _).set_ (p := ⟨w.heap.size + 1 + 1, 0, none⟩) (fun h => by dsimp only at h; omega) _).set_ (p := ⟨w.heap.size + 1 + 1 + 1, 0, none⟩) (fun h => by dsimp only at h; omega) _).drew
  refine ⟨KF, ?_⟩
  have hL : L.parse l = some (ds, t, x) := by simp only [HX.out, L.whole, L.Rd.bind, H1.out, H2.out, H3.out, H4.out, H5.out, H6.out, H7.out, L.Rd.ret]
  rw [hL]
  exact ⟨_, _, rfl, HD7.out.keep (by omega) (fun b hb hl => K.2 b hl (by omega)), Rep.keep (fun b hb hl => K.2 b hl (by omega)) (fun b hb _ => by omega) HR7.out⟩
theorem parse_any (l : L.Bytes) (w : World) : Calls Tryz.prog 17 #[.string (str l)] w (okParse w.heap.size (L.parse l) w) := by
  rcases Nat.lt_or_ge 4000 l.length with h | h
  · exact parse_long l w h
  · exact parse_short l w h
end Go.Proofs.YtpdbkdcdlafobaaGreatDoor
end
section
namespace Go.Proofs.YtpdbkdcdlafobaaGreatDoor
open Go.RowKit Go.Shelf
/-- A piece at a block. -/
def PcAt (w : World) (p : Nat) (P : L.Piece) : Prop := ∃ dv rv, Blk w p 36 #[dv, .int .i64 P.typ, rv] ∧ Decls w 0 dv P.decls ∧ Rep w (fun _ => True) P.root rv
theorem PcAt.keep {w w' : World} {p : Nat} {P : L.Piece} (h : PcAt w p P) (F : Frm (fun _ => False) w w') : PcAt w' p P := by
  obtain ⟨dv, rv, hb, hd, hr⟩ := h
  exact ⟨dv, rv, F.blk hb id, hd.keep (Nat.le_refl _) (fun b _ hl => F.2 b hl id), Rep.keep (F.same fun _ _ _ => id) (fun _ _ _ => trivial) hr⟩
/-- What a call that makes a piece hands back. -/
def PcPost (w : World) (r : Int × Option L.Piece) (e : Ending) (w' : World) : Prop :=
  Frm (fun _ => False) w w' ∧ ∃ v, e = .returned (.tuple #[v, .int .i64 r.1]) ∧ match r.2 with
    | none => v = .pointer none
    | some P => ∃ p, v = .pointer (some ⟨p, 0, none⟩) ∧ PcAt w' p P
theorem ins_none (fn : Fn) (fi cs : Array Value) (w : World) : Calls Tryz.prog 103 #[.slice none 0 0, .int .i64 0, .int .i64 0, .func fn fi cs] w fun e w' => e = .returned (.tuple #[]) ∧ w = w' := by
  go_enter Tryz.func103, Tryz.ntmps103
  go_wp2_with fail
  go_loop [8] (fun i => i = .int .i64 1) (fun _ => 0)
  case atStart => rfl
  case round =>
    obtain rfl := hrel
    go_wp2_with fail
    go_end0
    exact ⟨rfl, rfl⟩
theorem pdq_none (l : Int) (fn : Fn) (fi cs : Array Value) (w : World) : Calls Tryz.prog 72 #[.slice none 0 0, .int .i64 0, .int .i64 0, .int .i64 l, .func fn fi cs] w fun e w' => e = .returned (.tuple #[]) ∧ w = w' := by
  go_enter Tryz.func72, Tryz.ntmps72
  go_wp2_with fail
  go_loop [1, 2] (fun a b => a = .int .i64 0 ∧ b = .int .i64 0) (fun _ _ => 0)
  case atStart => exact ⟨rfl, rfl⟩
  case round =>
    obtain ⟨rfl, rfl⟩ := hrel
    go_wp2_with fail
    refine (ins_none _ _ _ _).mono ?_
    rintro e w' ⟨rfl, rfl⟩
    go_wp2_with fail
    exact bodyPost_ret (results_none rfl _ _ _) rfl ⟨rfl, rfl⟩
theorem sort_none (fn : Fn) (fi cs : Array Value) (w : World) : Calls Tryz.prog 45 #[.slice none 0 0, .func fn fi cs] w fun e w' => e = .returned (.tuple #[]) ∧ w = w' := by
  go_enter Tryz.func45, Tryz.ntmps45
  go_wp2_with fail
  refine (lenD 0 _ (by omega)).mono ?_
  rintro e w' ⟨⟨l, rfl⟩, rfl⟩
  go_wp2_with fail
  refine (pdq_none l _ _ _ _).mono ?_
  rintro e w' ⟨rfl, rfl⟩
  go_wp2_with fail
  go_end0
  exact ⟨rfl, rfl⟩
theorem sort_decls {w : World} {lo : Nat} {v : Value} {ds : List L.Decl} (h : Decls w lo v ds) (h4 : ds.length ≤ 4) (hn : L.Names ds) :
    Calls Tryz.prog 45 #[v, .func (.func 46) #[] #[]] w fun e w' => e = .returned (.tuple #[]) ∧ Decls w' lo v (L.sortD ds) ∧ Frm (fun b => lo ≤ b) w w' := by
  have hx := h
  obtain ⟨cs, ho, _⟩ := hx
  rcases ho.2 with ⟨rfl, hn0⟩ | ⟨g, cap, cur, rfl, hlo, _⟩
  · have e : ds = [] := List.eq_nil_of_length_eq_zero hn0
    subst e
    refine (sort_none _ _ _ w).mono ?_
    rintro e w' ⟨rfl, rfl⟩
    exact ⟨rfl, h, Frm.refl _ _⟩
  · refine (sort_any h h4 hn).mono ?_
    rintro e w' ⟨rfl, h1, h2⟩
    exact ⟨rfl, h1, h2.mono fun b _ h => by subst h; exact hlo⟩
set_option maxRecDepth 100000 in
set_option maxHeartbeats 2000000 in
theorem newPiece_any (dv v : Value) (ds : List L.Decl) (ty : Int) (t : L.Tm) (w : World) (hd : Decls w 0 dv ds) (h4 : ds.length ≤ 4) (hn : L.Names ds) (ha : ∀ d ∈ ds, d.args.length ≤ 3) (hrep : Rep w (fun _ => True) t v) (hnd : L.nodes t ≤ 1000000) :
    Calls Tryz.prog 19 #[dv, .int .i64 ty, v] w (PcPost w (L.newPiece ds ty t)) := by
  obtain ⟨T, x, rfl⟩ := Rep.form hrep
  obtain ⟨A, c, rfl⟩ : ∃ A c, dv = .slice A ds.length c := by obtain ⟨cs, ho, _⟩ := hd; exact own_form ho
  have HR := Lib.hid hrep
  have HD := Lib.hid hd
  have hlv := hrep.ok.levels
  have HN := Lib.hid hn
  have HA := Lib.hid ha
  clear hrep hd hn ha
  go_enter Tryz.func19, Tryz.ntmps19
  go_wp2_with fail
  refine (measure_any _ t _ _ w (Nat.le_refl _) HR.out 1 (by omega) (by omega) (by omega)).mono ?_
  rintro _ w1 ⟨rfl, f1⟩
  have F1 := Lib.hid f1
  have HL : Hid ((1 : Int) - 1 + (L.levels t : Nat) = (L.levels t : Nat)) := show _ = _ by omega
  rw [HL.out]
  clear f1
  by_cases hbig : 600 < L.nodes t ∨ 60 < L.levels t
  · have HP : Hid (L.newPiece ds ty t = (5, none)) := if_pos hbig
    by_cases h6 : 600 < L.nodes t
    · clear hbig
      go_wp2_with fail
      go_ret2
      rw [HP.out]
      exact ⟨F1.out, _, rfl, rfl⟩
    · have h60 : 60 < L.levels t := hbig.resolve_left h6
      clear hbig
      go_wp2_with fail
      go_ret2
      rw [HP.out]
      exact ⟨F1.out, _, rfl, rfl⟩
  · have HP : Hid (L.newPiece ds ty t = (0, some ⟨L.sortD ds, ty, t⟩)) := if_neg hbig
    have h6 : L.nodes t ≤ 600 := by omega
    have h60 : L.levels t ≤ 60 := by omega
    clear hbig
    go_wp2_with fail
    refine (copyDecls_any _ ds w1 (HD.out.keep (Nat.le_refl _) fun b _ hl => F1.out.2 b hl id) (by omega) (fun d hd => Nat.le_trans (HA.out d hd) (by omega))).mono ?_
    rintro _ w2 ⟨v2, rfl, hd2, f2⟩
    obtain ⟨A2, c2, rfl⟩ : ∃ A c, v2 = .slice A ds.length c := by obtain ⟨cs, ho, _⟩ := hd2; exact own_form ho
    have HD2 := Lib.hid hd2
    have F2 := Lib.hid (F1.out.trans f2)
    clear hd2 f2
    go_wp2_with fail
    refine (sort_decls HD2.out h4 HN.out).mono ?_
    rintro _ w3 ⟨rfl, hd3, f3⟩
    have F3 : Hid (Frm (fun _ => False) w w3) := (Frm.mono (E := fun b => w1.heap.size ≤ b) ((F2.out.mono fun _ _ h => h.elim).trans f3) fun b hb h => by have := F1.out.1; omega)
    have HD3 := Lib.hid hd3
    have HR3 := Lib.hid (Rep.keep (A' := fun _ => True) (F3.out.same fun _ _ _ => id) (fun _ _ _ => trivial) HR.out)
    clear hd3 f3
    go_wp2_with fail
    go_ret2
    rw [HP.out]
    have G := (Frm.refl (fun _ => False) w3).alloc (.cells #[.slice A2 ds.length c2, .int .i64 ty, .iface T (.agg x)] 36)
    exact ⟨F3.out.trans G, _, rfl, _, rfl, _, _, Blk.new w3 _ _, HD3.out.keep (Nat.zero_le _) (fun b _ hl => G.2 b hl id), Rep.keep (G.same fun _ _ _ => id) (fun _ _ _ => trivial) HR3.out⟩
set_option maxRecDepth 100000 in
set_option maxHeartbeats 2000000 in
theorem read_any (l : L.Bytes) (w : World) : Calls Tryz.prog 5 #[.string (str l)] w (PcPost w (L.readText l)) := by
  have HX : Hid (L.readText l = match L.parse l with | none => (2, none) | some (ds, ty, t) => if (L.resolve ds t).2 ≠ 0 then ((L.resolve ds t).2, none) else L.newPiece ds ty (L.resolve ds t).1) := rfl
  go_enter Tryz.func5, Tryz.ntmps5
  go_wp2_with fail
  refine (parse_any l w).mono ?_
  rintro _ w1 ⟨f1, hp⟩
  have F1 := Lib.hid f1
  cases hpl : L.parse l with
  | none =>
    rw [hpl] at hp
    obtain rfl := hp
    have HY : Hid (L.readText l = (2, none)) := show _ = _ by rw [HX.out, hpl]
    clear hpl f1 HX
    go_wp2_with fail
    go_ret2
    rw [HY.out]
    exact ⟨F1.out, _, rfl, rfl⟩
  | some r =>
    obtain ⟨ds, ty, t⟩ := r
    rw [hpl] at hp
    obtain ⟨dv, v, rfl, hd, hr⟩ := hp
    obtain ⟨hok, hfl, hnd, hod, -⟩ := L.parse_good hpl
    obtain ⟨hn, h4, ha⟩ := L.okDecls_all hod
    have HN := Lib.hid hn
    have HA := Lib.hid ha
    have HOK := Lib.hid hok
    obtain ⟨T, x, rfl⟩ := Rep.form hr
    obtain ⟨A, c, rfl⟩ : ∃ A c, dv = .slice A ds.length c := by obtain ⟨cs, ho, _⟩ := hd; exact own_form ho
    have HD : Hid (Decls w1 0 (.slice A ds.length c) ds) := hd.keep (Nat.zero_le _) (fun _ _ _ => rfl)
    have HR : Hid (Rep w1 (fun _ => True) t (.iface T (.agg x))) := hr.sub fun _ _ _ => trivial
    have hfine := L.rd_fine (P := 1) (Nat.le_refl _) L.visResolve_good hok (ds.map L.ofDecl) 0
    have hn2 : L.nodes (L.resolve ds t).1 ≤ 1000000 := by have := hfine.2.2; simp only [L.resolve]; omega
    clear hd hr hn ha hok hfl hod f1 hfine
    go_wp2_with fail
    refine (resolve_any _ _ ds t w1 HD.out (by omega) HR.out (by omega)).mono ?_
    rintro _ w2 ⟨⟨v2, rfl, hv2⟩, f2⟩
    obtain ⟨T2, x2, rfl⟩ := Rep.form hv2
    have HV2 := Lib.hid hv2
    have F2 := Lib.hid (F1.out.trans f2)
    have HD2 := Lib.hid (HD.out.keep (Nat.le_refl _) fun b _ hl => f2.2 b hl id)
    clear hv2 f2
    by_cases he : (L.resolve ds t).2 = 0
    · have HY : Hid (L.readText l = L.newPiece ds ty (L.resolve ds t).1) := show _ = _ by rw [HX.out, hpl]; simp only [he]; rfl
      clear hpl HX
      generalize L.resolve ds t = q at *
      obtain ⟨q1, q2⟩ := q
      dsimp only at he HV2 HY hn2
      subst he
      go_wp2_with fail
      refine (newPiece_any _ _ ds ty q1 w2 HD2.out h4 HN.out HA.out HV2.out hn2).mono ?_
      rintro _ w3 ⟨f3, pv, rfl, hpv⟩
      have HPV := Lib.hid hpv
      have F3 := Lib.hid (F2.out.trans f3)
      generalize L.newPiece ds ty q1 = np at *
      obtain ⟨n1, n2⟩ := np
      dsimp only at hpv
      have hpf : ∃ a, pv = .pointer a := by
        cases n2 with
        | none => exact ⟨_, hpv⟩
        | some P => obtain ⟨p, h, _⟩ := hpv; exact ⟨_, h⟩
      obtain ⟨a, rfl⟩ := hpf
      clear hpv f3
      go_wp2_with fail
      go_ret2
      rw [HY.out]
      exact ⟨F3.out, _, rfl, HPV.out⟩
    · have HY : Hid (L.readText l = ((L.resolve ds t).2, none)) := show _ = _ by rw [HX.out, hpl]; simp only [ne_eq, he, not_false_eq_true, if_true]
      clear hpl HX
      generalize (L.resolve ds t).2 = q at *
      go_wp2_with fail
      go_ret2
      rw [HY.out]
      exact ⟨F2.out, _, rfl, rfl⟩
end Go.Proofs.YtpdbkdcdlafobaaGreatDoor
end
section
namespace Go.Proofs.YtpdbkdcdlafobaaGreatDoor
open Go.RowKit
/-- A pointer to a piece, or to none. -/
def Pv (w : World) (v : Value) : Option L.Piece → Prop
  | none => v = .pointer none ∨ ∃ p, v = .pointer (some ⟨p, 0, none⟩) ∧ Blk w p 36 #[.slice none 0 0, .int .i64 0, .nilIface]
  | some P => ∃ p, v = .pointer (some ⟨p, 0, none⟩) ∧ PcAt w p P
theorem Pv.keep {w w' : World} {v : Value} {o : Option L.Piece} (h : Pv w v o) (F : Frm (fun _ => False) w w') : Pv w' v o := by
  cases o with
  | none => exact h.imp id fun ⟨p, e, hb⟩ => ⟨p, e, F.blk hb id⟩
  | some P => obtain ⟨p, e, hb⟩ := h; exact ⟨p, e, hb.keep F⟩
set_option maxHeartbeats 1000000 in
theorem valid_any {w : World} {v : Value} {o : Option L.Piece} (h : Pv w v o) : Calls Tryz.prog 20 #[v] w fun e w' => e = .returned (.bool o.isSome) ∧ w = w' := by
  cases o with
  | none =>
    rcases h with rfl | ⟨p, rfl, hb⟩
    · go_enter Tryz.func20, Tryz.ntmps20
      go_wp2_with fail
      go_ret
      exact ⟨rfl, rfl⟩
    · have c2 := hb.cell 2
      go_enter Tryz.func20, Tryz.ntmps20
      go_wp2_with fail
      go_ret
      exact ⟨rfl, rfl⟩
  | some P =>
    obtain ⟨p, rfl, dv, rv, hb, -, hr⟩ := h
    obtain ⟨T, x, rfl⟩ := Rep.form hr
    have c2 := hb.cell 2
    clear hr
    go_enter Tryz.func20, Tryz.ntmps20
    go_wp2_with fail
    go_ret
    exact ⟨rfl, rfl⟩
def declsOf (o : Option L.Piece) : List L.Decl := (o.map (·.decls)).getD []
def typOf (o : Option L.Piece) : Int := (o.map (·.typ)).getD 0
set_option maxHeartbeats 1000000 in
theorem type_any {w : World} {v : Value} {o : Option L.Piece} (h : Pv w v o) : Calls Tryz.prog 12 #[v] w fun e w' => e = .returned (.int .i64 (typOf o)) ∧ w = w' := by
  have HP := Lib.hid h
  obtain ⟨a, rfl⟩ : ∃ a, v = .pointer a := by
    cases o with
    | none => rcases h with rfl | ⟨p, rfl, _⟩ <;> exact ⟨_, rfl⟩
    | some P => obtain ⟨p, rfl, _⟩ := h; exact ⟨_, rfl⟩
  go_enter Tryz.func12, Tryz.ntmps12
  go_wp2_with fail
  refine (valid_any HP.out).mono ?_
  rintro _ w1 ⟨rfl, rfl⟩
  cases o with
  | none =>
    clear h
    go_wp2_with fail
    go_ret
    exact ⟨rfl, rfl⟩
  | some P =>
    obtain ⟨p, hp, dv, rv, hb, -, hr⟩ := h
    injection hp with hp
    subst hp
    have c1 := hb.cell 1
    clear hr
    go_wp2_with fail
    go_ret
    exact ⟨rfl, rfl⟩
set_option maxHeartbeats 1000000 in
theorem decls_acc {w : World} {v : Value} {o : Option L.Piece} (h : Pv w v o) (h4 : (declsOf o).length ≤ 1000) (ha : ∀ d ∈ declsOf o, d.args.length ≤ 1000) :
    Calls Tryz.prog 11 #[v] w fun e w' => (∃ v', e = .returned v' ∧ Decls w' w.heap.size v' (declsOf o)) ∧ Frm (fun _ => False) w w' := by
  have HP := Lib.hid h
  obtain ⟨a, rfl⟩ : ∃ a, v = .pointer a := by
    cases o with
    | none => rcases h with rfl | ⟨p, rfl, _⟩ <;> exact ⟨_, rfl⟩
    | some P => obtain ⟨p, rfl, _⟩ := h; exact ⟨_, rfl⟩
  have HA := Lib.hid ha
  clear ha
  go_enter Tryz.func11, Tryz.ntmps11
  go_wp2_with fail
  refine (valid_any HP.out).mono ?_
  rintro _ w1 ⟨rfl, rfl⟩
  cases o with
  | none =>
    clear h
    go_wp2_with fail
    go_ret
    exact ⟨⟨_, rfl, [], World.ownsRow_nil _ _ _ _, rfl⟩, Frm.refl _ _⟩
  | some P =>
    obtain ⟨p, hp, dv, rv, hb, hd, hr⟩ := h
    injection hp with hp
    subst hp
    obtain ⟨A, c, rfl⟩ : ∃ A c, dv = .slice A P.decls.length c := by obtain ⟨cs, ho, _⟩ := hd; exact own_form ho
    have c0 := hb.cell 0
    have HD := Lib.hid hd
    have h4' : P.decls.length ≤ 1000 := h4
    clear hr hd hb h4
    go_wp2_with fail
    refine (copyDecls_any _ P.decls w HD.out h4' HA.out).mono ?_
    rintro _ w2 ⟨v2, rfl, hd2, f2⟩
    obtain ⟨A2, c2, rfl⟩ : ∃ A c, v2 = .slice A P.decls.length c := by obtain ⟨cs, ho, _⟩ := hd2; exact own_form ho
    have HD2 := Lib.hid hd2
    clear hd2 c0
    go_wp2_with fail
    go_ret
    exact ⟨⟨_, rfl, HD2.out⟩, f2⟩
end Go.Proofs.YtpdbkdcdlafobaaGreatDoor
end
