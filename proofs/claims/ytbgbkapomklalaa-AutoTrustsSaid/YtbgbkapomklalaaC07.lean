/- awake. What comes in, as it lies in memory: ints, rows of ints, bools, pairs, machines. Contracts of the program's functions, with no condition beyond what each theorem states. -/
import Derived.Test.YtbgbkapomklalaaC06
import Derived.Test.YtbgbkapomklalaaC03
import Derived.Test.YtbgbkapomklalaaC02
import Derived.Deep.Matrix
import Derived.Deep.SlicePairs
import Derived.Lib.SmallJoins
import Derived.WalkKit
import Derived.ProofKit
import Derived.OpenShut
section
namespace Go.Proofs.Ytbgbkapomklalaa
open Go.RowKit
def lessM : A.Mac := ⟨1, 0, [[1], [0]], [true, false]⟩
theorem sized_even : Sized A.evenM := by unfold Sized; decide
theorem sized_less : Sized lessM := by unfold Sized; decide
theorem sized_one : Sized A.oneM := by unfold Sized; decide
theorem less_form {w : World} {P : Nat → Prop} {r : Value} (h : MachAt w P r lessM) : ∃ A1 c1 A2 c2, r = .agg #[.int .i64 1, .int .i64 0, .slice A1 2 c1, .slice A2 2 c2] := h.form
theorem differ_even {w : World} {P Q : Nat → Prop} {v v' : Value} (h : MachAt w P v A.evenM) (h' : MachAt w Q v' A.oneM) : Calls Try.prog 13 #[v, v'] w fun e w' => ∃ u, e = .returned (.tuple #[u, .bool false, .int .i64 0]) ∧ Ints w' (fun b => w.heap.size ≤ b) u [0] ∧ Frm (fun _ => False) w w' := by
  refine (differ_any h h' sized_even sized_one (f := 20) (r := some ([0], (1, 0))) (fun _ => ⟨A.diff_even, fun l q h => ?_⟩) (by decide)).mono ?_
  · injection h with h
    injection h with h1 h2
    subst h2
    unfold A.InP A.In
    decide
  · rintro e w' ⟨F, hd⟩
    rw [if_pos (by decide +kernel)] at hd
    obtain ⟨u, rfl, hu⟩ := hd
    exact ⟨u, rfl, hu, F⟩
theorem two_even : A.Two A.evenM lessM := A.fit_two (by decide +kernel)
def zs3 : List DP := [⟨(0, 0), by unfold BPr; decide⟩, ⟨(1, 1), by unfold BPr; decide⟩, ⟨(2, 0), by unfold BPr; decide⟩]
theorem relate_even {w : World} {P Q : Nat → Prop} {v v' : Value} (h : MachAt w P v A.evenM) (h' : MachAt w Q v' lessM) : Calls Try.prog 16 #[v, v'] w fun e w' => ∃ u, ∃ zs' : List DP, e = .returned (.tuple #[u, .int .i64 0]) ∧ zs'.Perm zs3 ∧ zs'.Pairwise (fun x y => ltOf cfP y x = false) ∧ w'.ownsRow w.heap.size 51 2 u 3 (zs'.flatMap encP) ∧ Frm (fun _ => False) w w' :=
  relate_yes (f := 20) (zs := zs3) (rows := [[1], [2], [1]]) h h' sized_even sized_less (by decide +kernel) two_even A.same_even (by decide) (by decide) A.search_even (by decide) (by decide)
theorem sort3 {zs' : List DP} (hp : zs'.Perm zs3) (hs : zs'.Pairwise (fun x y => ltOf cfP y x = false)) : zs' = zs3 := by
  have hl : zs'.length = 3 := hp.length_eq
  match zs', hl with
  | [a, b, c], _ =>
    have ha : a ∈ zs3 := hp.mem_iff.1 (by simp)
    have hb : b ∈ zs3 := hp.mem_iff.1 (by simp)
    have hc : c ∈ zs3 := hp.mem_iff.1 (by simp)
    simp only [zs3, List.mem_cons, List.not_mem_nil, or_false] at ha hb hc
    rcases ha with rfl | rfl | rfl <;> rcases hb with rfl | rfl | rfl <;> rcases hc with rfl | rfl | rfl <;> first | rfl | (exfalso; revert hs; decide +kernel) | (exfalso; revert hp; decide +kernel)
theorem ints_form1 {w : World} {P : Nat → Prop} {u : Value} (h : Ints w P u [0]) : ∃ A4 c4, u = .slice A4 1 c4 := by
  obtain ⟨A4, c4, e, _⟩ := h
  exact ⟨A4, c4, e⟩
theorem acc_two {w : World} {P : Nat → Prop} {v : Value} {g : Nat} (h : MachAt w P v A.evenM) (hb : Blk w g 3 #[.int .i64 0, .int .i64 0]) : Calls Try.prog 10 #[v, .slice (some ⟨g, 0, none⟩) 2 2] w fun e w' => e = .returned (.bool true) ∧ Frm (fun _ => False) w w' := by
  have := accepts_any (l := [0, 0]) (Q := fun _ => True) (vw := .slice (some ⟨g, 0, none⟩) 2 2) h sized_even ⟨_, _, rfl, fun k hk => by
    match k, hk with
    | 0, _ => exact ⟨_, 0, rfl, trivial, hb.cell 0⟩
    | 1, _ => exact ⟨_, 0, rfl, trivial, hb.cell 1⟩⟩ (by decide)
  rw [show A.accepts A.evenM [0, 0] = true by decide +kernel] at this
  exact this
theorem acc_one {w : World} {P : Nat → Prop} {v : Value} {g : Nat} (h : MachAt w P v A.evenM) (hb : Blk w g 3 #[.int .i64 0]) : Calls Try.prog 10 #[v, .slice (some ⟨g, 0, none⟩) 1 1] w fun e w' => e = .returned (.bool false) ∧ Frm (fun _ => False) w w' := by
  have := accepts_any (l := [0]) (Q := fun _ => True) (vw := .slice (some ⟨g, 0, none⟩) 1 1) h sized_even ⟨_, _, rfl, fun k hk => by
    match k, hk with
    | 0, _ => exact ⟨_, 0, rfl, trivial, hb.cell 0⟩⟩ (by decide)
  rw [show A.accepts A.evenM [0] = false by decide +kernel] at this
  exact this
theorem own_prs {w : World} {base g c n : Nat} {zs : List DP} (h : w.ownsRow base 51 2 (.slice (some ⟨g, 0, none⟩) n c) n (zs.flatMap encP)) (hn : n = zs.length) {k : Nat} (hk : k ≤ n) : Prs2 w (fun _ => True) (.slice (some ⟨g, 0, none⟩) k c) ((zs.map (·.1)).take k) := by
  subst hn
  refine ⟨some ⟨g, 0, none⟩, c, by simp; omega, fun j hj => ?_⟩
  have hj' : j < zs.length := by simp at hj; omega
  have hc := @World.ownsRow.cells _ _ _ _ _ _ _ h g rfl
  have e0 := hc (j * 2) _ (flatP_at zs (j * 2) (by omega))
  have e1 := hc (j * 2 + 1) _ (flatP_at zs (j * 2 + 1) (by omega))
  rw [add_zero_off] at e0 e1
  rw [show j * 2 / 2 = j by omega, show j * 2 % 2 = 0 by omega, getElem!_pos zs j hj'] at e0
  rw [show (j * 2 + 1) / 2 = j by omega, show (j * 2 + 1) % 2 = 1 by omega, getElem!_pos zs j hj'] at e1
  refine ⟨g, 0, rfl, trivial, ?_, ?_⟩
  · rw [Nat.zero_add, e0]; simp [encP, pairC]
  · rw [Nat.zero_add, e1]; simp [encP, pairC]
theorem chk_all {w : World} {P Q : Nat → Prop} {v v' : Value} {base g c : Nat} (h : MachAt w P v A.evenM) (h' : MachAt w Q v' lessM) (ho : w.ownsRow base 51 2 (.slice (some ⟨g, 0, none⟩) 3 c) 3 (zs3.flatMap encP)) : Calls Try.prog 12 #[v, v', .slice (some ⟨g, 0, none⟩) 3 c] w fun e w' => e = .returned (.int .i64 0) ∧ Frm (fun _ => False) w w' := by
  have := check_any h h' (own_prs ho rfl (k := 3) (by decide)) sized_even sized_less (by decide)
  rw [show A.check A.evenM lessM ((zs3.map (·.1)).take 3) = 0 by decide +kernel] at this
  exact this
theorem chk_two {w : World} {P Q : Nat → Prop} {v v' : Value} {base g c : Nat} (h : MachAt w P v A.evenM) (h' : MachAt w Q v' lessM) (ho : w.ownsRow base 51 2 (.slice (some ⟨g, 0, none⟩) 3 c) 3 (zs3.flatMap encP)) : Calls Try.prog 12 #[v, v', .slice (some ⟨g, 0, none⟩) 2 c] w fun e w' => e = .returned (.int .i64 8) ∧ Frm (fun _ => False) w w' := by
  have := check_any h h' (own_prs ho rfl (k := 2) (by decide)) sized_even sized_less (by decide)
  rw [show A.check A.evenM lessM ((zs3.map (·.1)).take 2) = 8 by decide +kernel] at this
  exact this
def mE (v : Value) (w : World) : Prop := MachAt w (fun _ => True) v A.evenM
def sB (n : Nat) (cs : Array Value) (v : Value) (w : World) : Prop := ∃ b, v = .slice (some ⟨b, 0, none⟩) n n ∧ Blk w b 3 cs
def vV (x v : Value) (_ : World) : Prop := v = x
/-- What awake's last statement's operations leave behind. -/
def lastL (A1 A2 : Option Addr) (c1 c2 g c : Nat) : List (Value → World → Prop) :=
  [mE, sB 2 #[.int .i64 0, .int .i64 0], vV (.bool true), vV (.bool true), mE, sB 1 #[.int .i64 0], vV (.bool false), vV (.bool true), vV (.bool true), vV (.bool true),
   mE, vV (.agg #[.int .i64 1, .int .i64 0, .slice A1 2 c1, .slice A2 2 c2]), vV (.slice (some ⟨g, 0, none⟩) 3 c), vV (.int .i64 0), vV (.bool true), vV (.bool true), vV (.bool true),
   mE, vV (.agg #[.int .i64 1, .int .i64 0, .slice A1 2 c1, .slice A2 2 c2]), vV (.slice (some ⟨g, 0, none⟩) 3 c), vV (.slice (some ⟨g, 0, none⟩) 2 c), vV (.int .i64 8), vV (.bool true), vV (.bool true), vV (.bool true)]
theorem lastL_keep {A1 A2 : Option Addr} {c1 c2 g c : Nat} : ∀ f ∈ lastL A1 A2 c1 c2 g c, ∀ (v : Value) (w w' : World), f v w → Frm (fun _ => False) w w' → f v w' := by
  intro f hf v w w' h F
  have hm : ∀ v, mE v w → mE v w' := fun v h => MachAt.keep0 h F
  have hs : ∀ n cs v, sB n cs v w → sB n cs v w' := fun n cs v ⟨b, e, hb⟩ => ⟨b, e, F.blk hb id⟩
  have hv : ∀ x v, vV x v w → vV x v w' := fun x v h => h
  simp only [lastL, List.mem_cons, List.not_mem_nil, or_false] at hf
  rcases hf with rfl | rfl | rfl | rfl | rfl | rfl | rfl | rfl | rfl | rfl | rfl | rfl | rfl | rfl | rfl | rfl | rfl | rfl | rfl | rfl | rfl | rfl | rfl | rfl | rfl <;> first | exact hm v h | exact hs _ _ v h | exact hv _ v h
set_option maxRecDepth 100000 in
set_option maxHeartbeats 16000000 in
theorem awake_any (w : World) : Calls Try.prog 5 #[] w fun e w' => e = .returned (.bool true) ∧ Frm (fun _ => False) w w' := by
  go_enter Try.func5, Try.ntmps5
  go_wp2_with fail
  refine (even_any w).mono ?_
  rintro _ w1 ⟨r1, rfl, m1, f1⟩
  have HF1 := Lib.hid f1
  have HM1 := Lib.hid m1
  clear f1 m1
  go_wp2_with fail
  refine (Least_any HM1.out sized_even (f := 20) (by decide) A.least_even).mono ?_
  rintro _ w2 ⟨r2, rfl, m2, f2⟩
  obtain ⟨A1, c1, A2, c2, rfl⟩ := less_form m2
  have HF2 := Lib.hid (HF1.out.trans f2)
  have HM2 := Lib.hid m2
  clear f2 m2
  go_wp2_with fail
  obtain ⟨W, hW⟩ : ∃ W, W = ((((w2.alloc (.cells #[.int .i64 1, .int .i64 0, .slice A1 2 c1, .slice A2 2 c2] 25)).alloc (.cells #[.int .i64 0] 3)).alloc (.cells #[.slice (some ⟨w2.heap.size + 1, 0, none⟩) 1 1] 26)).alloc (.cells #[.bool true] 4)).alloc (.cells #[.int .i64 1, .int .i64 0, .slice (some ⟨w2.heap.size + 1 + 1, 0, none⟩) 1 1, .slice (some ⟨w2.heap.size + 1 + 1 + 1, 0, none⟩) 1 1] 25) := ⟨_, rfl⟩
  have b0 : Blk W w2.heap.size 25 #[.int .i64 1, .int .i64 0, .slice A1 2 c1, .slice A2 2 c2] := by rw [hW]; exact ((((Blk.new w2 _ _).alloc _).alloc _).alloc _).alloc _
  have b1 : Blk W (w2.heap.size + 1) 3 #[.int .i64 0] := by rw [hW]; exact (((blk_at (by simp)).alloc _).alloc _).alloc _
  have b2 : Blk W (w2.heap.size + 1 + 1) 26 #[.slice (some ⟨w2.heap.size + 1, 0, none⟩) 1 1] := by rw [hW]; exact ((blk_at (by simp)).alloc _).alloc _
  have b3 : Blk W (w2.heap.size + 1 + 1 + 1) 4 #[.bool true] := by rw [hW]; exact (blk_at (by simp)).alloc _
  have b4 : Blk W (w2.heap.size + 1 + 1 + 1 + 1) 25 #[.int .i64 1, .int .i64 0, .slice (some ⟨w2.heap.size + 1 + 1, 0, none⟩) 1 1, .slice (some ⟨w2.heap.size + 1 + 1 + 1, 0, none⟩) 1 1] := by rw [hW]; exact blk_at (by simp)
  have F : Frm (fun _ => False) w2 W := by rw [hW]; exact (((((Frm.refl _ w2).alloc _).alloc _).alloc _).alloc _).alloc _
  have HMO : Hid (MachAt W (fun _ => True) (.agg #[.int .i64 1, .int .i64 0, .slice (some ⟨w2.heap.size + 1 + 1, 0, none⟩) 1 1, .slice (some ⟨w2.heap.size + 1 + 1 + 1, 0, none⟩) 1 1]) A.oneM) := by
    refine ⟨_, _, rfl, ⟨_, _, rfl, fun k hk => ?_⟩, ⟨_, _, rfl, fun k hk => ?_⟩⟩
    · match k, hk with
      | 0, _ => exact ⟨_, 0, _, rfl, trivial, b2.cell 0, _, _, rfl, fun j hj => by match j, hj with | 0, _ => exact ⟨_, 0, rfl, trivial, b1.cell 0⟩⟩
    · match k, hk with
      | 0, _ => exact ⟨_, 0, rfl, trivial, b3.cell 0⟩
  have HML : Hid (MachAt W (fun _ => True) (.agg #[.int .i64 1, .int .i64 0, .slice A1 2 c1, .slice A2 2 c2]) lessM) := (MachAt.keep0 (m := lessM) HM2.out F).mono fun _ _ => trivial
  have HFW := Lib.hid (HF2.out.trans F)
  have HB0 := Lib.hid b0
  have x0 : W.cell? ⟨w2.heap.size + 1 + 1 + 1 + 1, 0, none⟩ = some (.int .i64 1) := b4.cell 0
  have x1 : W.cell? ⟨w2.heap.size + 1 + 1 + 1 + 1, 1, none⟩ = some (.int .i64 0) := b4.cell 1
  have x2 : W.cell? ⟨w2.heap.size + 1 + 1 + 1 + 1, 2, none⟩ = some (.slice (some ⟨w2.heap.size + 1 + 1, 0, none⟩) 1 1) := b4.cell 2
  have x3 : W.cell? ⟨w2.heap.size + 1 + 1 + 1 + 1, 3, none⟩ = some (.slice (some ⟨w2.heap.size + 1 + 1 + 1, 0, none⟩) 1 1) := b4.cell 3
  have HKK : Hid (∀ V, Frm (fun _ => False) W V → _) := fun V hV => (⟨hV.cell id x0, hV.cell id x1, hV.cell id x2, hV.cell id x3, hV⟩ : V.cell? ⟨w2.heap.size + 1 + 1 + 1 + 1, 0, none⟩ = some (.int .i64 1) ∧ V.cell? ⟨w2.heap.size + 1 + 1 + 1 + 1, 1, none⟩ = some (.int .i64 0) ∧ V.cell? ⟨w2.heap.size + 1 + 1 + 1 + 1, 2, none⟩ = some (.slice (some ⟨w2.heap.size + 1 + 1, 0, none⟩) 1 1) ∧ V.cell? ⟨w2.heap.size + 1 + 1 + 1 + 1, 3, none⟩ = some (.slice (some ⟨w2.heap.size + 1 + 1 + 1, 0, none⟩) 1 1) ∧ Frm (fun _ => False) W V)
  rw [← hW]
  clear hW b0 b1 b2 b3 b4 F HM1 HF1 HM2 HF2
  go_region_held3 (fun w' => w'.cell? ⟨w2.heap.size + 1 + 1 + 1 + 1, 0, none⟩ = some (.int .i64 1) ∧ w'.cell? ⟨w2.heap.size + 1 + 1 + 1 + 1, 1, none⟩ = some (.int .i64 0) ∧ w'.cell? ⟨w2.heap.size + 1 + 1 + 1 + 1, 2, none⟩ = some (.slice (some ⟨w2.heap.size + 1 + 1, 0, none⟩) 1 1) ∧ w'.cell? ⟨w2.heap.size + 1 + 1 + 1 + 1, 3, none⟩ = some (.slice (some ⟨w2.heap.size + 1 + 1 + 1, 0, none⟩) 1 1) ∧ Frm (fun _ => False) W w')
    (first | exact HKK.out _ (Frm.refl _ _) | exact HKK.out _ (Frm.refl _ _).drew | exact HKK.out _ (Frm.trans (E := fun _ => False) (w := W) f5 f6) | exact HKK.out _ f5)
    (first | (go_at_call 15; refine (even_any _).mono ?_; rintro e w5 ⟨r3, rfl, m3, f5⟩) | (go_at_call 13; refine (differ_even m3 (HMO.out.keep0 (w := W) f5)).mono ?_; rintro e w6 ⟨u4, rfl, hu4, f6⟩))
  have F6 := Frm.trans (E := fun _ => False) (w := W) f5 f6
  obtain ⟨A4, c4, rfl⟩ := ints_form1 hu4
  have HF6 := Lib.hid (HFW.out.trans F6)
  have HB6 := Lib.hid (F6.blk HB0.out id)
  have HML6 := Lib.hid (HML.out.keep0 F6)
  clear F6 f5 f6 m3 hu4 HKK x0 x1 x2 x3 HMO HML HFW HB0
  clear ‹_ ∧ _ ∧ _ ∧ _ ∧ Frm (fun _ => False) W _›
  go_wp2_with fail
  have y0 : w6.cell? ⟨w2.heap.size, 0, none⟩ = some (.int .i64 1) := HB6.out.cell 0
  have y1 : w6.cell? ⟨w2.heap.size, 1, none⟩ = some (.int .i64 0) := HB6.out.cell 1
  have y2 : w6.cell? ⟨w2.heap.size, 2, none⟩ = some (.slice A1 2 c1) := HB6.out.cell 2
  have y3 : w6.cell? ⟨w2.heap.size, 3, none⟩ = some (.slice A2 2 c2) := HB6.out.cell 3
  have HKK : Hid (∀ V, Frm (fun _ => False) w6 V → _) := fun V hV => (⟨hV.cell id y0, hV.cell id y1, hV.cell id y2, hV.cell id y3, hV⟩ : V.cell? ⟨w2.heap.size, 0, none⟩ = some (.int .i64 1) ∧ V.cell? ⟨w2.heap.size, 1, none⟩ = some (.int .i64 0) ∧ V.cell? ⟨w2.heap.size, 2, none⟩ = some (.slice A1 2 c1) ∧ V.cell? ⟨w2.heap.size, 3, none⟩ = some (.slice A2 2 c2) ∧ Frm (fun _ => False) w6 V)
  go_region_held3 (fun w' => w'.cell? ⟨w2.heap.size, 0, none⟩ = some (.int .i64 1) ∧ w'.cell? ⟨w2.heap.size, 1, none⟩ = some (.int .i64 0) ∧ w'.cell? ⟨w2.heap.size, 2, none⟩ = some (.slice A1 2 c1) ∧ w'.cell? ⟨w2.heap.size, 3, none⟩ = some (.slice A2 2 c2) ∧ Frm (fun _ => False) w6 w')
    (first | exact HKK.out _ (Frm.refl _ _) | exact HKK.out _ (Frm.refl _ _).drew | exact HKK.out _ (Frm.trans (E := fun _ => False) (w := w6) f7 f8) | exact HKK.out _ f7)
    (first | (go_at_call 15; refine (even_any _).mono ?_; rintro e w7 ⟨r5, rfl, m5, f7⟩) | (go_at_call 16; refine (relate_even m5 (HML6.out.keep0 (w := w6) f7)).mono ?_; rintro e w8 ⟨u7, zs', rfl, hp, hs, ho, f8⟩))
  have F8 := Frm.trans (E := fun _ => False) (w := w6) f7 f8
  have HF8 := Lib.hid (HF6.out.trans F8)
  have HB8 := Lib.hid (F8.blk HB6.out id)
  have HML8 := Lib.hid (HML6.out.keep0 F8)
  obtain ⟨g7, c7, rfl, hg7⟩ := own_some ho (by decide)
  have HO8 := Lib.hid ho
  have HP := Lib.hid hp
  have HS := Lib.hid hs
  clear F8 f7 f8 m5 ho hp hs HKK y0 y1 y2 y3 HF6 HB6 HML6 hg7
  clear ‹_ ∧ _ ∧ _ ∧ _ ∧ Frm (fun _ => False) w6 _›
  go_wp2_with fail
  refine (even_any _).mono ?_
  rintro _ w9 ⟨r9, rfl, m9, f9⟩
  have HF9 := Lib.hid (HF8.out.trans f9)
  have HB9 := Lib.hid (f9.blk HB8.out id)
  have HML9 := Lib.hid (HML8.out.keep0 f9)
  have HO9 := Lib.hid (f9.row HO8.out (fun _ _ => id) (Nat.le_refl _))
  have HM9 := Lib.hid m9
  clear f9 m9 HF8 HB8 HML8 HO8
  go_wp2_with fail
  refine (count_any (n := 4) HM9.out sized_even).mono ?_
  rintro _ w10 ⟨rfl, f10⟩
  have HF10 := Lib.hid (HF9.out.trans f10)
  have HB10 := Lib.hid (f10.blk HB9.out id)
  have HML10 := Lib.hid (HML9.out.keep0 f10)
  have HO10 := Lib.hid (f10.row HO9.out (fun _ _ => id) (Nat.le_refl _))
  rw [show (A.count A.evenM 4).1 = 1 by decide +kernel, show (A.count A.evenM 4).2 = 0 by decide +kernel]
  clear f10 HF9 HB9 HML9 HO9 HM9
  have y2 : w10.cell? ⟨w2.heap.size, 2, none⟩ = some (.slice A1 2 c1) := HB10.out.cell 2
  go_wp2_with fail
  have hz : zs' = zs3 := sort3 HP.out HS.out
  subst hz
  have h7 : 3 ≤ c7 := by
    rcases HO10.out.2 with ⟨hv, _⟩ | ⟨_, _, _, hv, _, _, h3, _⟩
    · cases hv
    · injection hv with _ _ hv; omega
  clear HP HS y2
  refine wp_region_list [75, 76, 77, 78, 79, 80, 81, 82, 83, 84, 85, 86, 87, 88, 89, 90, 91, 92, 93, 94, 95, 96, 97, 98, 0] (lastL A1 A2 c1 c2 g7 c7) (Frm (fun _ => False)) [(3, true), (9, true), (16, true)] [(1, .pointer (some ⟨w2.heap.size, 0, none⟩)), (7, .slice (some ⟨g7, 0, none⟩) 3 c7)] (by kernel_rfl) (by kernel_rfl) (fun _ _ _ => Frm.trans) lastL_keep ?_ (Frm.refl _ _).drew ?_ ?_ ?_
  · intro g hg v w hv
    simp only [List.mem_cons, List.not_mem_nil, or_false] at hg
    rcases hg with rfl | rfl | rfl <;> exact hv
  · intro x hx
    simp only [List.mem_cons, List.not_mem_nil, or_false] at hx
    rcases hx with rfl | rfl <;> exact ⟨by simp, rfl⟩
  · have HW : Hid (w10 = w10) := rfl
    refine ⟨?_, ?_, ?_, ?_, ?_, ?_, ?_, ?_, ?_, ?_, ?_, ?_, ?_, ?_, ?_, ?_, ?_, ?_, ?_, ?_, ?_, ?_, ?_, ?_, ?_, trivial⟩
    · intro Q tm df V hR hu hd
      clear hu hd
      go_simp
      refine (even_any _).mono ?_
      rintro e w' ⟨r, rfl, m, f⟩
      exact ⟨r, rfl, MachAt.mono m (fun _ _ => trivial), f⟩
    · intro Q tm df V hR hu hd
      clear hu hd
      go_simp
      exact ⟨_, rfl, ⟨V.heap.size, rfl, Blk.new _ _ _⟩, (Frm.refl _ V).alloc _⟩
    · intro Q tm df V hR hu hd
      have d0 : mE (tm[75]?.getD undef) V := hd 0 (by simp)
      obtain ⟨b, e1, hb⟩ : sB 2 #[.int .i64 0, .int .i64 0] (tm[76]?.getD undef) V := hd 1 (by simp)
      clear hu hd
      go_simp
      refine (acc_two d0 hb).mono ?_
      rintro e w' ⟨rfl, f⟩
      exact ⟨_, rfl, rfl, f⟩
    · intro Q tm df V hR hu hd
      have e0 : tm[77]?.getD undef = .bool true := hd 2 (by simp)
      clear hu hd
      go_simp
      exact ⟨_, rfl, rfl, Frm.refl _ V⟩
    · intro Q tm df V hR hu hd
      clear hu hd
      go_simp
      refine (even_any _).mono ?_
      rintro e w' ⟨r, rfl, m, f⟩
      exact ⟨r, rfl, MachAt.mono m (fun _ _ => trivial), f⟩
    · intro Q tm df V hR hu hd
      clear hu hd
      go_simp
      exact ⟨_, rfl, ⟨V.heap.size, rfl, Blk.new _ _ _⟩, (Frm.refl _ V).alloc _⟩
    · intro Q tm df V hR hu hd
      have d0 : mE (tm[79]?.getD undef) V := hd 4 (by simp)
      obtain ⟨b, e1, hb⟩ : sB 1 #[.int .i64 0] (tm[80]?.getD undef) V := hd 5 (by simp)
      clear hu hd
      go_simp
      refine (acc_one d0 hb).mono ?_
      rintro e w' ⟨rfl, f⟩
      exact ⟨_, rfl, rfl, f⟩
    · intro Q tm df V hR hu hd
      have e0 : tm[81]?.getD undef = .bool false := hd 6 (by simp)
      clear hu hd
      go_simp
      exact ⟨_, rfl, rfl, Frm.refl _ V⟩
    · intro Q tm df V hR hu hd
      have e0 : tm[78]?.getD undef = .bool true := hd 3 (by simp)
      have e1 : tm[82]?.getD undef = .bool true := hd 7 (by simp)
      clear hu hd
      go_simp
      exact ⟨_, rfl, rfl, Frm.refl _ V⟩
    · intro Q tm df V hR hu hd
      have e0 : tm[83]?.getD undef = .bool true := hd 8 (by simp)
      clear hu hd
      go_simp
      exact ⟨_, rfl, rfl, Frm.refl _ V⟩
    · intro Q tm df V hR hu hd
      clear hu hd
      go_simp
      refine (even_any _).mono ?_
      rintro e w' ⟨r, rfl, m, f⟩
      exact ⟨r, rfl, MachAt.mono m (fun _ _ => trivial), f⟩
    · intro Q tm df V hR hu hd
      have u1 : tm[1]?.getD undef = .pointer (some ⟨w2.heap.size, 0, none⟩) := hu (1, _) (by simp)
      have hb := hR.blk HB10.out id
      have y0 := hb.cell 0
      have y1 := hb.cell 1
      have y2 := hb.cell 2
      have y3 := hb.cell 3
      clear hu hd hb
      go_simp
      exact ⟨_, rfl, rfl, Frm.refl _ V⟩
    · intro Q tm df V hR hu hd
      have u1 : tm[7]?.getD undef = .slice (some ⟨g7, 0, none⟩) 3 c7 := hu (7, _) (by simp)
      clear hu hd
      go_simp
      exact ⟨_, rfl, rfl, Frm.refl _ V⟩
    · intro Q tm df V hR hu hd
      have d0 : mE (tm[85]?.getD undef) V := hd 10 (by simp)
      have e1 : tm[86]?.getD undef = .agg #[.int .i64 1, .int .i64 0, .slice A1 2 c1, .slice A2 2 c2] := hd 11 (by simp)
      have e2 : tm[87]?.getD undef = .slice (some ⟨g7, 0, none⟩) 3 c7 := hd 12 (by simp)
      clear hu hd
      go_simp
      refine (chk_all d0 (HML10.out.keep0 hR) (hR.row HO10.out (fun _ _ => id) (Nat.le_refl _))).mono ?_
      rintro e w' ⟨rfl, f⟩
      exact ⟨_, rfl, rfl, f⟩
    · intro Q tm df V hR hu hd
      have e0 : tm[88]?.getD undef = .int .i64 0 := hd 13 (by simp)
      clear hu hd
      go_simp
      exact ⟨_, rfl, rfl, Frm.refl _ V⟩
    · intro Q tm df V hR hu hd
      have e0 : tm[84]?.getD undef = .bool true := hd 9 (by simp)
      have e1 : tm[89]?.getD undef = .bool true := hd 14 (by simp)
      clear hu hd
      go_simp
      exact ⟨_, rfl, rfl, Frm.refl _ V⟩
    · intro Q tm df V hR hu hd
      have e0 : tm[90]?.getD undef = .bool true := hd 15 (by simp)
      clear hu hd
      go_simp
      exact ⟨_, rfl, rfl, Frm.refl _ V⟩
    · intro Q tm df V hR hu hd
      clear hu hd
      go_simp
      refine (even_any _).mono ?_
      rintro e w' ⟨r, rfl, m, f⟩
      exact ⟨r, rfl, MachAt.mono m (fun _ _ => trivial), f⟩
    · intro Q tm df V hR hu hd
      have u1 : tm[1]?.getD undef = .pointer (some ⟨w2.heap.size, 0, none⟩) := hu (1, _) (by simp)
      have hb := hR.blk HB10.out id
      have y0 := hb.cell 0
      have y1 := hb.cell 1
      have y2 := hb.cell 2
      have y3 := hb.cell 3
      clear hu hd hb
      go_simp
      exact ⟨_, rfl, rfl, Frm.refl _ V⟩
    · intro Q tm df V hR hu hd
      have u1 : tm[7]?.getD undef = .slice (some ⟨g7, 0, none⟩) 3 c7 := hu (7, _) (by simp)
      clear hu hd
      go_simp
      exact ⟨_, rfl, rfl, Frm.refl _ V⟩
    · intro Q tm df V hR hu hd
      have e1 : tm[94]?.getD undef = .slice (some ⟨g7, 0, none⟩) 3 c7 := hd 19 (by simp)
      have h2 : (2 : Int) ≤ (c7 : Int) := by omega
      clear hu hd
      go_simp
      exact ⟨_, rfl, rfl, Frm.refl _ V⟩
    · intro Q tm df V hR hu hd
      have d0 : mE (tm[92]?.getD undef) V := hd 17 (by simp)
      have e1 : tm[93]?.getD undef = .agg #[.int .i64 1, .int .i64 0, .slice A1 2 c1, .slice A2 2 c2] := hd 18 (by simp)
      have e2 : tm[95]?.getD undef = .slice (some ⟨g7, 0, none⟩) 2 c7 := hd 20 (by simp)
      clear hu hd
      go_simp
      refine (chk_two d0 (HML10.out.keep0 hR) (hR.row HO10.out (fun _ _ => id) (Nat.le_refl _))).mono ?_
      rintro e w' ⟨rfl, f⟩
      exact ⟨_, rfl, rfl, f⟩
    · intro Q tm df V hR hu hd
      have e0 : tm[96]?.getD undef = .int .i64 8 := hd 21 (by simp)
      clear hu hd
      go_simp
      exact ⟨_, rfl, rfl, Frm.refl _ V⟩
    · intro Q tm df V hR hu hd
      have e0 : tm[91]?.getD undef = .bool true := hd 16 (by simp)
      have e1 : tm[97]?.getD undef = .bool true := hd 22 (by simp)
      clear hu hd
      go_simp
      exact ⟨_, rfl, rfl, Frm.refl _ V⟩
    · intro Q tm df V hR hu hd
      have e0 : tm[98]?.getD undef = .bool true := hd 23 (by simp)
      clear hu hd
      go_simp
      exact ⟨_, rfl, rfl, Frm.refl _ V⟩
  · intro vs V hR hf
    have e24 : vs 24 = .bool true := hf 24 (by decide)
    clear hf
    clear HB10 HML10 HO10
    simp only [putAll, List.size_toArray, List.length_cons, List.length_nil, Nat.zero_add, Nat.reduceAdd, show List.range 25 = [0, 1, 2, 3, 4, 5, 6, 7, 8, 9, 10, 11, 12, 13, 14, 15, 16, 17, 18, 19, 20, 21, 22, 23, 24] from rfl, List.foldl_cons, List.foldl_nil, List.getD_cons_zero, List.getD_cons_succ, List.setIfInBounds_toArray, List.set_cons_zero, List.set_cons_succ, e24]
    go_wp2_with fail
    go_ret
    exact ⟨rfl, HF10.out.trans hR⟩
end Go.Proofs.Ytbgbkapomklalaa
end
section
namespace Go.Proofs.Ytbgbkapomklalaa
open Go.ChangeShapes Go.WideShapes Go.ChangeAt Go.RowKit Go.Deep Go.Joins
theorem cellsR_ints : Try.prog.cellsOf 26 = 1 := by kernel_rfl
theorem cellsR_int : Try.prog.cellsOf 3 = 1 := by kernel_rfl
theorem cellsR_bool : Try.prog.cellsOf 4 = 1 := by kernel_rfl
theorem cellsR_pair : Try.prog.cellsOf 51 = 2 := by kernel_rfl
theorem cellsR_mach : Try.prog.cellsOf 25 = 4 := by kernel_rfl
theorem addr_any {g o : Nat} (k : Nat) : (⟨g, o, none⟩ : Addr).add k = ⟨g, o + k, none⟩ := by
  unfold Addr.add
  split
  · subst_vars; simp
  · rfl
theorem at_spot {w : World} {a : Addr} {v : Value} (h : w.cell? (a.add 0) = some v) : ∃ g o, a = ⟨g, o, none⟩ := by
  have : (a.add 0) = a := by simp [Addr.add]
  rw [this] at h
  exact ⟨a.block, a.off, by have := World.cell?_spot h; cases a; simp_all⟩
section
variable {H : Type} {enc : TypeId × Value → H} {W : World} {held : Bool} {n : Nat} {v : Value} {y : DataW H × List MemPlace}
theorem ints_of {base : Nat} (h : DataW.trod enc Try.prog W base (fun _ => true) held n 26 [v] = some y) : ∃ l, Ints W (fun _ => True) v l ∧ l.length ≤ maxLen := by
  rcases open_ints Try.underlying26 Try.underlying3 cellsR_int h with ⟨hc, _⟩ | ⟨a, len, cap, zs, hc, _, hl, hm, hz, _, hcell, _⟩
  · injection hc with hc
    subst hc
    exact ⟨[], ⟨none, 0, rfl, fun k hk => absurd hk (by simp)⟩, by simp⟩
  · injection hc with hc
    subst hc
    simp only [if_true] at hz
    have hlen : (zs.take len).length = len := by rw [List.length_take]; omega
    refine ⟨zs.take len, ⟨some a, cap, by rw [hlen], fun k hk => ?_⟩, by omega⟩
    rw [hlen] at hk
    obtain ⟨g, o, rfl⟩ := at_spot (hcell 0 (by omega))
    refine ⟨g, o, rfl, trivial, ?_⟩
    have := hcell k (by omega)
    rw [addr_any] at this
    rw [this]
    simp [show k < zs.length by omega]
theorem bools_of {base : Nat} (h : DataW.trod enc Try.prog W base (fun _ => true) held n 23 [v] = some y) : ∃ l, Bools W (fun _ => True) v l ∧ l.length ≤ maxLen := by
  rcases open_slice1 Try.underlying23 cellsR_bool h with ⟨hc, _⟩ | ⟨a, len, cap, m, q, V, D, Pl, hc, _, hl, hm, hmm, _, hx⟩
  · injection hc with hc
    subst hc
    exact ⟨[], ⟨none, 0, rfl, fun k hk => absurd hk (by simp)⟩, by simp⟩
  · injection hc with hc
    subst hc
    simp only [if_true] at hmm
    have each : ∀ i, ∃ b : Bool, i < m → V i = .bool b := fun i => by
      by_cases hi : i < m
      · obtain ⟨b, hb, _⟩ := DataW.trod_bool Try.underlying4 (hx i hi).2
        exact ⟨b, fun _ => by injection hb⟩
      · exact ⟨false, fun h => absurd h hi⟩
    obtain ⟨B, hB⟩ := Classical.axiomOfChoice each
    refine ⟨(List.range len).map B, ⟨some a, cap, by simp, fun k hk => ?_⟩, by simp; omega⟩
    have hk' : k < len := by simpa using hk
    obtain ⟨g, o, rfl⟩ := at_spot (hx 0 (by omega)).1
    refine ⟨g, o, rfl, trivial, ?_⟩
    have := (hx k (by omega)).1
    rw [addr_any] at this
    rw [this, hB k (by omega)]
    simp
theorem rows_of {base : Nat} (h : DataW.trod enc Try.prog W base (fun _ => true) held n 22 [v] = some y) : ∃ l, Rows2 W (fun _ => True) v l ∧ l.length ≤ maxLen ∧ ∀ r ∈ l, r.length ≤ maxLen := by
  rcases open_int_rows Try.underlying22 Try.underlying26 Try.underlying3 cellsR_ints cellsR_int h with ⟨hc, _⟩ | ⟨a, len, cap, A, L, C, Z, hc, _, hl, hm, _, hx⟩
  · injection hc with hc
    subst hc
    exact ⟨[], ⟨none, 0, rfl, fun k hk => absurd hk (by simp)⟩, by simp, fun _ h => by cases h⟩
  · injection hc with hc
    subst hc
    have hlr : ∀ r, r < cap → ((Z r).take (L r)).length = L r := fun r hr => by
      obtain ⟨_, h1, _, h2, _⟩ := hx r hr
      rw [List.length_take]
      omega
    refine ⟨(List.range len).map fun r => (Z r).take (L r), ⟨some a, cap, by simp, fun k hk => ?_⟩, by simp; omega, fun r hr => ?_⟩
    · have hk' : k < len := by simpa using hk
      obtain ⟨g, o, rfl⟩ := at_spot (hx 0 (by omega)).1
      obtain ⟨h0, h1, h2, h3, _, h5, h6⟩ := hx k (by omega)
      rw [addr_any] at h0
      refine ⟨g, o, _, rfl, trivial, h0, A k, C k, ?_, fun c hc => ?_⟩
      · simp only [List.getElem_map, List.getElem_range]
        rw [hlr k (by omega)]
      · simp only [List.getElem_map, List.getElem_range] at hc
        rw [hlr k (by omega)] at hc
        rcases hA : A k with _ | a'
        · have := h5 hA; omega
        · obtain ⟨_, h7⟩ := h6 a' hA
          obtain ⟨g', o', rfl⟩ := at_spot (h7 0 (by omega))
          have := h7 c (by omega)
          rw [addr_any] at this
          refine ⟨g', o', rfl, trivial, ?_⟩
          rw [this]
          simp [show c < (Z k).length by omega]
    · obtain ⟨i, hi, rfl⟩ := List.mem_map.1 hr
      have hi' := List.mem_range.1 hi
      rw [hlr i (by omega)]
      obtain ⟨_, h1, h2, _⟩ := hx i (by omega)
      omega
theorem pairs_of {base : Nat} (h : DataW.trod enc Try.prog W base (fun _ => true) held n 32 [v] = some y) : ∃ l, Prs2 W (fun _ => True) v l ∧ l.length ≤ maxLen := by
  rcases open_slice_pairs Try.underlying32 Try.underlying51 cellsR_pair rfl rfl cellsR_int cellsR_int h with ⟨hc, _⟩ | ⟨a, len, cap, m, q, V0, V1, D0, D1, P0, P1, hc, _, hl, hm, hmm, _, hx⟩
  · injection hc with hc
    subst hc
    exact ⟨[], ⟨none, 0, rfl, fun k hk => absurd hk (by simp)⟩, by simp⟩
  · injection hc with hc
    subst hc
    simp only [if_true] at hmm
    have each : ∀ i, ∃ p : A.Pr, i < m → V0 i = .int .i64 p.1 ∧ V1 i = .int .i64 p.2 := fun i => by
      by_cases hi : i < m
      · obtain ⟨x, hx0, _⟩ := DataW.trod_int Try.underlying3 (hx i hi).2.2.1
        obtain ⟨x', hx1, _⟩ := DataW.trod_int Try.underlying3 (hx i hi).2.2.2
        exact ⟨(x, x'), fun _ => ⟨by injection hx0, by injection hx1⟩⟩
      · exact ⟨(0, 0), fun h => absurd h hi⟩
    obtain ⟨B, hB⟩ := Classical.axiomOfChoice each
    refine ⟨(List.range len).map B, ⟨some a, cap, by simp, fun k hk => ?_⟩, by simp; omega⟩
    have hk' : k < len := by simpa using hk
    obtain ⟨g, o, rfl⟩ := at_spot (by have := (hx 0 (by omega)).1; rwa [Nat.zero_mul] at this)
    obtain ⟨h0, h1, _⟩ := hx k (by omega)
    rw [addr_any] at h0 h1
    refine ⟨g, o, rfl, trivial, ?_, ?_⟩
    · rw [h0, (hB k (by omega)).1]; simp
    · rw [Nat.add_assoc, h1, (hB k (by omega)).2]; simp
set_option maxRecDepth 100000 in
theorem mach_of {base b0 : Nat} {r : Reach} {d : DataW H} {p : List MemPlace} (hv : Value.okWide Try.prog W r b0 25 v) (h : DataW.Trod enc Try.prog W base (fun _ => true) held 25 v d p) : ∃ m, MachAt W (fun _ => True) v m ∧ Sized m ∧ (Lit.int .i64 m.letters).wf = true ∧ (Lit.int .i64 m.start).wf = true := by
  obtain ⟨v0, v1, v2, v3, y0, y1, y2, y3, q, rfl, _, _, h0, h1, h2, h3⟩ := open_agg4 Try.underlying25 (by kernel_rfl) cellsR_mach hv h
  obtain ⟨x0, e0, _, wx0⟩ := DataW.trod_int Try.underlying3 h0
  obtain ⟨x1, e1, _, wx1⟩ := DataW.trod_int Try.underlying3 h1
  obtain ⟨l2, m2, s2, t2⟩ := rows_of h2
  obtain ⟨l3, m3, s3⟩ := bools_of h3
  injection e0 with e0
  injection e1 with e1
  subst e0 e1
  exact ⟨⟨x0, x1, l2, l3⟩, ⟨v2, v3, rfl, m2, m3⟩, ⟨s2, s3, t2⟩, wx0, wx1⟩
end
end Go.Proofs.Ytbgbkapomklalaa
end
