/- awake. Relate, all its cases; Differ, at every two machines. small. What comes in, as it lies in memory: ints, rows of ints, bools, pairs, machines. sameWord. sameWord at equal words. AutoShown: the law's walk. AutoShown returns true whatever machines and words come in, and leaves them as they are. No condition. Contracts of the program's functions, with no condition beyond what each theorem states. -/
import Derived.Test.YtmfjadhnbaikkaaC07
import Derived.Test.YtmfjadhnbaikkaaC03
import Derived.Test.YtmfjadhnbaikkaaC02
import Derived.Deep.Matrix
import Derived.Deep.SlicePairs
import Derived.Lib.SmallJoins
import Derived.WalkKit
import Derived.ProofKit
import Derived.OpenShut
import Derived.Test.YtmfjadhnbaikkaaRows
import Derived.WideKeyArgs
section
namespace Go.Proofs.Ytmfjadhnbaikkaa
open Go.RowKit
def lessM : A.Mac := ⟨1, 0, [[1], [0]], [true, false]⟩
theorem sized_even : Sized A.evenM := by unfold Sized; decide
theorem sized_less : Sized lessM := by unfold Sized; decide
theorem sized_one : Sized A.oneM := by unfold Sized; decide
theorem less_form {w : World} {P : Nat → Prop} {r : Value} (h : MachAt w P r lessM) : ∃ A1 c1 A2 c2, r = .agg #[.int .i64 1, .int .i64 0, .slice A1 2 c1, .slice A2 2 c2] := h.form
theorem differ_even {w : World} {P Q : Nat → Prop} {v v' : Value} (h : MachAt w P v A.evenM) (h' : MachAt w Q v' A.oneM) : Calls Try.prog 6 #[v, v'] w fun e w' => ∃ u, e = .returned (.tuple #[u, .bool false, .int .i64 0]) ∧ Ints w' (fun b => w.heap.size ≤ b) u [0] ∧ Frm (fun _ => False) w w' := by
  refine (differ_any h h' sized_even sized_one (f := 20) (r := some ([0], (1, 0))) (fun _ => ⟨A.diff_even, fun l q h => ?_⟩) (by decide)).mono ?_
  · injection h with h
    injection h with h1 h2
    subst h2
    unfold A.InP A.In
    decide
  · rintro e w' ⟨F, hd⟩
    rw [if_pos (by decide +kernel)] at hd
    obtain ⟨u, rfl, hu⟩ := hd
    exact ⟨u, rfl, hu, F⟩
theorem two_even : A.Two A.evenM lessM := A.fit_two (by decide +kernel)
def zs3 : List DP := [⟨(0, 0), by unfold BPr; decide⟩, ⟨(1, 1), by unfold BPr; decide⟩, ⟨(2, 0), by unfold BPr; decide⟩]
theorem relate_even {w : World} {P Q : Nat → Prop} {v v' : Value} (h : MachAt w P v A.evenM) (h' : MachAt w Q v' lessM) : Calls Try.prog 7 #[v, v'] w fun e w' => ∃ u, ∃ zs' : List DP, e = .returned (.tuple #[u, .int .i64 0]) ∧ zs'.Perm zs3 ∧ zs'.Pairwise (fun x y => ltOf cfP y x = false) ∧ w'.ownsRow w.heap.size 47 2 u 3 (zs'.flatMap encP) ∧ Frm (fun _ => False) w w' :=
  relate_yes (f := 20) (zs := zs3) (rows := [[1], [2], [1]]) h h' sized_even sized_less (by decide +kernel) two_even A.same_even (by decide) (by decide) A.search_even (by decide) (by decide)
theorem sort3 {zs' : List DP} (hp : zs'.Perm zs3) (hs : zs'.Pairwise (fun x y => ltOf cfP y x = false)) : zs' = zs3 := by
  have hl : zs'.length = 3 := hp.length_eq
  match zs', hl with
  | [a, b, c], _ =>
    have ha : a ∈ zs3 := hp.mem_iff.1 (by simp)
    have hb : b ∈ zs3 := hp.mem_iff.1 (by simp)
    have hc : c ∈ zs3 := hp.mem_iff.1 (by simp)
    simp only [zs3, List.mem_cons, List.not_mem_nil, or_false] at ha hb hc
    rcases ha with rfl | rfl | rfl <;> rcases hb with rfl | rfl | rfl <;> rcases hc with rfl | rfl | rfl <;> first | rfl | (exfalso; revert hs; decide +kernel) | (exfalso; revert hp; decide +kernel)
theorem ints_form1 {w : World} {P : Nat → Prop} {u : Value} (h : Ints w P u [0]) : ∃ A4 c4, u = .slice A4 1 c4 := by
  obtain ⟨A4, c4, e, _⟩ := h
  exact ⟨A4, c4, e⟩
theorem acc_two {w : World} {P : Nat → Prop} {v : Value} {g : Nat} (h : MachAt w P v A.evenM) (hb : Blk w g 3 #[.int .i64 0, .int .i64 0]) : Calls Try.prog 9 #[v, .slice (some ⟨g, 0, none⟩) 2 2] w fun e w' => e = .returned (.bool true) ∧ Frm (fun _ => False) w w' := by
  have := accepts_any (l := [0, 0]) (Q := fun _ => True) (vw := .slice (some ⟨g, 0, none⟩) 2 2) h sized_even ⟨_, _, rfl, fun k hk => by
    match k, hk with
    | 0, _ => exact ⟨_, 0, rfl, trivial, hb.cell 0⟩
    | 1, _ => exact ⟨_, 0, rfl, trivial, hb.cell 1⟩⟩ (by decide)
  rw [show A.accepts A.evenM [0, 0] = true by decide +kernel] at this
  exact this
theorem acc_one {w : World} {P : Nat → Prop} {v : Value} {g : Nat} (h : MachAt w P v A.evenM) (hb : Blk w g 3 #[.int .i64 0]) : Calls Try.prog 9 #[v, .slice (some ⟨g, 0, none⟩) 1 1] w fun e w' => e = .returned (.bool false) ∧ Frm (fun _ => False) w w' := by
  have := accepts_any (l := [0]) (Q := fun _ => True) (vw := .slice (some ⟨g, 0, none⟩) 1 1) h sized_even ⟨_, _, rfl, fun k hk => by
    match k, hk with
    | 0, _ => exact ⟨_, 0, rfl, trivial, hb.cell 0⟩⟩ (by decide)
  rw [show A.accepts A.evenM [0] = false by decide +kernel] at this
  exact this
theorem own_prs {w : World} {base g c n : Nat} {zs : List DP} (h : w.ownsRow base 47 2 (.slice (some ⟨g, 0, none⟩) n c) n (zs.flatMap encP)) (hn : n = zs.length) {k : Nat} (hk : k ≤ n) : Prs2 w (fun _ => True) (.slice (some ⟨g, 0, none⟩) k c) ((zs.map (·.1)).take k) := by
  subst hn
  refine ⟨some ⟨g, 0, none⟩, c, by simp; omega, fun j hj => ?_⟩
  have hj' : j < zs.length := by simp at hj; omega
  have hc := @World.ownsRow.cells _ _ _ _ _ _ _ h g rfl
  have e0 := hc (j * 2) _ (flatP_at zs (j * 2) (by omega))
  have e1 := hc (j * 2 + 1) _ (flatP_at zs (j * 2 + 1) (by omega))
  rw [add_zero_off] at e0 e1
  rw [show j * 2 / 2 = j by omega, show j * 2 % 2 = 0 by omega, getElem!_pos zs j hj'] at e0
  rw [show (j * 2 + 1) / 2 = j by omega, show (j * 2 + 1) % 2 = 1 by omega, getElem!_pos zs j hj'] at e1
  refine ⟨g, 0, rfl, trivial, ?_, ?_⟩
  · rw [Nat.zero_add, e0]; simp [encP, pairC]
  · rw [Nat.zero_add, e1]; simp [encP, pairC]
theorem chk_all {w : World} {P Q : Nat → Prop} {v v' : Value} {base g c : Nat} (h : MachAt w P v A.evenM) (h' : MachAt w Q v' lessM) (ho : w.ownsRow base 47 2 (.slice (some ⟨g, 0, none⟩) 3 c) 3 (zs3.flatMap encP)) : Calls Try.prog 11 #[v, v', .slice (some ⟨g, 0, none⟩) 3 c] w fun e w' => e = .returned (.int .i64 0) ∧ Frm (fun _ => False) w w' := by
  have := check_any h h' (own_prs ho rfl (k := 3) (by decide)) sized_even sized_less (by decide)
  rw [show A.check A.evenM lessM ((zs3.map (·.1)).take 3) = 0 by decide +kernel] at this
  exact this
theorem chk_two {w : World} {P Q : Nat → Prop} {v v' : Value} {base g c : Nat} (h : MachAt w P v A.evenM) (h' : MachAt w Q v' lessM) (ho : w.ownsRow base 47 2 (.slice (some ⟨g, 0, none⟩) 3 c) 3 (zs3.flatMap encP)) : Calls Try.prog 11 #[v, v', .slice (some ⟨g, 0, none⟩) 2 c] w fun e w' => e = .returned (.int .i64 8) ∧ Frm (fun _ => False) w w' := by
  have := check_any h h' (own_prs ho rfl (k := 2) (by decide)) sized_even sized_less (by decide)
  rw [show A.check A.evenM lessM ((zs3.map (·.1)).take 2) = 8 by decide +kernel] at this
  exact this
def mE (v : Value) (w : World) : Prop := MachAt w (fun _ => True) v A.evenM
def sB (n : Nat) (cs : Array Value) (v : Value) (w : World) : Prop := ∃ b, v = .slice (some ⟨b, 0, none⟩) n n ∧ Blk w b 3 cs
def vV (x v : Value) (_ : World) : Prop := v = x
/-- What awake's last statement's operations leave behind. -/
def lastL (A1 A2 : Option Addr) (c1 c2 g c : Nat) : List (Value → World → Prop) :=
  [mE, sB 2 #[.int .i64 0, .int .i64 0], vV (.bool true), vV (.bool true), mE, sB 1 #[.int .i64 0], vV (.bool false), vV (.bool true), vV (.bool true), vV (.bool true),
   mE, vV (.agg #[.int .i64 1, .int .i64 0, .slice A1 2 c1, .slice A2 2 c2]), vV (.slice (some ⟨g, 0, none⟩) 3 c), vV (.int .i64 0), vV (.bool true), vV (.bool true), vV (.bool true),
   mE, vV (.agg #[.int .i64 1, .int .i64 0, .slice A1 2 c1, .slice A2 2 c2]), vV (.slice (some ⟨g, 0, none⟩) 3 c), vV (.slice (some ⟨g, 0, none⟩) 2 c), vV (.int .i64 8), vV (.bool true), vV (.bool true), vV (.bool true)]
theorem lastL_keep {A1 A2 : Option Addr} {c1 c2 g c : Nat} : ∀ f ∈ lastL A1 A2 c1 c2 g c, ∀ (v : Value) (w w' : World), f v w → Frm (fun _ => False) w w' → f v w' := by
  intro f hf v w w' h F
  have hm : ∀ v, mE v w → mE v w' := fun v h => MachAt.keep0 h F
  have hs : ∀ n cs v, sB n cs v w → sB n cs v w' := fun n cs v ⟨b, e, hb⟩ => ⟨b, e, F.blk hb id⟩
  have hv : ∀ x v, vV x v w → vV x v w' := fun x v h => h
  simp only [lastL, List.mem_cons, List.not_mem_nil, or_false] at hf
  rcases hf with rfl | rfl | rfl | rfl | rfl | rfl | rfl | rfl | rfl | rfl | rfl | rfl | rfl | rfl | rfl | rfl | rfl | rfl | rfl | rfl | rfl | rfl | rfl | rfl | rfl <;> first | exact hm v h | exact hs _ _ v h | exact hv _ v h
set_option maxRecDepth 100000 in
set_option maxHeartbeats 16000000 in
theorem awake_any (w : World) : Calls Try.prog 5 #[] w fun e w' => e = .returned (.bool true) ∧ Frm (fun _ => False) w w' := by
  go_enter Try.func5, Try.ntmps5
  go_wp2_with fail
  refine (even_any w).mono ?_
  rintro _ w1 ⟨r1, rfl, m1, f1⟩
  have HF1 := Lib.hid f1
  have HM1 := Lib.hid m1
  clear f1 m1
  go_wp2_with fail
  refine (Least_any HM1.out sized_even (f := 20) (by decide) A.least_even).mono ?_
  rintro _ w2 ⟨r2, rfl, m2, f2⟩
  obtain ⟨A1, c1, A2, c2, rfl⟩ := less_form m2
  have HF2 := Lib.hid (HF1.out.trans f2)
  have HM2 := Lib.hid m2
  clear f2 m2
  go_wp2_with fail
  obtain ⟨W, hW⟩ : ∃ W, W = ((((w2.alloc (.cells #[.int .i64 1, .int .i64 0, .slice A1 2 c1, .slice A2 2 c2] 25)).alloc (.cells #[.int .i64 0] 3)).alloc (.cells #[.slice (some ⟨w2.heap.size + 1, 0, none⟩) 1 1] 28)).alloc (.cells #[.bool true] 4)).alloc (.cells #[.int .i64 1, .int .i64 0, .slice (some ⟨w2.heap.size + 1 + 1, 0, none⟩) 1 1, .slice (some ⟨w2.heap.size + 1 + 1 + 1, 0, none⟩) 1 1] 25) := ⟨_, rfl⟩
  have b0 : Blk W w2.heap.size 25 #[.int .i64 1, .int .i64 0, .slice A1 2 c1, .slice A2 2 c2] := by rw [hW]; exact ((((Blk.new w2 _ _).alloc _).alloc _).alloc _).alloc _
  have b1 : Blk W (w2.heap.size + 1) 3 #[.int .i64 0] := by rw [hW]; exact (((blk_at (by simp)).alloc _).alloc _).alloc _
  have b2 : Blk W (w2.heap.size + 1 + 1) 28 #[.slice (some ⟨w2.heap.size + 1, 0, none⟩) 1 1] := by rw [hW]; exact ((blk_at (by simp)).alloc _).alloc _
  have b3 : Blk W (w2.heap.size + 1 + 1 + 1) 4 #[.bool true] := by rw [hW]; exact (blk_at (by simp)).alloc _
  have b4 : Blk W (w2.heap.size + 1 + 1 + 1 + 1) 25 #[.int .i64 1, .int .i64 0, .slice (some ⟨w2.heap.size + 1 + 1, 0, none⟩) 1 1, .slice (some ⟨w2.heap.size + 1 + 1 + 1, 0, none⟩) 1 1] := by rw [hW]; exact blk_at (by simp)
  have F : Frm (fun _ => False) w2 W := by rw [hW]; exact (((((Frm.refl _ w2).alloc _).alloc _).alloc _).alloc _).alloc _
  have HMO : Hid (MachAt W (fun _ => True) (.agg #[.int .i64 1, .int .i64 0, .slice (some ⟨w2.heap.size + 1 + 1, 0, none⟩) 1 1, .slice (some ⟨w2.heap.size + 1 + 1 + 1, 0, none⟩) 1 1]) A.oneM) := by
    refine ⟨_, _, rfl, ⟨_, _, rfl, fun k hk => ?_⟩, ⟨_, _, rfl, fun k hk => ?_⟩⟩
    · match k, hk with
      | 0, _ => exact ⟨_, 0, _, rfl, trivial, b2.cell 0, _, _, rfl, fun j hj => by match j, hj with | 0, _ => exact ⟨_, 0, rfl, trivial, b1.cell 0⟩⟩
    · match k, hk with
      | 0, _ => exact ⟨_, 0, rfl, trivial, b3.cell 0⟩
  have HML : Hid (MachAt W (fun _ => True) (.agg #[.int .i64 1, .int .i64 0, .slice A1 2 c1, .slice A2 2 c2]) lessM) := (MachAt.keep0 (m := lessM) HM2.out F).mono fun _ _ => trivial
  have HFW := Lib.hid (HF2.out.trans F)
  have HB0 := Lib.hid b0
  have x0 : W.cell? ⟨w2.heap.size + 1 + 1 + 1 + 1, 0, none⟩ = some (.int .i64 1) := b4.cell 0
  have x1 : W.cell? ⟨w2.heap.size + 1 + 1 + 1 + 1, 1, none⟩ = some (.int .i64 0) := b4.cell 1
  have x2 : W.cell? ⟨w2.heap.size + 1 + 1 + 1 + 1, 2, none⟩ = some (.slice (some ⟨w2.heap.size + 1 + 1, 0, none⟩) 1 1) := b4.cell 2
  have x3 : W.cell? ⟨w2.heap.size + 1 + 1 + 1 + 1, 3, none⟩ = some (.slice (some ⟨w2.heap.size + 1 + 1 + 1, 0, none⟩) 1 1) := b4.cell 3
  have HKK : Hid (∀ V, Frm (fun _ => False) W V → _) := fun V hV => (⟨hV.cell id x0, hV.cell id x1, hV.cell id x2, hV.cell id x3, hV⟩ : V.cell? ⟨w2.heap.size + 1 + 1 + 1 + 1, 0, none⟩ = some (.int .i64 1) ∧ V.cell? ⟨w2.heap.size + 1 + 1 + 1 + 1, 1, none⟩ = some (.int .i64 0) ∧ V.cell? ⟨w2.heap.size + 1 + 1 + 1 + 1, 2, none⟩ = some (.slice (some ⟨w2.heap.size + 1 + 1, 0, none⟩) 1 1) ∧ V.cell? ⟨w2.heap.size + 1 + 1 + 1 + 1, 3, none⟩ = some (.slice (some ⟨w2.heap.size + 1 + 1 + 1, 0, none⟩) 1 1) ∧ Frm (fun _ => False) W V)
  rw [← hW]
  clear hW b0 b1 b2 b3 b4 F HM1 HF1 HM2 HF2
  go_region_held3 (fun w' => w'.cell? ⟨w2.heap.size + 1 + 1 + 1 + 1, 0, none⟩ = some (.int .i64 1) ∧ w'.cell? ⟨w2.heap.size + 1 + 1 + 1 + 1, 1, none⟩ = some (.int .i64 0) ∧ w'.cell? ⟨w2.heap.size + 1 + 1 + 1 + 1, 2, none⟩ = some (.slice (some ⟨w2.heap.size + 1 + 1, 0, none⟩) 1 1) ∧ w'.cell? ⟨w2.heap.size + 1 + 1 + 1 + 1, 3, none⟩ = some (.slice (some ⟨w2.heap.size + 1 + 1 + 1, 0, none⟩) 1 1) ∧ Frm (fun _ => False) W w')
    (first | exact HKK.out _ (Frm.refl _ _) | exact HKK.out _ (Frm.refl _ _).drew | exact HKK.out _ (Frm.trans (E := fun _ => False) (w := W) f5 f6) | exact HKK.out _ f5)
    (first | (go_at_call 13; refine (even_any _).mono ?_; rintro e w5 ⟨r3, rfl, m3, f5⟩) | (go_at_call 6; refine (differ_even m3 (HMO.out.keep0 (w := W) f5)).mono ?_; rintro e w6 ⟨u4, rfl, hu4, f6⟩))
  have F6 := Frm.trans (E := fun _ => False) (w := W) f5 f6
  obtain ⟨A4, c4, rfl⟩ := ints_form1 hu4
  have HF6 := Lib.hid (HFW.out.trans F6)
  have HB6 := Lib.hid (F6.blk HB0.out id)
  have HML6 := Lib.hid (HML.out.keep0 F6)
  clear F6 f5 f6 m3 hu4 HKK x0 x1 x2 x3 HMO HML HFW HB0
  clear ‹_ ∧ _ ∧ _ ∧ _ ∧ Frm (fun _ => False) W _›
  go_wp2_with fail
  have y0 : w6.cell? ⟨w2.heap.size, 0, none⟩ = some (.int .i64 1) := HB6.out.cell 0
  have y1 : w6.cell? ⟨w2.heap.size, 1, none⟩ = some (.int .i64 0) := HB6.out.cell 1
  have y2 : w6.cell? ⟨w2.heap.size, 2, none⟩ = some (.slice A1 2 c1) := HB6.out.cell 2
  have y3 : w6.cell? ⟨w2.heap.size, 3, none⟩ = some (.slice A2 2 c2) := HB6.out.cell 3
  have HKK : Hid (∀ V, Frm (fun _ => False) w6 V → _) := fun V hV => (⟨hV.cell id y0, hV.cell id y1, hV.cell id y2, hV.cell id y3, hV⟩ : V.cell? ⟨w2.heap.size, 0, none⟩ = some (.int .i64 1) ∧ V.cell? ⟨w2.heap.size, 1, none⟩ = some (.int .i64 0) ∧ V.cell? ⟨w2.heap.size, 2, none⟩ = some (.slice A1 2 c1) ∧ V.cell? ⟨w2.heap.size, 3, none⟩ = some (.slice A2 2 c2) ∧ Frm (fun _ => False) w6 V)
  go_region_held3 (fun w' => w'.cell? ⟨w2.heap.size, 0, none⟩ = some (.int .i64 1) ∧ w'.cell? ⟨w2.heap.size, 1, none⟩ = some (.int .i64 0) ∧ w'.cell? ⟨w2.heap.size, 2, none⟩ = some (.slice A1 2 c1) ∧ w'.cell? ⟨w2.heap.size, 3, none⟩ = some (.slice A2 2 c2) ∧ Frm (fun _ => False) w6 w')
    (first | exact HKK.out _ (Frm.refl _ _) | exact HKK.out _ (Frm.refl _ _).drew | exact HKK.out _ (Frm.trans (E := fun _ => False) (w := w6) f7 f8) | exact HKK.out _ f7)
    (first | (go_at_call 13; refine (even_any _).mono ?_; rintro e w7 ⟨r5, rfl, m5, f7⟩) | (go_at_call 7; refine (relate_even m5 (HML6.out.keep0 (w := w6) f7)).mono ?_; rintro e w8 ⟨u7, zs', rfl, hp, hs, ho, f8⟩))
  have F8 := Frm.trans (E := fun _ => False) (w := w6) f7 f8
  have HF8 := Lib.hid (HF6.out.trans F8)
  have HB8 := Lib.hid (F8.blk HB6.out id)
  have HML8 := Lib.hid (HML6.out.keep0 F8)
  obtain ⟨g7, c7, rfl, hg7⟩ := own_some ho (by decide)
  have HO8 := Lib.hid ho
  have HP := Lib.hid hp
  have HS := Lib.hid hs
  clear F8 f7 f8 m5 ho hp hs HKK y0 y1 y2 y3 HF6 HB6 HML6 hg7
  clear ‹_ ∧ _ ∧ _ ∧ _ ∧ Frm (fun _ => False) w6 _›
  go_wp2_with fail
  refine (even_any _).mono ?_
  rintro _ w9 ⟨r9, rfl, m9, f9⟩
  have HF9 := Lib.hid (HF8.out.trans f9)
  have HB9 := Lib.hid (f9.blk HB8.out id)
  have HML9 := Lib.hid (HML8.out.keep0 f9)
  have HO9 := Lib.hid (f9.row HO8.out (fun _ _ => id) (Nat.le_refl _))
  have HM9 := Lib.hid m9
  clear f9 m9 HF8 HB8 HML8 HO8
  go_wp2_with fail
  refine (count_any (n := 4) HM9.out sized_even).mono ?_
  rintro _ w10 ⟨rfl, f10⟩
  have HF10 := Lib.hid (HF9.out.trans f10)
  have HB10 := Lib.hid (f10.blk HB9.out id)
  have HML10 := Lib.hid (HML9.out.keep0 f10)
  have HO10 := Lib.hid (f10.row HO9.out (fun _ _ => id) (Nat.le_refl _))
  rw [show (A.count A.evenM 4).1 = 1 by decide +kernel, show (A.count A.evenM 4).2 = 0 by decide +kernel]
  clear f10 HF9 HB9 HML9 HO9 HM9
  have y2 : w10.cell? ⟨w2.heap.size, 2, none⟩ = some (.slice A1 2 c1) := HB10.out.cell 2
  go_wp2_with fail
  have hz : zs' = zs3 := sort3 HP.out HS.out
  subst hz
  have h7 : 3 ≤ c7 := by
    rcases HO10.out.2 with ⟨hv, _⟩ | ⟨_, _, _, hv, _, _, h3, _⟩
    · cases hv
    · injection hv with _ _ hv; omega
  clear HP HS y2
  refine wp_region_list [75, 76, 77, 78, 79, 80, 81, 82, 83, 84, 85, 86, 87, 88, 89, 90, 91, 92, 93, 94, 95, 96, 97, 98, 0] (lastL A1 A2 c1 c2 g7 c7) (Frm (fun _ => False)) [(3, true), (9, true), (16, true)] [(1, .pointer (some ⟨w2.heap.size, 0, none⟩)), (7, .slice (some ⟨g7, 0, none⟩) 3 c7)] (by kernel_rfl) (by kernel_rfl) (fun _ _ _ => Frm.trans) lastL_keep ?_ (Frm.refl _ _).drew ?_ ?_ ?_
  · intro g hg v w hv
    simp only [List.mem_cons, List.not_mem_nil, or_false] at hg
    rcases hg with rfl | rfl | rfl <;> exact hv
  · intro x hx
    simp only [List.mem_cons, List.not_mem_nil, or_false] at hx
    rcases hx with rfl | rfl <;> exact ⟨by simp, rfl⟩
  · have HW : Hid (w10 = w10) := rfl
    refine ⟨?_, ?_, ?_, ?_, ?_, ?_, ?_, ?_, ?_, ?_, ?_, ?_, ?_, ?_, ?_, ?_, ?_, ?_, ?_, ?_, ?_, ?_, ?_, ?_, ?_, trivial⟩
    · intro Q tm df V hR hu hd
      clear hu hd
      go_simp
      refine (even_any _).mono ?_
      rintro e w' ⟨r, rfl, m, f⟩
      exact ⟨r, rfl, MachAt.mono m (fun _ _ => trivial), f⟩
    · intro Q tm df V hR hu hd
      clear hu hd
      go_simp
      exact ⟨_, rfl, ⟨V.heap.size, rfl, Blk.new _ _ _⟩, (Frm.refl _ V).alloc _⟩
    · intro Q tm df V hR hu hd
      have d0 : mE (tm[75]?.getD undef) V := hd 0 (by simp)
      obtain ⟨b, e1, hb⟩ : sB 2 #[.int .i64 0, .int .i64 0] (tm[76]?.getD undef) V := hd 1 (by simp)
      clear hu hd
      go_simp
      refine (acc_two d0 hb).mono ?_
      rintro e w' ⟨rfl, f⟩
      exact ⟨_, rfl, rfl, f⟩
    · intro Q tm df V hR hu hd
      have e0 : tm[77]?.getD undef = .bool true := hd 2 (by simp)
      clear hu hd
      go_simp
      exact ⟨_, rfl, rfl, Frm.refl _ V⟩
    · intro Q tm df V hR hu hd
      clear hu hd
      go_simp
      refine (even_any _).mono ?_
      rintro e w' ⟨r, rfl, m, f⟩
      exact ⟨r, rfl, MachAt.mono m (fun _ _ => trivial), f⟩
    · intro Q tm df V hR hu hd
      clear hu hd
      go_simp
      exact ⟨_, rfl, ⟨V.heap.size, rfl, Blk.new _ _ _⟩, (Frm.refl _ V).alloc _⟩
    · intro Q tm df V hR hu hd
      have d0 : mE (tm[79]?.getD undef) V := hd 4 (by simp)
      obtain ⟨b, e1, hb⟩ : sB 1 #[.int .i64 0] (tm[80]?.getD undef) V := hd 5 (by simp)
      clear hu hd
      go_simp
      refine (acc_one d0 hb).mono ?_
      rintro e w' ⟨rfl, f⟩
      exact ⟨_, rfl, rfl, f⟩
    · intro Q tm df V hR hu hd
      have e0 : tm[81]?.getD undef = .bool false := hd 6 (by simp)
      clear hu hd
      go_simp
      exact ⟨_, rfl, rfl, Frm.refl _ V⟩
    · intro Q tm df V hR hu hd
      have e0 : tm[78]?.getD undef = .bool true := hd 3 (by simp)
      have e1 : tm[82]?.getD undef = .bool true := hd 7 (by simp)
      clear hu hd
      go_simp
      exact ⟨_, rfl, rfl, Frm.refl _ V⟩
    · intro Q tm df V hR hu hd
      have e0 : tm[83]?.getD undef = .bool true := hd 8 (by simp)
      clear hu hd
      go_simp
      exact ⟨_, rfl, rfl, Frm.refl _ V⟩
    · intro Q tm df V hR hu hd
      clear hu hd
      go_simp
      refine (even_any _).mono ?_
      rintro e w' ⟨r, rfl, m, f⟩
      exact ⟨r, rfl, MachAt.mono m (fun _ _ => trivial), f⟩
    · intro Q tm df V hR hu hd
      have u1 : tm[1]?.getD undef = .pointer (some ⟨w2.heap.size, 0, none⟩) := hu (1, _) (by simp)
      have hb := hR.blk HB10.out id
      have y0 := hb.cell 0
      have y1 := hb.cell 1
      have y2 := hb.cell 2
      have y3 := hb.cell 3
      clear hu hd hb
      go_simp
      exact ⟨_, rfl, rfl, Frm.refl _ V⟩
    · intro Q tm df V hR hu hd
      have u1 : tm[7]?.getD undef = .slice (some ⟨g7, 0, none⟩) 3 c7 := hu (7, _) (by simp)
      clear hu hd
      go_simp
      exact ⟨_, rfl, rfl, Frm.refl _ V⟩
    · intro Q tm df V hR hu hd
      have d0 : mE (tm[85]?.getD undef) V := hd 10 (by simp)
      have e1 : tm[86]?.getD undef = .agg #[.int .i64 1, .int .i64 0, .slice A1 2 c1, .slice A2 2 c2] := hd 11 (by simp)
      have e2 : tm[87]?.getD undef = .slice (some ⟨g7, 0, none⟩) 3 c7 := hd 12 (by simp)
      clear hu hd
      go_simp
      refine (chk_all d0 (HML10.out.keep0 hR) (hR.row HO10.out (fun _ _ => id) (Nat.le_refl _))).mono ?_
      rintro e w' ⟨rfl, f⟩
      exact ⟨_, rfl, rfl, f⟩
    · intro Q tm df V hR hu hd
      have e0 : tm[88]?.getD undef = .int .i64 0 := hd 13 (by simp)
      clear hu hd
      go_simp
      exact ⟨_, rfl, rfl, Frm.refl _ V⟩
    · intro Q tm df V hR hu hd
      have e0 : tm[84]?.getD undef = .bool true := hd 9 (by simp)
      have e1 : tm[89]?.getD undef = .bool true := hd 14 (by simp)
      clear hu hd
      go_simp
      exact ⟨_, rfl, rfl, Frm.refl _ V⟩
    · intro Q tm df V hR hu hd
      have e0 : tm[90]?.getD undef = .bool true := hd 15 (by simp)
      clear hu hd
      go_simp
      exact ⟨_, rfl, rfl, Frm.refl _ V⟩
    · intro Q tm df V hR hu hd
      clear hu hd
      go_simp
      refine (even_any _).mono ?_
      rintro e w' ⟨r, rfl, m, f⟩
      exact ⟨r, rfl, MachAt.mono m (fun _ _ => trivial), f⟩
    · intro Q tm df V hR hu hd
      have u1 : tm[1]?.getD undef = .pointer (some ⟨w2.heap.size, 0, none⟩) := hu (1, _) (by simp)
      have hb := hR.blk HB10.out id
      have y0 := hb.cell 0
      have y1 := hb.cell 1
      have y2 := hb.cell 2
      have y3 := hb.cell 3
      clear hu hd hb
      go_simp
      exact ⟨_, rfl, rfl, Frm.refl _ V⟩
    · intro Q tm df V hR hu hd
      have u1 : tm[7]?.getD undef = .slice (some ⟨g7, 0, none⟩) 3 c7 := hu (7, _) (by simp)
      clear hu hd
      go_simp
      exact ⟨_, rfl, rfl, Frm.refl _ V⟩
    · intro Q tm df V hR hu hd
      have e1 : tm[94]?.getD undef = .slice (some ⟨g7, 0, none⟩) 3 c7 := hd 19 (by simp)
      have h2 : (2 : Int) ≤ (c7 : Int) := by omega
      clear hu hd
      go_simp
      exact ⟨_, rfl, rfl, Frm.refl _ V⟩
    · intro Q tm df V hR hu hd
      have d0 : mE (tm[92]?.getD undef) V := hd 17 (by simp)
      have e1 : tm[93]?.getD undef = .agg #[.int .i64 1, .int .i64 0, .slice A1 2 c1, .slice A2 2 c2] := hd 18 (by simp)
      have e2 : tm[95]?.getD undef = .slice (some ⟨g7, 0, none⟩) 2 c7 := hd 20 (by simp)
      clear hu hd
      go_simp
      refine (chk_two d0 (HML10.out.keep0 hR) (hR.row HO10.out (fun _ _ => id) (Nat.le_refl _))).mono ?_
      rintro e w' ⟨rfl, f⟩
      exact ⟨_, rfl, rfl, f⟩
    · intro Q tm df V hR hu hd
      have e0 : tm[96]?.getD undef = .int .i64 8 := hd 21 (by simp)
      clear hu hd
      go_simp
      exact ⟨_, rfl, rfl, Frm.refl _ V⟩
    · intro Q tm df V hR hu hd
      have e0 : tm[91]?.getD undef = .bool true := hd 16 (by simp)
      have e1 : tm[97]?.getD undef = .bool true := hd 22 (by simp)
      clear hu hd
      go_simp
      exact ⟨_, rfl, rfl, Frm.refl _ V⟩
    · intro Q tm df V hR hu hd
      have e0 : tm[98]?.getD undef = .bool true := hd 23 (by simp)
      clear hu hd
      go_simp
      exact ⟨_, rfl, rfl, Frm.refl _ V⟩
  · intro vs V hR hf
    have e24 : vs 24 = .bool true := hf 24 (by decide)
    clear hf
    clear HB10 HML10 HO10
    simp only [putAll, List.size_toArray, List.length_cons, List.length_nil, Nat.zero_add, Nat.reduceAdd, show List.range 25 = [0, 1, 2, 3, 4, 5, 6, 7, 8, 9, 10, 11, 12, 13, 14, 15, 16, 17, 18, 19, 20, 21, 22, 23, 24] from rfl, List.foldl_cons, List.foldl_nil, List.getD_cons_zero, List.getD_cons_succ, List.setIfInBounds_toArray, List.set_cons_zero, List.set_cons_succ, e24]
    go_wp2_with fail
    go_ret
    exact ⟨rfl, HF10.out.trans hR⟩
end Go.Proofs.Ytmfjadhnbaikkaa
end
section
namespace Go.Proofs.Ytmfjadhnbaikkaa
open Go.RowKit
/-- What Relate hands back. -/
def RelPost (w : World) (a b : A.Mac) (e : Ending) (w' : World) : Prop := Frm (fun _ => False) w w' ∧ ∃ u err, e = .returned (.tuple #[u, .int .i64 err]) ∧ (A.fit a b ≠ 0 → err = A.fit a b) ∧ (A.fit a b = 0 → (∃ l, A.Dist a b l) → err = 8) ∧ (A.fit a b = 0 → (¬ ∃ l, A.Dist a b l) → err = 0 ∧ ∃ l, Prs2 w' (fun _ => True) u l ∧ A.check a b l = 0 ∧ l.length ≤ 20000)
theorem relate_all {w : World} {P Q : Nat → Prop} {v v' : Value} {a b : A.Mac} (h : MachAt w P v a) (h' : MachAt w Q v' b) (hs : Sized a) (hs' : Sized b) (hN : A.fit a b = 0 → (1 + a.next.length) * (1 + b.next.length) ≤ 20000) :
    Calls Try.prog 7 #[v, v'] w (RelPost w a b) := by
  by_cases hf : A.fit a b = 0
  case neg => exact (relate_no h h' hs hs' hf).mono fun e w' ⟨he, F⟩ => ⟨F, _, _, he, fun _ => rfl, fun h => absurd h hf, fun h => absurd h hf⟩
  have ht := A.fit_two hf
  have hna := ht.na
  have hnb := ht.nb
  rcases A.diffO_spec ht (f := 20000) (by omega) with ⟨hd, hno⟩ | ⟨l, hd, hl⟩
  case inr => exact (relate_apart h h' hs hs' hf ht hd (by decide)).mono fun e w' ⟨he, F⟩ => ⟨F, _, _, he, fun h => absurd hf h, fun _ _ => rfl, fun _ hn => absurd ⟨l, hl.1⟩ hn⟩
  by_cases hst : (a.start, b.start) = (-1, -1)
  · exact (relate_nil h h' hs hs' hf ht hd (by decide) hst).mono fun e w' ⟨he, F⟩ => ⟨F, _, _, he, fun h => absurd hf h, fun _ hy => absurd hy hno, fun _ _ => ⟨rfl, [], ⟨none, 0, rfl, fun k hk => absurd hk (by simp)⟩, A.check_nil hf hst, by simp⟩⟩
  · obtain ⟨ts, rows, hsr, hF, hin, hcl⟩ := A.search_ok ht (hN hf) hst (f := 20000) (by decide)
    have hB : ∀ z ∈ ts, BPr z := fun z hz => BPr.of_in ht (hF.good z hz).1
    obtain ⟨zs, hzs⟩ : ∃ zs : List DP, zs.map (·.1) = ts := by
      clear hsr hF hin hcl
      induction ts with
      | nil => exact ⟨[], rfl⟩
      | cons z ts ih =>
        obtain ⟨zs, e⟩ := ih fun x hx => hB x (List.mem_cons_of_mem _ hx)
        exact ⟨⟨z, hB z List.mem_cons_self⟩ :: zs, by simp [e]⟩
    have hlen : zs.length = ts.length := by rw [← hzs]; simp
    have hl1 := hF.len
    have hl2 := hN hf
    have hpos : 0 < ts.length := List.length_pos_of_mem hin
    refine (relate_same (zs := zs) (rows := rows) h h' hs hs' hf ht hd (by decide) hst (by rw [hzs]; exact hsr) (by omega) (by omega)).mono fun e w' ⟨u, zs', he, hp, hso, ho, F⟩ => ⟨F, u, 0, he, fun h => absurd hf h, fun _ hy => absurd hy hno, fun _ _ => ⟨rfl, zs'.map (fun z : DP => z.1), ?_, ?_, ?_⟩⟩
    · obtain ⟨g, c, rfl, _⟩ := own_some ho (by omega)
      have hzl : zs'.length = zs.length := hp.length_eq
      rw [← hzl] at ho
      have := own_prs ho rfl (k := zs'.length) (Nat.le_refl _)
      rw [List.take_of_length_le (by simp), hzl] at this
      exact this
    · refine A.check_sorted hf hno hF hin hcl (by rw [← hzs]; exact hp.map _) ?_
      rw [List.pairwise_map]
      exact hso.imp fun {x y} h => by
        have : decide (cfP y x < 0) = false := h
        have h2 := of_decide_eq_false this
        exact h2
    · rw [List.length_map, hp.length_eq]; omega
/-- What Differ hands back, at every two machines. -/
def DifPost (w : World) (a b : A.Mac) (e : Ending) (w' : World) : Prop := Frm (fun _ => False) w w' ∧ ∃ u first err, e = .returned (.tuple #[u, .bool first, .int .i64 err]) ∧ (A.fit a b ≠ 0 → u = .slice none 0 0 ∧ first = false ∧ err = A.fit a b) ∧ (A.fit a b = 0 → (¬ ∃ l, A.Dist a b l) → u = .slice none 0 0 ∧ first = false ∧ err = 7) ∧ (A.fit a b = 0 → ∀ l, A.Least0 a b l → err = 0 ∧ first = A.ends a (A.runP a b (a.start, b.start) l).1 ∧ Ints w' (fun _ => True) u l)
theorem differ_all {w : World} {P Q : Nat → Prop} {v v' : Value} {a b : A.Mac} (h : MachAt w P v a) (h' : MachAt w Q v' b) (hs : Sized a) (hs' : Sized b) :
    Calls Try.prog 6 #[v, v'] w (DifPost w a b) := by
  by_cases hf : A.fit a b = 0
  case neg => exact (differ_any (f := 20000) (r := none) h h' hs hs' (fun h => absurd h hf) (by decide)).mono fun e w' ⟨F, hd⟩ => ⟨F, _, _, _, (by rw [if_neg hf] at hd; exact hd), fun _ => ⟨rfl, rfl, rfl⟩, fun h => absurd h hf, fun h => absurd h hf⟩
  have ht := A.fit_two hf
  have hna := ht.na
  have hnb := ht.nb
  rcases A.diffO_spec ht (f := 20000) (by omega) with ⟨hd, hno⟩ | ⟨l, hd, hl⟩
  · exact (differ_any (f := 20000) (r := none) h h' hs hs' (fun _ => ⟨hd, fun _ _ h => by cases h⟩) (by decide)).mono fun e w' ⟨F, hd⟩ => ⟨F, _, _, _, (by rw [if_pos hf] at hd; exact hd), fun h => absurd hf h, fun _ _ => ⟨rfl, rfl, rfl⟩, fun _ l hl => absurd ⟨l, hl.1⟩ hno⟩
  · refine (differ_any (f := 20000) (r := some (l, A.runP a b (a.start, b.start) l)) h h' hs hs' (fun _ => ⟨hd, fun l' q e => ?_⟩) (by decide)).mono fun e w' ⟨F, hd⟩ => ?_
    · injection e with e
      injection e with e1 e2
      subst e1 e2
      exact ht.run hl.1.1 ⟨ht.fa.start, ht.fb.start⟩
    · rw [if_pos hf] at hd
      obtain ⟨u, he, hu⟩ := hd
      refine ⟨F, u, _, 0, he, fun h => absurd hf h, fun _ hn => absurd ⟨l, hl.1⟩ hn, fun _ l' hl' => ?_⟩
      have := A.least_uniq hl hl'
      subst this
      obtain ⟨A0, c, e1, e2⟩ := hu
      exact ⟨rfl, rfl, A0, c, e1, fun k hk => by obtain ⟨g, o, h1, _, h3⟩ := e2 k hk; exact ⟨g, o, h1, trivial, h3⟩⟩
end Go.Proofs.Ytmfjadhnbaikkaa
end
section
namespace Go.Proofs.Ytmfjadhnbaikkaa
open Go.RowKit
namespace A
def small (m : Mac) : Bool := decide (m.next.length ≤ 30) && decide (m.fin.length ≤ 40) && decide (m.letters ≤ 8)
end A
set_option maxRecDepth 100000 in
set_option maxHeartbeats 4000000 in
theorem small_any {w : World} {P : Nat → Prop} {v : Value} {m : A.Mac} (h : MachAt w P v m) (hs : Sized m) : Calls Try.prog 4 #[v] w fun e w' => e = .returned (.bool (A.small m)) ∧ Frm (fun _ => False) w w' := by
  obtain ⟨A1, c1, A2, c2, rfl⟩ := h.form
  obtain ⟨s1, s2, _⟩ := hs
  obtain ⟨lt, st, nx, fn⟩ := m
  simp only at *
  unfold maxLen at s1 s2
  have bx := Blk.new w 25 #[.int .i64 lt, .int .i64 st, .slice A1 nx.length c1, .slice A2 fn.length c2]
  have x0 := bx.cell 0
  have x1 := bx.cell 1
  have x2 := bx.cell 2
  have x3 := bx.cell 3
  have F0 : Hid (Frm (fun _ => False) w (w.alloc (.cells #[.int .i64 lt, .int .i64 st, .slice A1 nx.length c1, .slice A2 fn.length c2] 25))) := (Frm.refl _ w).alloc _
  clear bx h
  have HX : Hid (A.small ⟨lt, st, nx, fn⟩ = (decide (nx.length ≤ 30) && decide (fn.length ≤ 40) && decide (lt ≤ 8))) := rfl
  by_cases a1 : nx.length ≤ 30
  · by_cases a2 : fn.length ≤ 40
    · by_cases a3 : lt ≤ 8
      · go_enter Try.func4, Try.ntmps4
        go_wp2_with fail
        go_ret
        exact ⟨ret_bool (by rw [HX.out]; simp [a1, a2, a3]), F0.out⟩
      · go_enter Try.func4, Try.ntmps4
        go_wp2_with fail
        go_ret
        exact ⟨ret_bool (by rw [HX.out]; simp [a1, a2, a3]), F0.out⟩
    · go_enter Try.func4, Try.ntmps4
      go_wp2_with fail
      go_ret
      exact ⟨ret_bool (by rw [HX.out]; simp [a1, a2]), F0.out⟩
  · go_enter Try.func4, Try.ntmps4
    go_wp2_with fail
    go_ret
    exact ⟨ret_bool (by rw [HX.out]; simp [a1]), F0.out⟩
end Go.Proofs.Ytmfjadhnbaikkaa
end
section
namespace Go.Proofs.Ytmfjadhnbaikkaa
open Go.ChangeShapes Go.WideShapes Go.ChangeAt Go.RowKit Go.Deep Go.Joins
theorem cellsR_ints : Try.prog.cellsOf 28 = 1 := by kernel_rfl
theorem cellsR_int : Try.prog.cellsOf 3 = 1 := by kernel_rfl
theorem cellsR_bool : Try.prog.cellsOf 4 = 1 := by kernel_rfl
theorem cellsR_pair : Try.prog.cellsOf 47 = 2 := by kernel_rfl
theorem cellsR_mach : Try.prog.cellsOf 25 = 4 := by kernel_rfl
theorem addr_any {g o : Nat} (k : Nat) : (⟨g, o, none⟩ : Addr).add k = ⟨g, o + k, none⟩ := by
  unfold Addr.add
  split
  · subst_vars; simp
  · rfl
theorem at_spot {w : World} {a : Addr} {v : Value} (h : w.cell? (a.add 0) = some v) : ∃ g o, a = ⟨g, o, none⟩ := by
  have : (a.add 0) = a := by simp [Addr.add]
  rw [this] at h
  exact ⟨a.block, a.off, by have := World.cell?_spot h; cases a; simp_all⟩
section
variable {H : Type} {enc : TypeId × Value → H} {W : World} {held : Bool} {n : Nat} {v : Value} {y : DataW H × List MemPlace}
theorem ints_of {base : Nat} (h : DataW.trod enc Try.prog W base (fun _ => true) held n 28 [v] = some y) : ∃ l, Ints W (fun _ => True) v l ∧ l.length ≤ maxLen := by
  rcases open_ints Try.underlying28 Try.underlying3 cellsR_int h with ⟨hc, _⟩ | ⟨a, len, cap, zs, hc, _, hl, hm, hz, _, hcell, _⟩
  · injection hc with hc
    subst hc
    exact ⟨[], ⟨none, 0, rfl, fun k hk => absurd hk (by simp)⟩, by simp⟩
  · injection hc with hc
    subst hc
    simp only [if_true] at hz
    have hlen : (zs.take len).length = len := by rw [List.length_take]; omega
    refine ⟨zs.take len, ⟨some a, cap, by rw [hlen], fun k hk => ?_⟩, by omega⟩
    rw [hlen] at hk
    obtain ⟨g, o, rfl⟩ := at_spot (hcell 0 (by omega))
    refine ⟨g, o, rfl, trivial, ?_⟩
    have := hcell k (by omega)
    rw [addr_any] at this
    rw [this]
    simp [show k < zs.length by omega]
theorem bools_of {base : Nat} (h : DataW.trod enc Try.prog W base (fun _ => true) held n 23 [v] = some y) : ∃ l, Bools W (fun _ => True) v l ∧ l.length ≤ maxLen := by
  rcases open_slice1 Try.underlying23 cellsR_bool h with ⟨hc, _⟩ | ⟨a, len, cap, m, q, V, D, Pl, hc, _, hl, hm, hmm, _, hx⟩
  · injection hc with hc
    subst hc
    exact ⟨[], ⟨none, 0, rfl, fun k hk => absurd hk (by simp)⟩, by simp⟩
  · injection hc with hc
    subst hc
    simp only [if_true] at hmm
    have each : ∀ i, ∃ b : Bool, i < m → V i = .bool b := fun i => by
      by_cases hi : i < m
      · obtain ⟨b, hb, _⟩ := DataW.trod_bool Try.underlying4 (hx i hi).2
        exact ⟨b, fun _ => by injection hb⟩
      · exact ⟨false, fun h => absurd h hi⟩
    obtain ⟨B, hB⟩ := Classical.axiomOfChoice each
    refine ⟨(List.range len).map B, ⟨some a, cap, by simp, fun k hk => ?_⟩, by simp; omega⟩
    have hk' : k < len := by simpa using hk
    obtain ⟨g, o, rfl⟩ := at_spot (hx 0 (by omega)).1
    refine ⟨g, o, rfl, trivial, ?_⟩
    have := (hx k (by omega)).1
    rw [addr_any] at this
    rw [this, hB k (by omega)]
    simp
theorem rows_of {base : Nat} (h : DataW.trod enc Try.prog W base (fun _ => true) held n 22 [v] = some y) : ∃ l, Rows2 W (fun _ => True) v l ∧ l.length ≤ maxLen ∧ ∀ r ∈ l, r.length ≤ maxLen := by
  rcases open_int_rows Try.underlying22 Try.underlying28 Try.underlying3 cellsR_ints cellsR_int h with ⟨hc, _⟩ | ⟨a, len, cap, A, L, C, Z, hc, _, hl, hm, _, hx⟩
  · injection hc with hc
    subst hc
    exact ⟨[], ⟨none, 0, rfl, fun k hk => absurd hk (by simp)⟩, by simp, fun _ h => by cases h⟩
  · injection hc with hc
    subst hc
    have hlr : ∀ r, r < cap → ((Z r).take (L r)).length = L r := fun r hr => by
      obtain ⟨_, h1, _, h2, _⟩ := hx r hr
      rw [List.length_take]
      omega
    refine ⟨(List.range len).map fun r => (Z r).take (L r), ⟨some a, cap, by simp, fun k hk => ?_⟩, by simp; omega, fun r hr => ?_⟩
    · have hk' : k < len := by simpa using hk
      obtain ⟨g, o, rfl⟩ := at_spot (hx 0 (by omega)).1
      obtain ⟨h0, h1, h2, h3, _, h5, h6⟩ := hx k (by omega)
      rw [addr_any] at h0
      refine ⟨g, o, _, rfl, trivial, h0, A k, C k, ?_, fun c hc => ?_⟩
      · simp only [List.getElem_map, List.getElem_range]
        rw [hlr k (by omega)]
      · simp only [List.getElem_map, List.getElem_range] at hc
        rw [hlr k (by omega)] at hc
        rcases hA : A k with _ | a'
        · have := h5 hA; omega
        · obtain ⟨_, h7⟩ := h6 a' hA
          obtain ⟨g', o', rfl⟩ := at_spot (h7 0 (by omega))
          have := h7 c (by omega)
          rw [addr_any] at this
          refine ⟨g', o', rfl, trivial, ?_⟩
          rw [this]
          simp [show c < (Z k).length by omega]
    · obtain ⟨i, hi, rfl⟩ := List.mem_map.1 hr
      have hi' := List.mem_range.1 hi
      rw [hlr i (by omega)]
      obtain ⟨_, h1, h2, _⟩ := hx i (by omega)
      omega
theorem pairs_of {base : Nat} (h : DataW.trod enc Try.prog W base (fun _ => true) held n 32 [v] = some y) : ∃ l, Prs2 W (fun _ => True) v l ∧ l.length ≤ maxLen := by
  rcases open_slice_pairs Try.underlying32 Try.underlying47 cellsR_pair rfl rfl cellsR_int cellsR_int h with ⟨hc, _⟩ | ⟨a, len, cap, m, q, V0, V1, D0, D1, P0, P1, hc, _, hl, hm, hmm, _, hx⟩
  · injection hc with hc
    subst hc
    exact ⟨[], ⟨none, 0, rfl, fun k hk => absurd hk (by simp)⟩, by simp⟩
  · injection hc with hc
    subst hc
    simp only [if_true] at hmm
    have each : ∀ i, ∃ p : A.Pr, i < m → V0 i = .int .i64 p.1 ∧ V1 i = .int .i64 p.2 := fun i => by
      by_cases hi : i < m
      · obtain ⟨x, hx0, _⟩ := DataW.trod_int Try.underlying3 (hx i hi).2.2.1
        obtain ⟨x', hx1, _⟩ := DataW.trod_int Try.underlying3 (hx i hi).2.2.2
        exact ⟨(x, x'), fun _ => ⟨by injection hx0, by injection hx1⟩⟩
      · exact ⟨(0, 0), fun h => absurd h hi⟩
    obtain ⟨B, hB⟩ := Classical.axiomOfChoice each
    refine ⟨(List.range len).map B, ⟨some a, cap, by simp, fun k hk => ?_⟩, by simp; omega⟩
    have hk' : k < len := by simpa using hk
    obtain ⟨g, o, rfl⟩ := at_spot (by have := (hx 0 (by omega)).1; rwa [Nat.zero_mul] at this)
    obtain ⟨h0, h1, _⟩ := hx k (by omega)
    rw [addr_any] at h0 h1
    refine ⟨g, o, rfl, trivial, ?_, ?_⟩
    · rw [h0, (hB k (by omega)).1]; simp
    · rw [Nat.add_assoc, h1, (hB k (by omega)).2]; simp
set_option maxRecDepth 100000 in
theorem mach_of {base b0 : Nat} {r : Reach} {d : DataW H} {p : List MemPlace} (hv : Value.okWide Try.prog W r b0 25 v) (h : DataW.Trod enc Try.prog W base (fun _ => true) held 25 v d p) : ∃ m, MachAt W (fun _ => True) v m ∧ Sized m ∧ (Lit.int .i64 m.letters).wf = true ∧ (Lit.int .i64 m.start).wf = true := by
  obtain ⟨v0, v1, v2, v3, y0, y1, y2, y3, q, rfl, _, _, h0, h1, h2, h3⟩ := open_agg4 Try.underlying25 (by kernel_rfl) cellsR_mach hv h
  obtain ⟨x0, e0, _, wx0⟩ := DataW.trod_int Try.underlying3 h0
  obtain ⟨x1, e1, _, wx1⟩ := DataW.trod_int Try.underlying3 h1
  obtain ⟨l2, m2, s2, t2⟩ := rows_of h2
  obtain ⟨l3, m3, s3⟩ := bools_of h3
  injection e0 with e0
  injection e1 with e1
  subst e0 e1
  exact ⟨⟨x0, x1, l2, l3⟩, ⟨v2, v3, rfl, m2, m3⟩, ⟨s2, s3, t2⟩, wx0, wx1⟩
end
end Go.Proofs.Ytmfjadhnbaikkaa
end
section
namespace Go.Proofs.Ytmfjadhnbaikkaa
open Go.RowKit
theorem dummy52 : True := trivial
end Go.Proofs.Ytmfjadhnbaikkaa
end
section
namespace Go.Proofs.Ytmfjadhnbaikkaa
open Go.RowKit
set_option maxRecDepth 100000 in
set_option maxHeartbeats 4000000 in
theorem sameWord_same {w : World} {P Q : Nat → Prop} {v v' : Value} {l : List Int} (h : Ints w P v l) (h' : Ints w Q v' l) (hl : l.length ≤ maxLen) : Calls Try.prog 8 #[v, v'] w fun e w' => e = .returned (.bool true) ∧ Frm (fun _ => False) w w' := by
  obtain ⟨A1, c1, rfl, h1⟩ := h
  obtain ⟨A2, c2, rfl, h2⟩ := h'
  have H1 := Lib.hid h1
  have H2 := Lib.hid h2
  clear h1 h2
  unfold maxLen at hl
  go_enter Try.func8, Try.ntmps8
  go_wp2_with fail
  go_loopg [5] (l.length + 1) (fun n i wr => ∃ k : Nat, k ≤ l.length ∧ n = l.length + 1 - k ∧ i = .int .i64 (k : Int) ∧ Hid (Frm (fun _ => False) w wr))
  case atStart => exact ⟨0, Nat.zero_le _, rfl, rfl, Frm.refl _ _⟩
  case round =>
    obtain ⟨k, hk, rfl, rfl, HF⟩ := hrel
    by_cases hlt : k < l.length
    · have hlt' : (k : Int) < (l.length : Int) := by omega
      obtain ⟨g1, o1, rfl, _, hc1⟩ := H1.out k hlt
      obtain ⟨g2, o2, rfl, _, hc2⟩ := H2.out k hlt
      have d1 := HF.out.cell id hc1
      have d2 := HF.out.cell id hc2
      clear hc1 hc2
      generalize l[k] = x at *
      go_wp2_with fail
      go_quiet (fail)
      go_wp2_with fail
      go_roundg (l.length + 1 - (k + 1))
      case measure => omega
      case rel => exact ⟨k + 1, by omega, rfl, by go_num, HF.out⟩
    · have hlt' : ¬ (k : Int) < (l.length : Int) := by omega
      go_wp2_with fail
      go_ret
      exact ⟨rfl, HF.out⟩
end Go.Proofs.Ytmfjadhnbaikkaa
end
section
namespace Go.Proofs.Ytmfjadhnbaikkaa
open Go.RowKit
namespace A
theorem Base.len {a b : Mac} {ts : List Tr} {W : Nat → List Int} (h : Base a b ts W) : ∀ i, i < ts.length → (W i).length ≤ i := by
  intro i
  induction i using Nat.strongRecOn with
  | _ i ih =>
    intro hi
    by_cases e : i = 0
    · rw [e, h.zero]; simp
    · obtain ⟨m, _, h2, h3⟩ := h.bk i hi (by omega)
      have := ih m h2 (by omega)
      rw [h3]
      simp
      omega
/-- The least word that tells two machines apart is short. -/
theorem least_len {a b : Mac} (h2 : Two a b) {l : List Int} (hl : Least0 a b l) : l.length ≤ 2 + a.next.length + b.next.length := by
  have hst : InP a b (a.start, b.start) := ⟨h2.fa.start, h2.fb.start⟩
  obtain ⟨f, hf⟩ : ∃ f, f = 3 + a.next.length + b.next.length := ⟨_, rfl⟩
  by_cases hag : agree a b (a.start, b.start) = true
  · have hlen : (upTo (1 + a.next.length + b.next.length) (1 + a.next.length + b.next.length)).length = 1 + a.next.length + b.next.length := by simp [upTo]
    obtain ⟨j1, y, d1, d2, ⟨J1, r1, d3, d4⟩, _⟩ := joinO_jo (f := f) (jo0 a.next.length (1 + a.next.length + b.next.length)) hlen (fun _ h => by cases h) hst (by omega)
    have hT : Tra a b [⟨(a.start, b.start), 0, 0⟩] fun _ => [] := by
      refine ⟨by simp, rfl, fun i hi => ?_, fun i _ k hk => by simp at hk, fun i hi => ?_, fun i j hij hj => by simp at hj; omega, fun i hi h0 => by simp at hi; omega⟩
      · have : i = 0 := by simpa using hi
        subst this
        rfl
      · have : i = 0 := by simpa using hi
        subst this
        exact hag
    rcases outer_spec h2 (f := f) f 0 j1 [⟨(a.start, b.start), 0, 0⟩] (fun _ => []) J1 r1 hT (by simp) (fun i hi h0 => by simp at hi; omega) (fun i j _ _ h => by omega) d3 (by omega) (by omega) (by simp) (by omega) with ⟨_, e2⟩ | ⟨ts', l', q, W', e1, e2, e3, e4, e5, e6, e7⟩
    · exact absurd ⟨l, hl.1⟩ e2
    · rw [least_uniq hl e2, ← e6]
      have := e4.len (ts'.length - 1) (by omega)
      omega
  · have h0 : Dist a b [] := ⟨(fun k hk => by cases hk), by simpa [runP] using hag⟩
    rcases l with _ | ⟨k, l⟩
    · simp
    · exact absurd (.inl (by simp)) (hl.2 [] h0)
theorem fit_cases {a b : Mac} (h : fit a b ≠ 0) : (fit a b = 1 ∧ fit b a = 1) ∨ (fit a b = 4 ∧ fit b a = 4) := by
  unfold fit at h ⊢
  by_cases hv : valid a = 0 ∧ valid b = 0
  · rw [if_pos hv] at h ⊢
    rw [if_pos (show valid b = 0 ∧ valid a = 0 from ⟨hv.2, hv.1⟩)]
    by_cases hl : a.letters = b.letters
    · rw [if_pos hl] at h; exact absurd rfl h
    · rw [if_neg hl, if_neg (Ne.symm hl)]; exact .inr ⟨rfl, rfl⟩
  · rw [if_neg hv, if_neg (show ¬ (valid b = 0 ∧ valid a = 0) from fun h' => hv ⟨h'.2, h'.1⟩)]; exact .inl ⟨rfl, rfl⟩
theorem fit_swap {a b : Mac} (h : fit a b = 0) : fit b a = 0 := by
  unfold fit at h ⊢
  by_cases hv : valid a = 0 ∧ valid b = 0
  · rw [if_pos hv] at h
    rw [if_pos (show valid b = 0 ∧ valid a = 0 from ⟨hv.2, hv.1⟩)]
    by_cases hl : a.letters = b.letters
    · rw [if_pos hl.symm]
    · rw [if_neg hl] at h; cases h
  · rw [if_neg hv] at h; cases h
theorem fit_valid {a b : Mac} (h : fit a b = 0) : valid a = 0 ∧ valid b = 0 := by
  unfold fit at h
  split at h
  · assumption
  · cases h
theorem dist_swap {a b : Mac} (hl : a.letters = b.letters) {w : List Int} (h : Dist a b w) : Dist b a w := by
  unfold Dist OkW at h ⊢
  rw [runP_run] at h ⊢
  rw [← hl]
  simp only [agree] at h ⊢
  rw [Bool.beq_comm]
  exact h
theorem small_len {m : Mac} (h : small m = true) : m.next.length ≤ 30 := by
  unfold small at h
  simp at h
  exact h.1.1
theorem small_room {a b : Mac} (h : small a = true) (h' : small b = true) : (1 + a.next.length) * (1 + b.next.length) ≤ 20000 := by
  have h1 := small_len h
  have h2 := small_len h'
  have : (1 + a.next.length) * (1 + b.next.length) ≤ 31 * 31 := Nat.mul_le_mul (by omega) (by omega)
  omega
end A
theorem differ_no {w : World} {P Q : Nat → Prop} {v v' : Value} {a b : A.Mac} {c : Int} (h : MachAt w P v a) (h' : MachAt w Q v' b) (hs : Sized a) (hs' : Sized b) (hf : A.fit a b = c) (hc : c ≠ 0) : Calls Try.prog 6 #[v, v'] w fun e w' => e = .returned (.tuple #[.slice none 0 0, .bool false, .int .i64 c]) ∧ Frm (fun _ => False) w w' :=
  (differ_all h h' hs hs').mono fun e w' ⟨F, u, fi, er, he, h1, _, _⟩ => by
    obtain ⟨rfl, rfl, rfl⟩ := h1 (by rw [hf]; exact hc)
    rw [hf] at he
    exact ⟨he, F⟩
theorem differ_none {w : World} {P Q : Nat → Prop} {v v' : Value} {a b : A.Mac} (h : MachAt w P v a) (h' : MachAt w Q v' b) (hs : Sized a) (hs' : Sized b) (hf : A.fit a b = 0) (hd : ¬ ∃ l, A.Dist a b l) : Calls Try.prog 6 #[v, v'] w fun e w' => e = .returned (.tuple #[.slice none 0 0, .bool false, .int .i64 7]) ∧ Frm (fun _ => False) w w' :=
  (differ_all h h' hs hs').mono fun e w' ⟨F, u, fi, er, he, _, h2, _⟩ => by
    obtain ⟨rfl, rfl, rfl⟩ := h2 hf hd
    exact ⟨he, F⟩
theorem differ_some {w : World} {P Q : Nat → Prop} {v v' : Value} {a b : A.Mac} {l : List Int} (h : MachAt w P v a) (h' : MachAt w Q v' b) (hs : Sized a) (hs' : Sized b) (hf : A.fit a b = 0) (hl : A.Least0 a b l) : Calls Try.prog 6 #[v, v'] w fun e w' => ∃ u, e = .returned (.tuple #[u, .bool (A.ends a (A.runP a b (a.start, b.start) l).1), .int .i64 0]) ∧ Ints w' (fun _ => True) u l ∧ Frm (fun _ => False) w w' :=
  (differ_all h h' hs hs').mono fun e w' ⟨F, u, fi, er, he, _, _, h3⟩ => by
    obtain ⟨rfl, rfl, hi⟩ := h3 hf l hl
    exact ⟨u, he, hi, F⟩
theorem relate_some {w : World} {P Q : Nat → Prop} {v v' : Value} {a b : A.Mac} {l : List Int} (h : MachAt w P v a) (h' : MachAt w Q v' b) (hs : Sized a) (hs' : Sized b) (hN : (1 + a.next.length) * (1 + b.next.length) ≤ 20000) (hf : A.fit a b = 0) (hl : A.Least0 a b l) : Calls Try.prog 7 #[v, v'] w fun e w' => ∃ u, e = .returned (.tuple #[u, .int .i64 8]) ∧ Frm (fun _ => False) w w' :=
  (relate_all h h' hs hs' fun _ => hN).mono fun e w' ⟨F, u, er, he, _, h2, _⟩ => by
    obtain rfl := h2 hf ⟨l, hl.1⟩
    exact ⟨u, he, F⟩
theorem relate_none {w : World} {P Q : Nat → Prop} {v v' : Value} {a b : A.Mac} (h : MachAt w P v a) (h' : MachAt w Q v' b) (hs : Sized a) (hs' : Sized b) (hN : (1 + a.next.length) * (1 + b.next.length) ≤ 20000) (hf : A.fit a b = 0) (hd : ¬ ∃ l, A.Dist a b l) : Calls Try.prog 7 #[v, v'] w fun e w' => ∃ u l, e = .returned (.tuple #[u, .int .i64 0]) ∧ Prs2 w' (fun _ => True) u l ∧ A.check a b l = 0 ∧ l.length ≤ 20000 ∧ Frm (fun _ => False) w w' :=
  (relate_all h h' hs hs' fun _ => hN).mono fun e w' ⟨F, u, er, he, _, _, h3⟩ => by
    obtain ⟨rfl, l, h4, h5, h6⟩ := h3 hf hd
    exact ⟨u, l, he, h4, h5, h6, F⟩
theorem ints_nil (w : World) (P : Nat → Prop) : Ints w P (.slice none 0 0) [] := ⟨none, 0, rfl, fun k hk => absurd hk (by simp)⟩
set_option maxRecDepth 100000 in
set_option maxHeartbeats 16000000 in
theorem shown_big {w : World} {P Q S : Nat → Prop} {va vb vw : Value} {a b : A.Mac} {ws : List (List Int)} (ha : MachAt w P va a) (hb : MachAt w Q vb b) (hw : Rows2 w S vw ws) (sa : Sized a) (sb : Sized b) (sw : ws.length ≤ maxLen) (sr : ∀ r ∈ ws, r.length ≤ maxLen) (hsm : A.small a = false ∨ (A.small a = true ∧ A.small b = false)) :
    Calls Try.prog 3 #[va, vb, vw] w fun e w' => e = .returned (.bool true) ∧ Frm (fun _ => False) w w' := by
  obtain ⟨A1, c1, A2, c2, rfl⟩ := ha.form
  obtain ⟨B1, d1, B2, d2, rfl⟩ := hb.form
  obtain ⟨AW, cw, rfl, hW⟩ := id hw
  have HWE := Lib.hid hW
  have HF0 : Hid (Bx w _ (macC a A1 c1 A2 c2) (macC b B1 d1 B2 d2)) := Bx.new w _ _
  have HM := Lib.hid ha
  have HM' := Lib.hid hb
  have HW := Lib.hid hw
  have HS := Lib.hid sa
  have HS' := Lib.hid sb
  have HSW := Lib.hid sw
  have HSR := Lib.hid sr
  clear ha hb hw sa sb sw sr hW
  have e0 := HF0.out.ba.cell 0
  have e1 := HF0.out.ba.cell 1
  have e2 := HF0.out.ba.cell 2
  have e3 := HF0.out.ba.cell 3
  have g0 := HF0.out.bb.cell 0
  have g1 := HF0.out.bb.cell 1
  have g2 := HF0.out.bb.cell 2
  have g3 := HF0.out.bb.cell 3
  simp only [macC] at e0 e1 e2 e3 g0 g1 g2 g3
  go_enter Try.func3, Try.ntmps3
  go_wp2_with fail
  clear e0 e1 e2 e3 g0 g1 g2 g3
  refine (small_any (HM.out.keep0 HF0.out.fr) HS.out).mono ?_
  rintro _ w1 ⟨rfl, f1⟩
  have HF1 := Lib.hid (HF0.out.call f1)
  clear f1 HF0
  rcases hsm with hsa | ⟨hsa, hsb⟩
  · rw [hsa]
    clear hsa
    go_wp2_with fail
    refine (awake_any _).mono ?_
    rintro _ w2 ⟨rfl, f2⟩
    have HF2 := Lib.hid (HF1.out.call f2)
    clear f2 HF1
    go_wp2_with fail
    go_ret
    exact ⟨rfl, HF2.out.fr⟩
  rw [hsa]
  clear hsa
  have e0 := HF1.out.ba.cell 0
  have e1 := HF1.out.ba.cell 1
  have e2 := HF1.out.ba.cell 2
  have e3 := HF1.out.ba.cell 3
  have g0 := HF1.out.bb.cell 0
  have g1 := HF1.out.bb.cell 1
  have g2 := HF1.out.bb.cell 2
  have g3 := HF1.out.bb.cell 3
  simp only [macC] at e0 e1 e2 e3 g0 g1 g2 g3
  go_wp2_with fail
  clear e0 e1 e2 e3 g0 g1 g2 g3
  refine (small_any (HM'.out.keep0 HF1.out.fr) HS'.out).mono ?_
  rintro _ w2 ⟨rfl, f2⟩
  have HF2 := Lib.hid (HF1.out.call f2)
  clear f2 HF1
  rw [hsb]
  clear hsb
  go_wp2_with fail
  refine (awake_any _).mono ?_
  rintro _ w3 ⟨rfl, f3⟩
  have HF3 := Lib.hid (HF2.out.call f3)
  clear f3 HF2
  go_wp2_with fail
  go_ret
  exact ⟨rfl, HF3.out.fr⟩
set_option maxRecDepth 100000 in
set_option maxHeartbeats 16000000 in
theorem shown_no {w : World} {P Q S : Nat → Prop} {va vb vw : Value} {a b : A.Mac} {ws : List (List Int)} (ha : MachAt w P va a) (hb : MachAt w Q vb b) (hw : Rows2 w S vw ws) (sa : Sized a) (sb : Sized b) (sw : ws.length ≤ maxLen) (sr : ∀ r ∈ ws, r.length ≤ maxLen) (hsa : A.small a = true) (hsb : A.small b = true) {c : Int} (hf : A.fit a b = c) (hf' : A.fit b a = c) (hc : c = 1 ∨ c = 4) :
    Calls Try.prog 3 #[va, vb, vw] w fun e w' => e = .returned (.bool true) ∧ Frm (fun _ => False) w w' := by
  have HX := Lib.hid hsa
  have HX' := Lib.hid hsb
  have HFT := Lib.hid hf
  have HFT' := Lib.hid hf'
  have HC0 := Lib.hid (show c ≠ 0 by omega)
  clear hsa hsb hf hf'
  obtain ⟨A1, c1, A2, c2, rfl⟩ := ha.form
  obtain ⟨B1, d1, B2, d2, rfl⟩ := hb.form
  obtain ⟨AW, cw, rfl, hW⟩ := id hw
  have HWE := Lib.hid hW
  have HF0 : Hid (Bx w _ (macC a A1 c1 A2 c2) (macC b B1 d1 B2 d2)) := Bx.new w _ _
  have HM := Lib.hid ha
  have HM' := Lib.hid hb
  have HW := Lib.hid hw
  have HS := Lib.hid sa
  have HS' := Lib.hid sb
  have HSW := Lib.hid sw
  have HSR := Lib.hid sr
  clear ha hb hw sa sb sw sr hW
  have e0 := HF0.out.ba.cell 0
  have e1 := HF0.out.ba.cell 1
  have e2 := HF0.out.ba.cell 2
  have e3 := HF0.out.ba.cell 3
  have g0 := HF0.out.bb.cell 0
  have g1 := HF0.out.bb.cell 1
  have g2 := HF0.out.bb.cell 2
  have g3 := HF0.out.bb.cell 3
  simp only [macC] at e0 e1 e2 e3 g0 g1 g2 g3
  go_enter Try.func3, Try.ntmps3
  go_wp2_with fail
  clear e0 e1 e2 e3 g0 g1 g2 g3
  refine (small_any (HM.out.keep0 HF0.out.fr) HS.out).mono ?_
  rintro _ w1 ⟨rfl, f1⟩
  have HF1 := Lib.hid (HF0.out.call f1)
  clear f1 HF0
  rw [HX.out]
  have e0 := HF1.out.ba.cell 0
  have e1 := HF1.out.ba.cell 1
  have e2 := HF1.out.ba.cell 2
  have e3 := HF1.out.ba.cell 3
  have g0 := HF1.out.bb.cell 0
  have g1 := HF1.out.bb.cell 1
  have g2 := HF1.out.bb.cell 2
  have g3 := HF1.out.bb.cell 3
  simp only [macC] at e0 e1 e2 e3 g0 g1 g2 g3
  go_wp2_with fail
  clear e0 e1 e2 e3 g0 g1 g2 g3
  refine (small_any (HM'.out.keep0 HF1.out.fr) HS'.out).mono ?_
  rintro _ w2 ⟨rfl, f2⟩
  have HF2 := Lib.hid (HF1.out.call f2)
  clear f2 HF1
  rw [HX'.out]
  have e0 := HF2.out.ba.cell 0
  have e1 := HF2.out.ba.cell 1
  have e2 := HF2.out.ba.cell 2
  have e3 := HF2.out.ba.cell 3
  have g0 := HF2.out.bb.cell 0
  have g1 := HF2.out.bb.cell 1
  have g2 := HF2.out.bb.cell 2
  have g3 := HF2.out.bb.cell 3
  simp only [macC] at e0 e1 e2 e3 g0 g1 g2 g3
  go_wp2_with fail
  clear e0 e1 e2 e3 g0 g1 g2 g3
  refine (differ_no (HM.out.keep0 HF2.out.fr) (HM'.out.keep0 HF2.out.fr) HS.out HS'.out HFT.out HC0.out).mono ?_
  rintro _ w3 ⟨rfl, f3⟩
  have HF3 := Lib.hid (HF2.out.call f3)
  clear f3 HF2
  have e0 := HF3.out.ba.cell 0
  have e1 := HF3.out.ba.cell 1
  have e2 := HF3.out.ba.cell 2
  have e3 := HF3.out.ba.cell 3
  have g0 := HF3.out.bb.cell 0
  have g1 := HF3.out.bb.cell 1
  have g2 := HF3.out.bb.cell 2
  have g3 := HF3.out.bb.cell 3
  simp only [macC] at e0 e1 e2 e3 g0 g1 g2 g3
  go_wp2_with fail
  clear e0 e1 e2 e3 g0 g1 g2 g3
  refine (differ_no (HM'.out.keep0 HF3.out.fr) (HM.out.keep0 HF3.out.fr) HS'.out HS.out HFT'.out HC0.out).mono ?_
  rintro _ w4 ⟨rfl, f4⟩
  have HF4 := Lib.hid (HF3.out.call f4)
  clear f4 HF3
  have e0 := HF4.out.ba.cell 0
  have e1 := HF4.out.ba.cell 1
  have e2 := HF4.out.ba.cell 2
  have e3 := HF4.out.ba.cell 3
  have g0 := HF4.out.bb.cell 0
  have g1 := HF4.out.bb.cell 1
  have g2 := HF4.out.bb.cell 2
  have g3 := HF4.out.bb.cell 3
  simp only [macC] at e0 e1 e2 e3 g0 g1 g2 g3
  go_wp2_with fail
  clear e0 e1 e2 e3 g0 g1 g2 g3
  refine (relate_no (HM.out.keep0 HF4.out.fr) (HM'.out.keep0 HF4.out.fr) HS.out HS'.out (by rw [HFT.out]; exact HC0.out)).mono ?_
  rintro _ w5 ⟨rfl, f5⟩
  have HF5 := Lib.hid (HF4.out.call f5)
  rw [HFT.out]
  clear f5 HF4
  rcases hc with rfl | rfl
  · go_wp2_with fail
    refine (sameWord_same (ints_nil _ (fun _ => True)) (ints_nil _ (fun _ => True)) (by simp)).mono ?_
    rintro _ w6 ⟨rfl, f6⟩
    have HF6 := Lib.hid (HF5.out.call f6)
    clear f6 HF5
    go_wp2_with fail
    refine (awake_any _).mono ?_
    rintro _ w7 ⟨rfl, f7⟩
    have HF7 := Lib.hid (HF6.out.call f7)
    clear f7 HF6
    go_wp2_with fail
    go_ret
    exact ⟨rfl, HF7.out.fr⟩
  · go_wp2_with fail
    refine (sameWord_same (ints_nil _ (fun _ => True)) (ints_nil _ (fun _ => True)) (by simp)).mono ?_
    rintro _ w6 ⟨rfl, f6⟩
    have HF6 := Lib.hid (HF5.out.call f6)
    clear f6 HF5
    go_wp2_with fail
    refine (awake_any _).mono ?_
    rintro _ w7 ⟨rfl, f7⟩
    have HF7 := Lib.hid (HF6.out.call f7)
    clear f7 HF6
    go_wp2_with fail
    go_ret
    exact ⟨rfl, HF7.out.fr⟩
set_option maxRecDepth 100000 in
set_option maxHeartbeats 16000000 in
theorem shown_same {w : World} {P Q S : Nat → Prop} {va vb vw : Value} {a b : A.Mac} {ws : List (List Int)} (ha : MachAt w P va a) (hb : MachAt w Q vb b) (hw : Rows2 w S vw ws) (sa : Sized a) (sb : Sized b) (sw : ws.length ≤ maxLen) (sr : ∀ r ∈ ws, r.length ≤ maxLen) (hsa : A.small a = true) (hsb : A.small b = true) (hf : A.fit a b = 0) (hd : ¬ ∃ l, A.Dist a b l) :
    Calls Try.prog 3 #[va, vb, vw] w fun e w' => e = .returned (.bool true) ∧ Frm (fun _ => False) w w' := by
  have HX := Lib.hid hsa
  have HX' := Lib.hid hsb
  have HFT := Lib.hid hf
  have HFT' := Lib.hid (A.fit_swap hf)
  have HD := Lib.hid hd
  have HD' : Hid (¬ ∃ l, A.Dist b a l) := fun ⟨l, hl⟩ => hd ⟨l, A.dist_swap (A.fit_two hf).ll.symm hl⟩
  have HN := Lib.hid (A.small_room hsa hsb)
  have HSN : Hid (∀ w, A.accepts a w = A.accepts b w) := A.same_accepts (A.fit_two hf) (A.fit_valid hf).1 (A.fit_valid hf).2 hd
  clear hsa hsb hf hd
  obtain ⟨A1, c1, A2, c2, rfl⟩ := ha.form
  obtain ⟨B1, d1, B2, d2, rfl⟩ := hb.form
  obtain ⟨AW, cw, rfl, hW⟩ := id hw
  have HWE := Lib.hid hW
  have HF0 : Hid (Bx w _ (macC a A1 c1 A2 c2) (macC b B1 d1 B2 d2)) := Bx.new w _ _
  have HM := Lib.hid ha
  have HM' := Lib.hid hb
  have HW := Lib.hid hw
  have HS := Lib.hid sa
  have HS' := Lib.hid sb
  have HSW := Lib.hid sw
  have HSR := Lib.hid sr
  clear ha hb hw sa sb sw sr hW
  have e0 := HF0.out.ba.cell 0
  have e1 := HF0.out.ba.cell 1
  have e2 := HF0.out.ba.cell 2
  have e3 := HF0.out.ba.cell 3
  have g0 := HF0.out.bb.cell 0
  have g1 := HF0.out.bb.cell 1
  have g2 := HF0.out.bb.cell 2
  have g3 := HF0.out.bb.cell 3
  simp only [macC] at e0 e1 e2 e3 g0 g1 g2 g3
  go_enter Try.func3, Try.ntmps3
  go_wp2_with fail
  clear e0 e1 e2 e3 g0 g1 g2 g3
  refine (small_any (HM.out.keep0 HF0.out.fr) HS.out).mono ?_
  rintro _ w1 ⟨rfl, f1⟩
  have HF1 := Lib.hid (HF0.out.call f1)
  clear f1 HF0
  rw [HX.out]
  have e0 := HF1.out.ba.cell 0
  have e1 := HF1.out.ba.cell 1
  have e2 := HF1.out.ba.cell 2
  have e3 := HF1.out.ba.cell 3
  have g0 := HF1.out.bb.cell 0
  have g1 := HF1.out.bb.cell 1
  have g2 := HF1.out.bb.cell 2
  have g3 := HF1.out.bb.cell 3
  simp only [macC] at e0 e1 e2 e3 g0 g1 g2 g3
  go_wp2_with fail
  clear e0 e1 e2 e3 g0 g1 g2 g3
  refine (small_any (HM'.out.keep0 HF1.out.fr) HS'.out).mono ?_
  rintro _ w2 ⟨rfl, f2⟩
  have HF2 := Lib.hid (HF1.out.call f2)
  clear f2 HF1
  rw [HX'.out]
  have e0 := HF2.out.ba.cell 0
  have e1 := HF2.out.ba.cell 1
  have e2 := HF2.out.ba.cell 2
  have e3 := HF2.out.ba.cell 3
  have g0 := HF2.out.bb.cell 0
  have g1 := HF2.out.bb.cell 1
  have g2 := HF2.out.bb.cell 2
  have g3 := HF2.out.bb.cell 3
  simp only [macC] at e0 e1 e2 e3 g0 g1 g2 g3
  go_wp2_with fail
  clear e0 e1 e2 e3 g0 g1 g2 g3
  refine (differ_none (HM.out.keep0 HF2.out.fr) (HM'.out.keep0 HF2.out.fr) HS.out HS'.out HFT.out HD.out).mono ?_
  rintro _ w3 ⟨rfl, f3⟩
  have HF3 := Lib.hid (HF2.out.call f3)
  clear f3 HF2
  have e0 := HF3.out.ba.cell 0
  have e1 := HF3.out.ba.cell 1
  have e2 := HF3.out.ba.cell 2
  have e3 := HF3.out.ba.cell 3
  have g0 := HF3.out.bb.cell 0
  have g1 := HF3.out.bb.cell 1
  have g2 := HF3.out.bb.cell 2
  have g3 := HF3.out.bb.cell 3
  simp only [macC] at e0 e1 e2 e3 g0 g1 g2 g3
  go_wp2_with fail
  clear e0 e1 e2 e3 g0 g1 g2 g3
  refine (differ_none (HM'.out.keep0 HF3.out.fr) (HM.out.keep0 HF3.out.fr) HS'.out HS.out HFT'.out HD'.out).mono ?_
  rintro _ w4 ⟨rfl, f4⟩
  have HF4 := Lib.hid (HF3.out.call f4)
  clear f4 HF3
  have e0 := HF4.out.ba.cell 0
  have e1 := HF4.out.ba.cell 1
  have e2 := HF4.out.ba.cell 2
  have e3 := HF4.out.ba.cell 3
  have g0 := HF4.out.bb.cell 0
  have g1 := HF4.out.bb.cell 1
  have g2 := HF4.out.bb.cell 2
  have g3 := HF4.out.bb.cell 3
  simp only [macC] at e0 e1 e2 e3 g0 g1 g2 g3
  go_wp2_with fail
  clear e0 e1 e2 e3 g0 g1 g2 g3
  refine (relate_none (HM.out.keep0 HF4.out.fr) (HM'.out.keep0 HF4.out.fr) HS.out HS'.out HN.out HFT.out HD.out).mono ?_
  rintro _ w5 ⟨u5, l5, rfl, hp5, hc5, hl5, f5⟩
  have HF5 := Lib.hid (HF4.out.call f5)
  have HP5 := Lib.hid hp5
  have HC5 := Lib.hid hc5
  have HL5 := Lib.hid hl5
  clear hp5 hc5 hl5
  clear f5 HF4
  go_wp2_with fail
  refine (sameWord_same (ints_nil _ (fun _ => True)) (ints_nil _ (fun _ => True)) (by simp)).mono ?_
  rintro _ w6 ⟨rfl, f6⟩
  have HF6 := Lib.hid (HF5.out.call f6)
  have HP6 := Lib.hid (HP5.out.keep f6 fun _ _ => id)
  clear f6 HF5 HP5
  have e0 := HF6.out.ba.cell 0
  have e1 := HF6.out.ba.cell 1
  have e2 := HF6.out.ba.cell 2
  have e3 := HF6.out.ba.cell 3
  have g0 := HF6.out.bb.cell 0
  have g1 := HF6.out.bb.cell 1
  have g2 := HF6.out.bb.cell 2
  have g3 := HF6.out.bb.cell 3
  simp only [macC] at e0 e1 e2 e3 g0 g1 g2 g3
  go_wp2_with fail
  clear e0 e1 e2 e3 g0 g1 g2 g3
  refine (check_any (HM.out.keep0 HF6.out.fr) (HM'.out.keep0 HF6.out.fr) HP6.out HS.out HS'.out (by have := HL5.out; unfold maxLen; omega)).mono ?_
  rintro _ w7 ⟨rfl, f7⟩
  have HF7 := Lib.hid (HF6.out.call f7)
  rw [HC5.out]
  clear f7 HF6
  go_wp2_with fail
  go_loopg [20] (ws.length + 1) (fun n i wr => ∃ k : Nat, k ≤ ws.length ∧ n = ws.length + 1 - k ∧ i = .int .i64 (k : Int) ∧ Hid (Bx w wr (macC a A1 c1 A2 c2) (macC b B1 d1 B2 d2)))
  case atStart => exact ⟨0, Nat.zero_le _, rfl, rfl, by first | exact HF7 | exact HF7.out.drew⟩
  case round =>
    obtain ⟨k, hk, rfl, rfl, HF⟩ := hrel
    have hsw := HSW.out
    unfold maxLen at hsw
    by_cases hlt : k < ws.length
    · have hlt' : (k : Int) < (ws.length : Int) := by omega
      go_wp2_with fail
      obtain ⟨g, o, rv, rfl, _, hcw, hin⟩ := HWE.out k hlt
      have hcw := HF.out.fr.cell id hcw
      have HIN := Lib.hid hin
      have HLW := Lib.hid (HSR.out _ (List.getElem_mem hlt))
      clear hin
      refine wp_region_list [148, 149, 150, 151, 152, 153, 154, 155, 156, 157, 158, 159, 160] [vV (.agg #[.int .i64 a.letters, .int .i64 a.start, .slice A1 a.next.length c1, .slice A2 a.fin.length c2]), vV (.slice (some ⟨g, o, none⟩) ws.length cw), vV (.int .i64 (k : Int)), vV (.pointer (some ⟨g, o + k, none⟩)), vV rv, vV (.bool (A.accepts a ws[k])), vV (.agg #[.int .i64 b.letters, .int .i64 b.start, .slice B1 b.next.length d1, .slice B2 b.fin.length d2]), vV (.slice (some ⟨g, o, none⟩) ws.length cw), vV (.int .i64 (k : Int)), vV (.pointer (some ⟨g, o + k, none⟩)), vV rv, vV (.bool (A.accepts a ws[k])), vV (.bool false)] (Frm (fun _ => False)) [] [(3, .pointer (some ⟨w.heap.size, 0, none⟩)), (4, .pointer (some ⟨w.heap.size + 1, 0, none⟩)), (2, .slice (some ⟨g, o, none⟩) ws.length cw), (20, .int .i64 (k : Int))] (by kernel_rfl) (by kernel_rfl) (fun _ _ _ => Frm.trans) ?_ (fun _ h => by cases h) (Frm.refl _ _).drew ?_ ?_ ?_
      · intro f hf v w w' h F
        simp only [List.mem_cons, List.not_mem_nil, or_false] at hf
        rcases hf with rfl | rfl | rfl | rfl | rfl | rfl | rfl | rfl | rfl | rfl | rfl | rfl | rfl <;> exact h
      · intro x hx
        simp only [List.mem_cons, List.not_mem_nil, or_false] at hx
        rcases hx with rfl | rfl | rfl | rfl <;> exact ⟨by simp, rfl⟩
      · refine ⟨?_, ?_, ?_, ?_, ?_, ?_, ?_, ?_, ?_, ?_, ?_, ?_, ?_, trivial⟩
        · intro Q tm df V hR hu hd
          have u1 : tm[3]?.getD undef = .pointer (some ⟨w.heap.size, 0, none⟩) := hu (3, _) (by simp)
          have hb := hR.blk HF.out.ba id
          have y0 := hb.cell 0
          have y1 := hb.cell 1
          have y2 := hb.cell 2
          have y3 := hb.cell 3
          simp only [macC] at y0 y1 y2 y3
          clear hu hd hb
          go_simp
          exact ⟨_, rfl, rfl, Frm.refl _ V⟩
        · intro Q tm df V hR hu hd
          have u1 : tm[2]?.getD undef = .slice (some ⟨g, o, none⟩) ws.length cw := hu (2, _) (by simp)
          clear hu hd
          go_simp
          exact ⟨_, rfl, rfl, Frm.refl _ V⟩
        · intro Q tm df V hR hu hd
          have u1 : tm[20]?.getD undef = .int .i64 (k : Int) := hu (20, _) (by simp)
          clear hu hd
          go_simp
          exact ⟨_, rfl, rfl, Frm.refl _ V⟩
        · intro Q tm df V hR hu hd
          have e0 : tm[149]?.getD undef = .slice (some ⟨g, o, none⟩) ws.length cw := hd 1 (by simp)
          have e1 : tm[150]?.getD undef = .int .i64 (k : Int) := hd 2 (by simp)
          clear hu hd
          go_simp
          exact ⟨_, rfl, rfl, Frm.refl _ V⟩
        · intro Q tm df V hR hu hd
          have e0 : tm[151]?.getD undef = .pointer (some ⟨g, o + k, none⟩) := hd 3 (by simp)
          have y0 := hR.cell id hcw
          clear hu hd
          go_simp
          exact ⟨_, rfl, rfl, Frm.refl _ V⟩
        · intro Q tm df V hR hu hd
          have e0 : tm[148]?.getD undef = .agg #[.int .i64 a.letters, .int .i64 a.start, .slice A1 a.next.length c1, .slice A2 a.fin.length c2] := hd 0 (by simp)
          have e1 : tm[152]?.getD undef = rv := hd 4 (by simp)
          clear hu hd
          go_simp
          refine (accepts_any (HM.out.keep0 (HF.out.fr.trans hR)) HS.out (HIN.out.keep (HF.out.fr.trans hR) fun _ _ => id) HLW.out).mono ?_
          rintro e w' ⟨rfl, f⟩
          exact ⟨_, rfl, rfl, f⟩
        · intro Q tm df V hR hu hd
          have u1 : tm[4]?.getD undef = .pointer (some ⟨w.heap.size + 1, 0, none⟩) := hu (4, _) (by simp)
          have hb := hR.blk HF.out.bb id
          have y0 := hb.cell 0
          have y1 := hb.cell 1
          have y2 := hb.cell 2
          have y3 := hb.cell 3
          simp only [macC] at y0 y1 y2 y3
          clear hu hd hb
          go_simp
          exact ⟨_, rfl, rfl, Frm.refl _ V⟩
        · intro Q tm df V hR hu hd
          have u1 : tm[2]?.getD undef = .slice (some ⟨g, o, none⟩) ws.length cw := hu (2, _) (by simp)
          clear hu hd
          go_simp
          exact ⟨_, rfl, rfl, Frm.refl _ V⟩
        · intro Q tm df V hR hu hd
          have u1 : tm[20]?.getD undef = .int .i64 (k : Int) := hu (20, _) (by simp)
          clear hu hd
          go_simp
          exact ⟨_, rfl, rfl, Frm.refl _ V⟩
        · intro Q tm df V hR hu hd
          have e0 : tm[155]?.getD undef = .slice (some ⟨g, o, none⟩) ws.length cw := hd 7 (by simp)
          have e1 : tm[156]?.getD undef = .int .i64 (k : Int) := hd 8 (by simp)
          clear hu hd
          go_simp
          exact ⟨_, rfl, rfl, Frm.refl _ V⟩
        · intro Q tm df V hR hu hd
          have e0 : tm[157]?.getD undef = .pointer (some ⟨g, o + k, none⟩) := hd 9 (by simp)
          have y0 := hR.cell id hcw
          clear hu hd
          go_simp
          exact ⟨_, rfl, rfl, Frm.refl _ V⟩
        · intro Q tm df V hR hu hd
          have e0 : tm[154]?.getD undef = .agg #[.int .i64 b.letters, .int .i64 b.start, .slice B1 b.next.length d1, .slice B2 b.fin.length d2] := hd 6 (by simp)
          have e1 : tm[158]?.getD undef = rv := hd 10 (by simp)
          clear hu hd
          go_simp
          refine (accepts_any (HM'.out.keep0 (HF.out.fr.trans hR)) HS'.out (HIN.out.keep (HF.out.fr.trans hR) fun _ _ => id) HLW.out).mono ?_
          rintro e w' ⟨rfl, f⟩
          rw [← HSN.out]
          exact ⟨_, rfl, rfl, f⟩
        · intro Q tm df V hR hu hd
          have e0 : tm[153]?.getD undef = .bool (A.accepts a ws[k]) := hd 5 (by simp)
          have e1 : tm[159]?.getD undef = .bool (A.accepts a ws[k]) := hd 11 (by simp)
          clear hu hd
          go_simp
          exact ⟨_, rfl, by simp [vV], Frm.refl _ V⟩
      · intro vs V hR hf
        have e12 : vs 12 = .bool false := hf 12 (by decide)
        clear hf
        simp only [putAll, List.size_toArray, List.length_cons, List.length_nil, Nat.zero_add, Nat.reduceAdd, show List.range 13 = [0, 1, 2, 3, 4, 5, 6, 7, 8, 9, 10, 11, 12] from rfl, List.foldl_cons, List.foldl_nil, List.getD_cons_zero, List.getD_cons_succ, List.setIfInBounds_toArray, List.set_cons_zero, List.set_cons_succ, e12]
        go_wp2_with fail
        go_roundg (ws.length + 1 - (k + 1))
        case measure => omega
        case rel => exact ⟨k + 1, by omega, rfl, by go_num, Lib.hid (HF.out.call hR)⟩
    · have hlt' : ¬ (k : Int) < (ws.length : Int) := by omega
      go_wp2_with fail
      refine (awake_any _).mono ?_
      rintro _ w8 ⟨rfl, f8⟩
      have HF8 := Lib.hid (HF.out.call f8)
      clear f8
      go_wp2_with fail
      go_ret
      exact ⟨rfl, HF8.out.fr⟩
set_option maxRecDepth 100000 in
set_option maxHeartbeats 16000000 in
theorem shown_apart {w : World} {P Q S : Nat → Prop} {va vb vw : Value} {a b : A.Mac} {ws : List (List Int)} (ha : MachAt w P va a) (hb : MachAt w Q vb b) (hw : Rows2 w S vw ws) (sa : Sized a) (sb : Sized b) (sw : ws.length ≤ maxLen) (sr : ∀ r ∈ ws, r.length ≤ maxLen) (hsa : A.small a = true) (hsb : A.small b = true) (hf : A.fit a b = 0) {l : List Int} (hl : A.Least0 a b l) (fi : Bool) (hfi : A.ends a (A.runP a b (a.start, b.start) l).1 = fi) (hfi' : A.ends b (A.runP b a (b.start, a.start) l).1 = !fi) :
    Calls Try.prog 3 #[va, vb, vw] w fun e w' => e = .returned (.bool true) ∧ Frm (fun _ => False) w w' := by
  have ht := A.fit_two hf
  obtain ⟨va, vb⟩ := A.fit_valid hf
  have HX := Lib.hid hsa
  have HX' := Lib.hid hsb
  have HFT := Lib.hid hf
  have HFT' := Lib.hid (A.fit_swap hf)
  have HL := Lib.hid hl
  have HL' := Lib.hid (A.least_swap ht.ll hl)
  have HN := Lib.hid (A.small_room hsa hsb)
  have HFI := Lib.hid hfi
  have HFI' := Lib.hid hfi'
  have HAC : Hid (A.accepts a l = fi ∧ A.accepts b l = !fi) := by rw [← hfi]; exact A.least_one ht va vb hl
  have HLL : Hid (l.length ≤ 62) := show _ ≤ _ by have := A.least_len ht hl; have := A.small_len hsa; have := A.small_len hsb; omega
  have HCN : Hid (∀ n : Nat, n < l.length → A.count a n = A.count b n ∧ (A.count a n).2 = 0) := fun n hn => by
    have h1 := HLL.out
    exact ⟨A.count_eq ht va vb hl hn (by omega), by rw [A.count_val va (by omega)]⟩
  clear hsa hsb hf hl hfi hfi' ht va vb
  obtain ⟨A1, c1, A2, c2, rfl⟩ := ha.form
  obtain ⟨B1, d1, B2, d2, rfl⟩ := hb.form
  obtain ⟨AW, cw, rfl, hW⟩ := id hw
  have HWE := Lib.hid hW
  have HF0 : Hid (Bx w _ (macC a A1 c1 A2 c2) (macC b B1 d1 B2 d2)) := Bx.new w _ _
  have HM := Lib.hid ha
  have HM' := Lib.hid hb
  have HW := Lib.hid hw
  have HS := Lib.hid sa
  have HS' := Lib.hid sb
  have HSW := Lib.hid sw
  have HSR := Lib.hid sr
  clear ha hb hw sa sb sw sr hW
  have e0 := HF0.out.ba.cell 0
  have e1 := HF0.out.ba.cell 1
  have e2 := HF0.out.ba.cell 2
  have e3 := HF0.out.ba.cell 3
  have g0 := HF0.out.bb.cell 0
  have g1 := HF0.out.bb.cell 1
  have g2 := HF0.out.bb.cell 2
  have g3 := HF0.out.bb.cell 3
  simp only [macC] at e0 e1 e2 e3 g0 g1 g2 g3
  go_enter Try.func3, Try.ntmps3
  go_wp2_with fail
  clear e0 e1 e2 e3 g0 g1 g2 g3
  refine (small_any (HM.out.keep0 HF0.out.fr) HS.out).mono ?_
  rintro _ w1 ⟨rfl, f1⟩
  have HF1 := Lib.hid (HF0.out.call f1)
  clear f1 HF0
  rw [HX.out]
  have e0 := HF1.out.ba.cell 0
  have e1 := HF1.out.ba.cell 1
  have e2 := HF1.out.ba.cell 2
  have e3 := HF1.out.ba.cell 3
  have g0 := HF1.out.bb.cell 0
  have g1 := HF1.out.bb.cell 1
  have g2 := HF1.out.bb.cell 2
  have g3 := HF1.out.bb.cell 3
  simp only [macC] at e0 e1 e2 e3 g0 g1 g2 g3
  go_wp2_with fail
  clear e0 e1 e2 e3 g0 g1 g2 g3
  refine (small_any (HM'.out.keep0 HF1.out.fr) HS'.out).mono ?_
  rintro _ w2 ⟨rfl, f2⟩
  have HF2 := Lib.hid (HF1.out.call f2)
  clear f2 HF1
  rw [HX'.out]
  have e0 := HF2.out.ba.cell 0
  have e1 := HF2.out.ba.cell 1
  have e2 := HF2.out.ba.cell 2
  have e3 := HF2.out.ba.cell 3
  have g0 := HF2.out.bb.cell 0
  have g1 := HF2.out.bb.cell 1
  have g2 := HF2.out.bb.cell 2
  have g3 := HF2.out.bb.cell 3
  simp only [macC] at e0 e1 e2 e3 g0 g1 g2 g3
  go_wp2_with fail
  clear e0 e1 e2 e3 g0 g1 g2 g3
  refine (differ_some (HM.out.keep0 HF2.out.fr) (HM'.out.keep0 HF2.out.fr) HS.out HS'.out HFT.out HL.out).mono ?_
  rintro _ w3 ⟨u3, rfl, hi3, f3⟩
  have HF3 := Lib.hid (HF2.out.call f3)
  rw [HFI.out]
  have HI3 := Lib.hid hi3
  clear hi3
  clear f3 HF2
  have e0 := HF3.out.ba.cell 0
  have e1 := HF3.out.ba.cell 1
  have e2 := HF3.out.ba.cell 2
  have e3 := HF3.out.ba.cell 3
  have g0 := HF3.out.bb.cell 0
  have g1 := HF3.out.bb.cell 1
  have g2 := HF3.out.bb.cell 2
  have g3 := HF3.out.bb.cell 3
  simp only [macC] at e0 e1 e2 e3 g0 g1 g2 g3
  go_wp2_with fail
  clear e0 e1 e2 e3 g0 g1 g2 g3
  refine (differ_some (HM'.out.keep0 HF3.out.fr) (HM.out.keep0 HF3.out.fr) HS'.out HS.out HFT'.out HL'.out).mono ?_
  rintro _ w4 ⟨u4, rfl, hi4, f4⟩
  have HF4 := Lib.hid (HF3.out.call f4)
  rw [HFI'.out]
  have HI4 := Lib.hid hi4
  have HJ4 := Lib.hid (HI3.out.keep f4 fun _ _ => id)
  clear hi4 HI3
  clear f4 HF3
  have e0 := HF4.out.ba.cell 0
  have e1 := HF4.out.ba.cell 1
  have e2 := HF4.out.ba.cell 2
  have e3 := HF4.out.ba.cell 3
  have g0 := HF4.out.bb.cell 0
  have g1 := HF4.out.bb.cell 1
  have g2 := HF4.out.bb.cell 2
  have g3 := HF4.out.bb.cell 3
  simp only [macC] at e0 e1 e2 e3 g0 g1 g2 g3
  go_wp2_with fail
  clear e0 e1 e2 e3 g0 g1 g2 g3
  refine (relate_some (HM.out.keep0 HF4.out.fr) (HM'.out.keep0 HF4.out.fr) HS.out HS'.out HN.out HFT.out HL.out).mono ?_
  rintro _ w5 ⟨u5, rfl, f5⟩
  have HF5 := Lib.hid (HF4.out.call f5)
  have HI5 := Lib.hid (HI4.out.keep f5 fun _ _ => id)
  have HJ5 := Lib.hid (HJ4.out.keep f5 fun _ _ => id)
  clear HI4 HJ4
  clear f5 HF4
  obtain ⟨AU, cu, rfl, hU⟩ := id HJ5.out
  clear hU
  go_wp2_with fail
  refine (sameWord_same HI5.out HJ5.out (by have := HLL.out; unfold maxLen; omega)).mono ?_
  rintro _ w6 ⟨rfl, f6⟩
  have HF6 := Lib.hid (HF5.out.call f6)
  have HJ6 := Lib.hid (HJ5.out.keep f6 fun _ _ => id)
  clear f6 HF5 HI5 HJ5
  have hml : l.length ≤ maxLen := by have := HLL.out; unfold maxLen; omega
  have hll := HLL.out
  cases fi
  all_goals
    have e0 := HF6.out.ba.cell 0
    have e1 := HF6.out.ba.cell 1
    have e2 := HF6.out.ba.cell 2
    have e3 := HF6.out.ba.cell 3
    have g0 := HF6.out.bb.cell 0
    have g1 := HF6.out.bb.cell 1
    have g2 := HF6.out.bb.cell 2
    have g3 := HF6.out.bb.cell 3
    simp only [macC] at e0 e1 e2 e3 g0 g1 g2 g3
    go_wp2_with fail
    clear e0 e1 e2 e3 g0 g1 g2 g3
    refine (accepts_any (HM.out.keep0 HF6.out.fr) HS.out HJ6.out hml).mono ?_
    rintro _ w7 ⟨rfl, f7⟩
    have HF7 := Lib.hid (HF6.out.call f7)
    have HJ7 := Lib.hid (HJ6.out.keep f7 fun _ _ => id)
    rw [HAC.out.1]
    clear f7 HF6 HJ6
    have e0 := HF7.out.ba.cell 0
    have e1 := HF7.out.ba.cell 1
    have e2 := HF7.out.ba.cell 2
    have e3 := HF7.out.ba.cell 3
    have g0 := HF7.out.bb.cell 0
    have g1 := HF7.out.bb.cell 1
    have g2 := HF7.out.bb.cell 2
    have g3 := HF7.out.bb.cell 3
    simp only [macC] at e0 e1 e2 e3 g0 g1 g2 g3
    go_wp2_with fail
    clear e0 e1 e2 e3 g0 g1 g2 g3
    refine (accepts_any (HM'.out.keep0 HF7.out.fr) HS'.out HJ7.out hml).mono ?_
    rintro _ w8 ⟨rfl, f8⟩
    have HF8 := Lib.hid (HF7.out.call f8)
    rw [HAC.out.2]
    clear f8 HF7 HJ7
    go_wp2_with fail
    go_loopg [15, 16, 17, 18, 19] (l.length + 1) (fun n i y16 y17 y18 y19 wr => ∃ k : Nat, k ≤ l.length ∧ n = l.length + 1 - k ∧ i = .int .i64 (k : Int) ∧ Hid (Bx w wr (macC a A1 c1 A2 c2) (macC b B1 d1 B2 d2)))
    case atStart => exact ⟨0, Nat.zero_le _, rfl, rfl, by first | exact HF8 | exact HF8.out.drew⟩
    case round =>
      obtain ⟨k, hk, rfl, rfl, HF⟩ := hrel
      by_cases hlt : k < l.length
      · have hlt' : (k : Int) < (l.length : Int) := by omega
        have e0 := HF.out.ba.cell 0
        have e1 := HF.out.ba.cell 1
        have e2 := HF.out.ba.cell 2
        have e3 := HF.out.ba.cell 3
        have g0 := HF.out.bb.cell 0
        have g1 := HF.out.bb.cell 1
        have g2 := HF.out.bb.cell 2
        have g3 := HF.out.bb.cell 3
        simp only [macC] at e0 e1 e2 e3 g0 g1 g2 g3
        go_wp2_with fail
        clear e0 e1 e2 e3 g0 g1 g2 g3
        refine (count_any (n := (k : Int)) (HM.out.keep0 HF.out.fr) HS.out).mono ?_
        rintro _ w9 ⟨rfl, f9⟩
        have HF9 := Lib.hid (HF.out.call f9)
        clear f9 HF
        rw [(HCN.out k hlt).2]
        have e0 := HF9.out.ba.cell 0
        have e1 := HF9.out.ba.cell 1
        have e2 := HF9.out.ba.cell 2
        have e3 := HF9.out.ba.cell 3
        have g0 := HF9.out.bb.cell 0
        have g1 := HF9.out.bb.cell 1
        have g2 := HF9.out.bb.cell 2
        have g3 := HF9.out.bb.cell 3
        simp only [macC] at e0 e1 e2 e3 g0 g1 g2 g3
        go_wp2_with fail
        clear e0 e1 e2 e3 g0 g1 g2 g3
        refine (count_any (n := (k : Int)) (HM'.out.keep0 HF9.out.fr) HS'.out).mono ?_
        rintro _ w10 ⟨rfl, f10⟩
        have HF10 := Lib.hid (HF9.out.call f10)
        clear f10 HF9
        rw [← (HCN.out k hlt).1, (HCN.out k hlt).2]
        generalize (A.count a (k : Int)).1 = cn
        have hcn : (cn != cn) = false := by simp
        go_wp2_with fail
        go_roundg (l.length + 1 - (k + 1))
        case measure => omega
        case rel => exact ⟨k + 1, by omega, rfl, by go_num, HF10⟩
      · have hlt' : ¬ (k : Int) < (l.length : Int) := by omega
        go_wp2_with fail
        refine (awake_any _).mono ?_
        rintro _ w9 ⟨rfl, f9⟩
        have HF9 := Lib.hid (HF.out.call f9)
        clear f9
        go_wp2_with fail
        go_ret
        exact ⟨rfl, HF9.out.fr⟩
theorem shown_law {w : World} {P Q S : Nat → Prop} {va vb vw : Value} {a b : A.Mac} {ws : List (List Int)} (ha : MachAt w P va a) (hb : MachAt w Q vb b) (hw : Rows2 w S vw ws) (sa : Sized a) (sb : Sized b) (sw : ws.length ≤ maxLen) (sr : ∀ r ∈ ws, r.length ≤ maxLen) :
    Calls Try.prog 3 #[va, vb, vw] w fun e w' => e = .returned (.bool true) ∧ Frm (fun _ => False) w w' := by
  rcases hsa : A.small a with _ | _
  · exact shown_big ha hb hw sa sb sw sr (.inl hsa)
  rcases hsb : A.small b with _ | _
  · exact shown_big ha hb hw sa sb sw sr (.inr ⟨hsa, hsb⟩)
  by_cases hf : A.fit a b = 0
  · by_cases hd : ∃ l, A.Dist a b l
    · obtain ⟨l, hl⟩ := A.least_dist hd
      have ht := A.fit_two hf
      refine shown_apart ha hb hw sa sb sw sr hsa hsb hf hl _ rfl ?_
      have h1 := hl.1.2
      rw [A.runP_run] at h1 ⊢
      rw [A.runP_run]
      simp only [A.agree] at h1
      dsimp only
      revert h1
      rcases A.ends a (A.runS a a.start l) <;> rcases A.ends b (A.runS b b.start l) <;> simp
    · exact shown_same ha hb hw sa sb sw sr hsa hsb hf hd
  · rcases A.fit_cases hf with ⟨h1, h2⟩ | ⟨h1, h2⟩
    · exact shown_no ha hb hw sa sb sw sr hsa hsb h1 h2 (.inl rfl)
    · exact shown_no ha hb hw sa sb sw sr hsa hsb h1 h2 (.inr rfl)
end Go.Proofs.Ytmfjadhnbaikkaa
end
section
namespace Go.Proofs.Ytmfjadhnbaikkaa.ShownP
open Go.ChangeShapes Go.WideShapes Go.ChangeAt Go.RowKit
theorem own : ownKnob Try.prog.godebug = none := by kernel_rfl
theorem laidOut : laidOutB Try.prog = true := by kernel_rfl
theorem kept {w w' : World} (h : Frm (fun _ => False) w w') (may : MemPlace → Prop) : w.keptBut w' may := by
  refine ⟨h.3.1, h.3.2, fun i hi => ?_⟩
  rw [h.2 i hi id]
  split <;> simp_all
/-- An argument reads behind the call as it did. -/
theorem stays {H : Type} {enc : TypeId × Value → H} {t : TypeId} (hr : Try.prog.readableRec t = true) (hrow : t < Try.prog.types.size) {W W' : World} {v : Value} {d : DataW H} {ps : List MemPlace}
    (h : DataW.Trod enc Try.prog W 0 (fun _ => true) true t v d ps) (F : Frm (fun _ => False) W W') (hlt : ∀ x ∈ ps, x.block < W.heap.size) : DataW.Trod enc Try.prog W' 0 (fun b => decide (b < W.heap.size)) true t v d ps :=
  WideElems.Trod_stays laidOut hr hrow h (fun x hx => by
    have h1 := F.2 x.block (hlt x hx) id
    cases x with
    | cell b off => exact World.cell?_of_block (w := W) (w' := W') (a := ⟨b, off, none⟩) h1
    | map b => exact h1) fun x hx => by simpa using hlt x hx
set_option maxRecDepth 100000 in
theorem lifted (os : Os) (started : os.Started) (H : Type) (enc : TypeId × Value → H) :
    ReturnsInHanded {} Try.checked os 3 .any (Rows.autoShownSpec.pre6 enc Try.prog Try.f3 Rows.autoShownRow.domain false) (Rows.autoShownSpec.post enc Try.prog Try.f3 false true false false) := by
  refine returnsInHanded_of_change (C := Try.checked) own started (by kernel_rfl) Try.func3
    (ChangeSpec.witness6 (enc := enc) (C := Try.checked) false ⟨#[], #[.agg #[.int .i64 0, .int .i64 0, .slice none 0 0, .slice none 0 0], .agg #[.int .i64 0, .int .i64 0, .slice none 0 0, .slice none 0 0], .slice none 0 0], []⟩ 8 (by kernel_rfl) (by kernel_rfl) (by kernel_rfl) (by kernel_rfl)) ?_
  intro W base args ds gs before hval0 hW hcnd _
  have hval : ∀ (j : Nat) t v, Try.f3.params[j]? = some t → args[j]? = some v → Value.okWide Try.prog W .any base t v := hval0
  have hW' := hW
  obtain ⟨p, q, hA0, hV, rfl, hfz, hnd⟩ := hW
  have hA : DataW.TrodAll enc Try.prog W 0 (fun _ => true) true Try.f3.params.toList args.toList ds p := hA0
  rw [Try.params3] at hA hval
  obtain ⟨v0, vs0, d0, ds0, p0, q0, hargs, rfl, rfl, h0, r0⟩ := trodAll_cons hA
  obtain ⟨v1, vs1, d1, ds1, p1, q1, rfl, rfl, rfl, h1, r1⟩ := trodAll_cons r0
  obtain ⟨v2, vs2, d2, ds2, p2, q2, rfl, rfl, rfl, h2, r2⟩ := trodAll_cons r1
  obtain ⟨rfl, rfl, rfl⟩ := trodAll_nil r2
  obtain rfl : args = #[v0, v1, v2] := by cases args; simp_all
  obtain ⟨rfl, rfl⟩ := trodVars_none hV
  clear hA0 hval0
  simp only [List.append_nil] at hW'
  have hlt : ∀ x ∈ p0 ++ (p1 ++ p2), x.block < W.heap.size := fun x hx => hW'.lt x (by simpa using hx)
  obtain ⟨a, ma, sa, _⟩ := mach_of (hval 0 25 v0 rfl rfl) h0
  obtain ⟨b, mb, sb, _⟩ := mach_of (hval 1 25 v1 rfl rfl) h1
  obtain ⟨ws, hw, sw, sr⟩ : ∃ l, Rows2 W (fun _ => True) v2 l ∧ l.length ≤ maxLen ∧ ∀ r ∈ l, r.length ≤ maxLen := by
    obtain ⟨A3, n3, c3, rfl⟩ := okWide_slice Try.underlying22 (hval 2 22 v2 rfl rfl)
    obtain ⟨f3, hf3⟩ := h2
    exact rows_of hf3
  refine (shown_law ma mb hw sa sb sw sr).mono fun e W' ⟨he, F⟩ => ?_
  subst he
  exact ⟨_, rfl, _, _, _, _, _, _, hW', trodAll_cons_mk (shut_bool Try.underlying4 _) trodAll_mk0, trodAll_cons_mk (stays (by kernel_rfl) (of_decide_eq_true (by kernel_rfl)) h0 F fun x hx => hlt x (by simp [hx])) (trodAll_cons_mk (stays (by kernel_rfl) (of_decide_eq_true (by kernel_rfl)) h1 F fun x hx => hlt x (by simp [hx])) (trodAll_cons_mk (stays (by kernel_rfl) (of_decide_eq_true (by kernel_rfl)) h2 F fun x hx => hlt x (by simp [hx])) trodAll_mk0)), rfl, kept F _, fun h => by cases h⟩
theorem proved : Rows.AutoShownSaid :=
  OpenClaim.holds_of_wide 3 Try.f3 rfl rfl rfl rfl rfl rfl rfl ⟨rfl, rfl, rfl, rfl, rfl⟩ rfl rfl rfl rfl rfl (by kernel_rfl) Try.func3 (by kernel_rfl)
    (of_decide_eq_true (by kernel_rfl)) (by unfold Func.isWrapper; first | (rw [if_pos (by decide +kernel)]; kernel_rfl) | (rw [if_neg (by decide +kernel)]; exact ⟨rfl, rfl⟩))
    (fun os started H enc _ => lifted os started H enc)
end Go.Proofs.Ytmfjadhnbaikkaa.ShownP
namespace Go.Proofs.Ytmfjadhnbaikkaa
/-- AutoShown. -/
theorem autoShown_holds : Rows.AutoShownSaid := ShownP.proved
end Go.Proofs.Ytmfjadhnbaikkaa
end
