/- Contracts of slices.Clone at the element types of package lang. The contract of node at a proc; and of node at any term. The contract of measure. Contracts of the program's functions, with no condition beyond what each theorem states. -/
import Derived.Test.YtpdbkdcdlafobaaGreatDoorC07
import Derived.Lib.BufferMore
section
namespace Go.Proofs.YtpdbkdcdlafobaaGreatDoor
open Go.RowKit
set_option maxHeartbeats 1000000 in
theorem clone_param (v : Value) (n : Nat) (xs : List Value) (w : World) (ho : w.ownsRow 0 49 2 v n xs) (hn : n ≤ 1000000000) (h1 : ∀ u ∈ xs, u.oneCell' = true) :
    Calls Tryz.prog 195 #[v] w fun e w' => ∃ v', e = .returned v' ∧ w'.ownsRow w.heap.size 49 2 v' n xs ∧ Frm (fun _ => False) w w' := by
  rcases ho.2 with ⟨rfl, rfl⟩ | ⟨g, cap, cur, rfl, _, hg, hc, _⟩
  · have hq := fun W => Lib.run_eql_slice_nil_nil (P := Tryz.prog) W 0 0 Tryz.underlying44
    have hx : xs = [] := List.eq_nil_of_length_eq_zero (by simpa using ho.1)
    subst hx
    go_enter Tryz.func195, Tryz.ntmps195
    go_wp2_with fail
    go_ret
    exact ⟨_, rfl, World.ownsRow_nil _ _ _ _, Frm.refl _ _⟩
  · have hcell := @World.ownsRow.cells _ _ _ _ _ _ _ ho g rfl
    have hq := fun W => Lib.run_eql_slice_some_nil (P := Tryz.prog) W ⟨g, 0, none⟩ n cap Tryz.underlying44
    have hown : (w.alloc (.cells #[] 49)).ownsRow w.heap.size 49 2 (.slice (some ⟨w.heap.size, 0, none⟩) 0 0) 0 [] :=
      ⟨rfl, .inr ⟨w.heap.size, 0, #[], rfl, Nat.le_refl _, Blk.new w _ _, Nat.le_refl _, by unfold maxLen; omega, rfl, rfl⟩⟩
    have hl := ho.1
    go_enter Tryz.func195, Tryz.ntmps195
    obtain ⟨i0, hi, hz0, hz1, hz2⟩ := info_parts info_param
    go_wp2_with (at_builtin; refine wpList_append_own _ rfl _ _ 44 rfl w.heap.size 49 i0 (.agg #[.string ⟨#[]⟩, .int .i64 0]) 2 24 Tryz.underlying44 hi hz0 hz1 hz2 rfl (by decide) _ _ _ rfl hown ⟨g, 0, none⟩ n cap xs rfl ?c0 ?c1 h1 ?c3 ?c4 ?c5 ?_)
    case c0 => exact hl
    case c1 => exact fun j u hu => ((Frm.refl (fun _ => False) w).alloc _).cell id (hcell j u hu)
    case c3 => unfold maxLen; omega
    case c4 => omega
    case c5 => simp
    intro v' w1 hown1 hgrow _
    have F := ((Frm.refl (fun _ => False) w).alloc (.cells #[] 49)).own hown hgrow
    go_wp2_with fail
    go_ret
    exact ⟨_, rfl, by simpa using hown1, F⟩
set_option maxHeartbeats 1000000 in
theorem clone_decl (v : Value) (n : Nat) (xs : List Value) (w : World) (ho : w.ownsRow 0 52 3 v n xs) (hn : n ≤ 1000000000) (h1 : ∀ u ∈ xs, u.oneCell' = true) :
    Calls Tryz.prog 60 #[v] w fun e w' => ∃ v', e = .returned v' ∧ w'.ownsRow w.heap.size 52 3 v' n xs ∧ Frm (fun _ => False) w w' := by
  rcases ho.2 with ⟨rfl, rfl⟩ | ⟨g, cap, cur, rfl, _, hg, hc, _⟩
  · have hq := fun W => Lib.run_eql_slice_nil_nil (P := Tryz.prog) W 0 0 Tryz.underlying31
    have hx : xs = [] := List.eq_nil_of_length_eq_zero (by simpa using ho.1)
    subst hx
    go_enter Tryz.func60, Tryz.ntmps60
    go_wp2_with fail
    go_ret
    exact ⟨_, rfl, World.ownsRow_nil _ _ _ _, Frm.refl _ _⟩
  · have hcell := @World.ownsRow.cells _ _ _ _ _ _ _ ho g rfl
    have hq := fun W => Lib.run_eql_slice_some_nil (P := Tryz.prog) W ⟨g, 0, none⟩ n cap Tryz.underlying31
    have hown : (w.alloc (.cells #[] 52)).ownsRow w.heap.size 52 3 (.slice (some ⟨w.heap.size, 0, none⟩) 0 0) 0 [] :=
      ⟨rfl, .inr ⟨w.heap.size, 0, #[], rfl, Nat.le_refl _, Blk.new w _ _, Nat.le_refl _, by unfold maxLen; omega, rfl, rfl⟩⟩
    have hl := ho.1
    go_enter Tryz.func60, Tryz.ntmps60
    obtain ⟨i0, hi, hz0, hz1, hz2⟩ := info_parts info_decl
    go_wp2_with (at_builtin; refine wpList_append_own _ rfl _ _ 31 rfl w.heap.size 52 i0 (.agg #[.string ⟨#[]⟩, .slice none 0 0, .int .i64 0]) 3 48 Tryz.underlying31 hi hz0 hz1 hz2 rfl (by decide) _ _ _ rfl hown ⟨g, 0, none⟩ n cap xs rfl ?c0 ?c1 h1 ?c3 ?c4 ?c5 ?_)
    case c0 => exact hl
    case c1 => exact fun j u hu => ((Frm.refl (fun _ => False) w).alloc _).cell id (hcell j u hu)
    case c3 => unfold maxLen; omega
    case c4 => omega
    case c5 => simp
    intro v' w1 hown1 hgrow _
    have F := ((Frm.refl (fun _ => False) w).alloc (.cells #[] 52)).own hown hgrow
    go_wp2_with fail
    go_ret
    exact ⟨_, rfl, by simpa using hown1, F⟩
set_option maxHeartbeats 1000000 in
theorem clone_type (v : Value) (n : Nat) (xs : List Value) (w : World) (ho : w.ownsRow 0 32 1 v n xs) (hn : n ≤ 1000000000) (h1 : ∀ u ∈ xs, u.oneCell' = true) :
    Calls Tryz.prog 61 #[v] w fun e w' => ∃ v', e = .returned v' ∧ w'.ownsRow w.heap.size 32 1 v' n xs ∧ Frm (fun _ => False) w w' := by
  rcases ho.2 with ⟨rfl, rfl⟩ | ⟨g, cap, cur, rfl, _, hg, hc, _⟩
  · have hq := fun W => Lib.run_eql_slice_nil_nil (P := Tryz.prog) W 0 0 Tryz.underlying50
    have hx : xs = [] := List.eq_nil_of_length_eq_zero (by simpa using ho.1)
    subst hx
    go_enter Tryz.func61, Tryz.ntmps61
    go_wp2_with fail
    go_ret
    exact ⟨_, rfl, World.ownsRow_nil _ _ _ _, Frm.refl _ _⟩
  · have hcell := @World.ownsRow.cells _ _ _ _ _ _ _ ho g rfl
    have hq := fun W => Lib.run_eql_slice_some_nil (P := Tryz.prog) W ⟨g, 0, none⟩ n cap Tryz.underlying50
    have hown : (w.alloc (.cells #[] 32)).ownsRow w.heap.size 32 1 (.slice (some ⟨w.heap.size, 0, none⟩) 0 0) 0 [] :=
      ⟨rfl, .inr ⟨w.heap.size, 0, #[], rfl, Nat.le_refl _, Blk.new w _ _, Nat.le_refl _, by unfold maxLen; omega, rfl, rfl⟩⟩
    have hl := ho.1
    go_enter Tryz.func61, Tryz.ntmps61
    obtain ⟨i0, hi, hz0, hz1, hz2⟩ := info_parts info_type
    go_wp2_with (at_builtin; refine wpList_append_own _ rfl _ _ 50 rfl w.heap.size 32 i0 (.int .i64 0) 1 8 Tryz.underlying50 hi hz0 hz1 hz2 rfl (by decide) _ _ _ rfl hown ⟨g, 0, none⟩ n cap xs rfl ?c0 ?c1 h1 ?c3 ?c4 ?c5 ?_)
    case c0 => exact hl
    case c1 => exact fun j u hu => ((Frm.refl (fun _ => False) w).alloc _).cell id (hcell j u hu)
    case c3 => unfold maxLen; omega
    case c4 => omega
    case c5 => simp
    intro v' w1 hown1 hgrow _
    have F := ((Frm.refl (fun _ => False) w).alloc (.cells #[] 32)).own hown hgrow
    go_wp2_with fail
    go_ret
    exact ⟨_, rfl, by simpa using hown1, F⟩
end Go.Proofs.YtpdbkdcdlafobaaGreatDoor
end
section
namespace Go.Proofs.YtpdbkdcdlafobaaGreatDoor
open Go.RowKit
theorem prs_one (ps : List (L.Bytes × Int)) : ∀ u ∈ prs ps, u.oneCell' = true := by
  intro u hu
  simp only [prs, List.mem_flatMap] at hu
  obtain ⟨x, _, hu⟩ := hu
  simp at hu
  rcases hu with rfl | rfl <;> rfl
theorem own_drew {w : World} {base size n : Nat} {e : TypeId} {v : Value} {xs : List Value} (h : w.ownsRow base e size v n xs) : w.drew.ownsRow base e size v n xs := h
theorem blk7 {w' : World} {b t : Nat} {c0 c1 c2 c3 c4 c5 c6 : Value} (h : Blk w' b t #[c0, c1, c2, c3, c4, c5, c6]) (v0 v1 v2 v3 v4 v5 v6 : Value) : Blk (((((((w'.setCell ⟨b, 0, none⟩ v0).setCell ⟨b, 1, none⟩ v1).setCell ⟨b, 2, none⟩ v2).setCell ⟨b, 3, none⟩ v3).setCell ⟨b, 4, none⟩ v4).setCell ⟨b, 5, none⟩ v5).setCell ⟨b, 6, none⟩ v6) b t #[v0, v1, v2, v3, v4, v5, v6] := by
  have := (((((((h).set_ 0 v0).set_ 1 v1).set_ 2 v2).set_ 3 v3).set_ 4 v4).set_ 5 v5).set_ 6 v6
  simpa using this
theorem frm7 {w w' : World} {b : Nat} {E : Nat → Prop} (h : Frm E w w') (hb : b < w.heap.size → E b) (v0 v1 v2 v3 v4 v5 v6 : Value) : Frm E w (((((((w'.setCell ⟨b, 0, none⟩ v0).setCell ⟨b, 1, none⟩ v1).setCell ⟨b, 2, none⟩ v2).setCell ⟨b, 3, none⟩ v3).setCell ⟨b, 4, none⟩ v4).setCell ⟨b, 5, none⟩ v5).setCell ⟨b, 6, none⟩ v6) := (((((((h).set_ (p := ⟨b, 0, none⟩) hb v0).set_ (p := ⟨b, 1, none⟩) hb v1).set_ (p := ⟨b, 2, none⟩) hb v2).set_ (p := ⟨b, 3, none⟩) hb v3).set_ (p := ⟨b, 4, none⟩) hb v4).set_ (p := ⟨b, 5, none⟩) hb v5).set_ (p := ⟨b, 6, none⟩) hb v6
theorem size7 {w' : World} {b : Nat} (v0 v1 v2 v3 v4 v5 v6 : Value) : (((((((w'.setCell ⟨b, 0, none⟩ v0).setCell ⟨b, 1, none⟩ v1).setCell ⟨b, 2, none⟩ v2).setCell ⟨b, 3, none⟩ v3).setCell ⟨b, 4, none⟩ v4).setCell ⟨b, 5, none⟩ v5).setCell ⟨b, 6, none⟩ v6).heap.size = w'.heap.size := by simp
/-- What the last lines of node at a proc leave. -/
theorem proc_end {A : Nat → Prop} {w w1 : World} {t r : Int} {n : L.Bytes} {ps : List (L.Bytes × Int)} {x y : L.Tm} {v0 v1 pv : Value} {base : Nat} (hb : w.heap.size + 2 ≤ base)
    (F : Frm (fun _ => False) w w1) (HO : w1.ownsRow base 49 2 pv ps.length (prs ps)) (h0 : Rep w A x v0) (h1 : Rep w A y v1) :
    NodePost A (.proc t n ps r x y) w (.returned (.tuple #[.agg #[.int .i64 9, .int .i64 t, .string (str n), .int .i64 0, pv, .int .i64 r, .slice none 0 0], .slice (some ⟨w1.heap.size, 0, none⟩) 2 2]))
      ((((((((w1.setCell ⟨w.heap.size + 1, 0, none⟩ (.int .i64 9)).setCell ⟨w.heap.size + 1, 1, none⟩ (.int .i64 t)).setCell ⟨w.heap.size + 1, 2, none⟩ (.string (str n))).setCell ⟨w.heap.size + 1, 3, none⟩ (.int .i64 0)).setCell ⟨w.heap.size + 1, 4, none⟩ pv).setCell ⟨w.heap.size + 1, 5, none⟩ (.int .i64 r)).setCell ⟨w.heap.size + 1, 6, none⟩ (.slice none 0 0)).alloc (.cells #[v0, v1] 34)).drew := by
  have G := ((frm7 F (b := w.heap.size + 1) (fun h => by omega) (.int .i64 9) (.int .i64 t) (.string (str n)) (.int .i64 0) pv (.int .i64 r) (.slice none 0 0)).alloc (.cells #[v0, v1] 34)).drew
  have G1 := ((frm7 (Frm.refl (· = w.heap.size + 1) w1) (b := w.heap.size + 1) (fun _ => rfl) (.int .i64 9) (.int .i64 t) (.string (str n)) (.int .i64 0) pv (.int .i64 r) (.slice none 0 0)).alloc (.cells #[v0, v1] 34)).drew
  refine ⟨G, pv, .slice (some ⟨w1.heap.size, 0, none⟩) 2 2, [v0, v1], rfl, ?_, ?_, fun g hg => .inr ?_, ?_⟩
  · exact G1.row HO (fun g hg e => by have := (HO.lt g hg).1; omega) (by omega)
  · have := own_new (((((((w1.setCell ⟨w.heap.size + 1, 0, none⟩ (.int .i64 9)).setCell ⟨w.heap.size + 1, 1, none⟩ (.int .i64 t)).setCell ⟨w.heap.size + 1, 2, none⟩ (.string (str n))).setCell ⟨w.heap.size + 1, 3, none⟩ (.int .i64 0)).setCell ⟨w.heap.size + 1, 4, none⟩ pv).setCell ⟨w.heap.size + 1, 5, none⟩ (.int .i64 r)).setCell ⟨w.heap.size + 1, 6, none⟩ (.slice none 0 0)) 34 0 [v0, v1] 2 rfl (by unfold maxLen; omega) (Nat.zero_le _)
    rw [size7] at this; exact own_drew this
  · have := F.1
    simp [Value.ownBlock] at hg; omega
  · exact ⟨_, _, rfl, Rep.wide h0 G, _, _, rfl, Rep.wide h1 G, rfl⟩
set_option maxHeartbeats 2000000 in
theorem node_proc (t : Int) (n : L.Bytes) (ps : List (L.Bytes × Int)) (r : Int) (x y : L.Tm) (sl a0 a1 : Value) (A : Nat → Prop) (w : World) (ho : Prs w sl ps) (hp : ps.length ≤ 1000000000) (hx : Rep w A x a0) (hy : Rep w A y a1) :
    Calls Tryz.prog 194 #[.agg #[.int .i64 t, .string (str n), sl, .int .i64 r, a0, a1]] w (NodePost A (.proc t n ps r x y) w) := by
  obtain ⟨T0, c0, rfl⟩ := Rep.form hx
  obtain ⟨T1, c1, rfl⟩ := Rep.form hy
  obtain ⟨Ad, c, rfl⟩ := own_form ho
  have R0 := Lib.hid hx
  have R1 := Lib.hid hy
  have F0 := ((Frm.refl (fun _ => False) w).alloc (.cells #[.int .i64 t, .string (str n), .slice Ad ps.length c, .int .i64 r, .iface T0 (.agg c0), .iface T1 (.agg c1)] 129)).alloc (.cells #[.int .i64 0, .int .i64 0, .string ⟨#[]⟩, .int .i64 0, .slice none 0 0, .int .i64 0, .slice none 0 0] 47)
  have ho2 := F0.row ho (fun _ _ h => h) (Nat.le_refl _)
  have B0 := Lib.hid ((Blk.new w 129 #[.int .i64 t, .string (str n), .slice Ad ps.length c, .int .i64 r, .iface T0 (.agg c0), .iface T1 (.agg c1)]).alloc (.cells #[.int .i64 0, .int .i64 0, .string ⟨#[]⟩, .int .i64 0, .slice none 0 0, .int .i64 0, .slice none 0 0] 47))
  have B1 : Hid (Blk ((w.alloc (.cells #[.int .i64 t, .string (str n), .slice Ad ps.length c, .int .i64 r, .iface T0 (.agg c0), .iface T1 (.agg c1)] 129)).alloc (.cells #[.int .i64 0, .int .i64 0, .string ⟨#[]⟩, .int .i64 0, .slice none 0 0, .int .i64 0, .slice none 0 0] 47)) (w.heap.size + 1) 47 #[.int .i64 0, .int .i64 0, .string ⟨#[]⟩, .int .i64 0, .slice none 0 0, .int .i64 0, .slice none 0 0]) := by
    have := Blk.new (w.alloc (.cells #[.int .i64 t, .string (str n), .slice Ad ps.length c, .int .i64 r, .iface T0 (.agg c0), .iface T1 (.agg c1)] 129)) 47 #[.int .i64 0, .int .i64 0, .string ⟨#[]⟩, .int .i64 0, .slice none 0 0, .int .i64 0, .slice none 0 0]
    simp at this; exact this
  have HF0 := Lib.hid F0
  clear ho hx hy F0
  go_enter Tryz.func194, Tryz.ntmps194
  go_wp2_with fail
  refine (clone_param _ _ _ _ ho2 hp (prs_one ps)).mono ?_
  rintro e w1 ⟨v', rfl, ho1, f1⟩
  obtain ⟨A2, c2, rfl⟩ := own_form ho1
  have HO := Lib.hid ho1
  have F1 := Lib.hid (HF0.out.trans f1)
  have D0 := Lib.hid (f1.blk B0.out id)
  have D1 := Lib.hid (f1.blk B1.out id)
  have d0 := D0.out.cell 0
  have d1 := D0.out.cell 1
  have d3 := D0.out.cell 3
  have d4 := D0.out.cell 4
  have d5 := D0.out.cell 5
  have hs1 : w.heap.size + 1 < w1.heap.size := D1.out.lt
  have n0 := D1.out.cell 0
  have n1 := D1.out.cell 1
  have n2 := D1.out.cell 2
  have n3 := D1.out.cell 3
  have n4 := D1.out.cell 4
  have n5 := D1.out.cell 5
  have n6 := D1.out.cell 6
  have z0 := D1.out.frozen 0
  have z1 := D1.out.frozen 1
  have z2 := D1.out.frozen 2
  have z3 := D1.out.frozen 3
  have z4 := D1.out.frozen 4
  have z5 := D1.out.frozen 5
  have z6 := D1.out.frozen 6
  have e0 : ∀ o, (w1.alloc o).cell? ⟨w.heap.size, 0, none⟩ = _ := fun o => (D0.out.alloc o).cell 0
  have e1 : ∀ o, (w1.alloc o).cell? ⟨w.heap.size, 1, none⟩ = _ := fun o => (D0.out.alloc o).cell 1
  have e3 : ∀ o, (w1.alloc o).cell? ⟨w.heap.size, 3, none⟩ = _ := fun o => (D0.out.alloc o).cell 3
  have e4 : ∀ o, (w1.alloc o).cell? ⟨w.heap.size, 4, none⟩ = _ := fun o => (D0.out.alloc o).cell 4
  have e5 : ∀ o, (w1.alloc o).cell? ⟨w.heap.size, 5, none⟩ = _ := fun o => (D0.out.alloc o).cell 5
  have m0 : ∀ o, (w1.alloc o).cell? ⟨w.heap.size + 1, 0, none⟩ = _ := fun o => (D1.out.alloc o).cell 0
  have y0 : ∀ o, (w1.alloc o).frozen? ⟨w.heap.size + 1, 0, none⟩ = false := fun o => (D1.out.alloc o).frozen 0
  have m1 : ∀ o, (w1.alloc o).cell? ⟨w.heap.size + 1, 1, none⟩ = _ := fun o => (D1.out.alloc o).cell 1
  have y1 : ∀ o, (w1.alloc o).frozen? ⟨w.heap.size + 1, 1, none⟩ = false := fun o => (D1.out.alloc o).frozen 1
  have m2 : ∀ o, (w1.alloc o).cell? ⟨w.heap.size + 1, 2, none⟩ = _ := fun o => (D1.out.alloc o).cell 2
  have y2 : ∀ o, (w1.alloc o).frozen? ⟨w.heap.size + 1, 2, none⟩ = false := fun o => (D1.out.alloc o).frozen 2
  have m3 : ∀ o, (w1.alloc o).cell? ⟨w.heap.size + 1, 3, none⟩ = _ := fun o => (D1.out.alloc o).cell 3
  have y3 : ∀ o, (w1.alloc o).frozen? ⟨w.heap.size + 1, 3, none⟩ = false := fun o => (D1.out.alloc o).frozen 3
  have m4 : ∀ o, (w1.alloc o).cell? ⟨w.heap.size + 1, 4, none⟩ = _ := fun o => (D1.out.alloc o).cell 4
  have y4 : ∀ o, (w1.alloc o).frozen? ⟨w.heap.size + 1, 4, none⟩ = false := fun o => (D1.out.alloc o).frozen 4
  have m5 : ∀ o, (w1.alloc o).cell? ⟨w.heap.size + 1, 5, none⟩ = _ := fun o => (D1.out.alloc o).cell 5
  have y5 : ∀ o, (w1.alloc o).frozen? ⟨w.heap.size + 1, 5, none⟩ = false := fun o => (D1.out.alloc o).frozen 5
  have m6 : ∀ o, (w1.alloc o).cell? ⟨w.heap.size + 1, 6, none⟩ = _ := fun o => (D1.out.alloc o).cell 6
  have y6 : ∀ o, (w1.alloc o).frozen? ⟨w.heap.size + 1, 6, none⟩ = false := fun o => (D1.out.alloc o).frozen 6
  clear ho1 ho2 f1
  go_wp2_with fail
  go_region
  go_wp2_with fail
  have GB := (((blk7 D1.out (.int .i64 9) (.int .i64 t) (.string (str n)) (.int .i64 0) (.slice A2 ps.length c2) (.int .i64 r) (.slice none 0 0))).alloc (.cells #[.iface T0 (.agg c0), .iface T1 (.agg c1)] 34)).drew
  have g0 := GB.cell 0
  have g1 := GB.cell 1
  have g2 := GB.cell 2
  have g3 := GB.cell 3
  have g4 := GB.cell 4
  have g5 := GB.cell 5
  have g6 := GB.cell 6
  have hN := proc_end (t := t) (r := r) (n := n) (A := A) (by simp) F1.out HO.out R0.out R1.out
  clear e0 e1 e3 e4 e5 m0 m1 m2 m3 m4 m5 m6 y0 y1 y2 y3 y4 y5 y6 d0 d1 d3 d4 d5 n0 n1 n2 n3 n4 n5 n6 z0 z1 z2 z3 z4 z5 z6 GB
  exact bodyPost_ret (by simp [results, Tryz.results194, go_sem, g0, g1, g2, g3, g4, g5, g6]) rfl hN
theorem meth_skip (x : Value) (w : World) : (callMethod (.iface 166 x) "doppelganger/lang.node" #[]).run Tryz.prog w = .ok (.enter 198 #[x]) w := by kernel_rfl
theorem meth_stop (x : Value) (w : World) : (callMethod (.iface 168 x) "doppelganger/lang.node" #[]).run Tryz.prog w = .ok (.enter 199 #[x]) w := by kernel_rfl
theorem meth_fault (x : Value) (w : World) : (callMethod (.iface 169 x) "doppelganger/lang.node" #[]).run Tryz.prog w = .ok (.enter 200 #[x]) w := by kernel_rfl
theorem meth_row (x : Value) (w : World) : (callMethod (.iface 111 x) "doppelganger/lang.node" #[]).run Tryz.prog w = .ok (.enter 187 #[x]) w := by kernel_rfl
theorem meth_assign (x : Value) (w : World) : (callMethod (.iface 116 x) "doppelganger/lang.node" #[]).run Tryz.prog w = .ok (.enter 188 #[x]) w := by kernel_rfl
theorem meth_choice (x : Value) (w : World) : (callMethod (.iface 118 x) "doppelganger/lang.node" #[]).run Tryz.prog w = .ok (.enter 189 #[x]) w := by kernel_rfl
theorem meth_loop (x : Value) (w : World) : (callMethod (.iface 120 x) "doppelganger/lang.node" #[]).run Tryz.prog w = .ok (.enter 190 #[x]) w := by kernel_rfl
theorem meth_fresh (x : Value) (w : World) : (callMethod (.iface 126 x) "doppelganger/lang.node" #[]).run Tryz.prog w = .ok (.enter 193 #[x]) w := by kernel_rfl
theorem meth_call (x : Value) (w : World) : (callMethod (.iface 106 x) "doppelganger/lang.node" #[]).run Tryz.prog w = .ok (.enter 186 #[x]) w := by kernel_rfl
theorem meth_proc (x : Value) (w : World) : (callMethod (.iface 129 x) "doppelganger/lang.node" #[]).run Tryz.prog w = .ok (.enter 194 #[x]) w := by kernel_rfl
theorem meth_num (x : Value) (w : World) : (callMethod (.iface 175 x) "doppelganger/lang.node" #[]).run Tryz.prog w = .ok (.enter 201 #[x]) w := by kernel_rfl
theorem meth_read (x : Value) (w : World) : (callMethod (.iface 93 x) "doppelganger/lang.node" #[]).run Tryz.prog w = .ok (.enter 185 #[x]) w := by kernel_rfl
theorem meth_binary (x : Value) (w : World) : (callMethod (.iface 122 x) "doppelganger/lang.node" #[]).run Tryz.prog w = .ok (.enter 191 #[x]) w := by kernel_rfl
theorem meth_doing (x : Value) (w : World) : (callMethod (.iface 124 x) "doppelganger/lang.node" #[]).run Tryz.prog w = .ok (.enter 192 #[x]) w := by kernel_rfl
theorem meth_labelled (x : Value) (w : World) : (callMethod (.iface 133 x) "doppelganger/lang.node" #[]).run Tryz.prog w = .ok (.enter 196 #[x]) w := by kernel_rfl
theorem meth_exit (x : Value) (w : World) : (callMethod (.iface 150 x) "doppelganger/lang.node" #[]).run Tryz.prog w = .ok (.enter 197 #[x]) w := by kernel_rfl
/-- node at any term: which function is entered, and what it hands back. -/
theorem node_any {w : World} {A : Nat → Prop} {t : L.Tm} {v : Value} (h : Rep w A t v) : ∃ T x F, v = .iface T (.agg x) ∧ (∀ w, (callMethod (.iface T (.agg x)) "doppelganger/lang.node" #[]).run Tryz.prog w = .ok (.enter F #[.agg x]) w) ∧ Calls Tryz.prog F #[.agg x] w (NodePost A t w) := by
  cases t with
  | skip => exact ⟨_, _, _, h, meth_skip _, node_skip A w⟩
  | stop t => exact ⟨_, _, _, h, meth_stop _, node_stop t A w⟩
  | fault t => exact ⟨_, _, _, h, meth_fault _, node_fault t A w⟩
  | row ts => obtain ⟨sl, vs, e, h2, ho, ha, hr⟩ := h; exact ⟨_, _, _, e, meth_row _, node_row ts sl vs A w h2 ho ha hr⟩
  | assign n x => obtain ⟨a, e, h1⟩ := h; exact ⟨_, _, _, e, meth_assign _, node_assign n x a A w h1⟩
  | choice t x y z => obtain ⟨a, b, c, e, h1, h2, h3⟩ := h; exact ⟨_, _, _, e, meth_choice _, node_choice t x a y b z c A w h1 h2 h3⟩
  | loop x y => obtain ⟨a, b, e, h1, h2⟩ := h; exact ⟨_, _, _, e, meth_loop _, node_loop x a y b A w h1 h2⟩
  | fresh t n x y => obtain ⟨a, b, e, h1, h2⟩ := h; exact ⟨_, _, _, e, meth_fresh _, node_fresh t n x a y b A w h1 h2⟩
  | call t n ts => obtain ⟨sl, vs, e, ho, ha, hr⟩ := h; exact ⟨_, _, _, e, meth_call _, node_call t n ts sl vs A w ho ha hr⟩
  | proc t n ps r x y => obtain ⟨sl, a, b, e, h3, ho, hs, h1, h2⟩ := h; exact ⟨_, _, _, e, meth_proc _, node_proc t n ps r x y sl a b A w ho (by omega) h1 h2⟩
  | num i => exact ⟨_, _, _, h, meth_num _, node_num i A w⟩
  | read n => exact ⟨_, _, _, h, meth_read _, node_read n A w⟩
  | binary k x y => obtain ⟨a, b, e, h1, h2⟩ := h; exact ⟨_, _, _, e, meth_binary _, node_binary k x a y b A w h1 h2⟩
  | doing x y => obtain ⟨a, b, e, h1, h2⟩ := h; exact ⟨_, _, _, e, meth_doing _, node_doing x a y b A w h1 h2⟩
  | labelled n x => obtain ⟨a, e, h1⟩ := h; exact ⟨_, _, _, e, meth_labelled _, node_labelled n x a A w h1⟩
  | exit t n => exact ⟨_, _, _, h, meth_exit _, node_exit t n A w⟩
set_option maxHeartbeats 1000000 in
theorem typeOf_any {w : World} {A : Nat → Prop} {t : L.Tm} {v : Value} (h : Rep w A t v) : Calls Tryz.prog 102 #[v] w fun e w' => e = .returned (.int .i64 (L.typeOf t)) ∧ Frm (fun _ => False) w w' := by
  obtain ⟨T, x, F, rfl, hm, hC⟩ := node_any h
  have HM := Lib.hid hm
  have HC := Lib.hid hC
  clear hm hC h
  go_enter Tryz.func102, Tryz.ntmps102
  go_wp2_with (refine wpList_invoke rfl (.tmp 6) "doppelganger/lang.node" #[] rfl (.iface T (.agg x)) rfl F (.agg x) (HM.out _) ?_)
  intro K hK
  refine HC.out.mono ?_
  rintro e w1 ⟨f1, pv, kv, ks, rfl, hp, hk, _⟩
  obtain ⟨Ap, cp, rfl⟩ := own_form hp
  obtain ⟨Ak, ck, rfl⟩ := own_form hk
  have F1 := Lib.hid f1
  clear f1 hp hk
  refine hK _ _ ?_
  go_wp2_with fail
  go_ret
  exact ⟨rfl, F1.out.alloc _⟩
end Go.Proofs.YtpdbkdcdlafobaaGreatDoor
end
section
namespace Go.Proofs.YtpdbkdcdlafobaaGreatDoor
open Go.RowKit
theorem own_cells {w : World} {base n : Nat} {e : TypeId} {v : Value} {xs : List Value} (h : w.ownsRow base e 1 v n xs) : ∃ Ad c, v = .slice Ad n c ∧ ∀ (j : Nat) u, xs[j]? = some u → ∃ g, Ad = some ⟨g, 0, none⟩ ∧ w.cell? ⟨g, j, none⟩ = some u := by
  have hc := @World.ownsRow.cells _ _ _ _ _ _ _ h
  have hl := h.1
  rcases h.2 with ⟨rfl, hn⟩ | ⟨g, cap, cur, rfl, _⟩
  · refine ⟨none, 0, by rw [hn], fun j u hu => ?_⟩
    have : xs = [] := List.eq_nil_of_length_eq_zero (by omega)
    subst this; simp at hu
  · refine ⟨_, cap, rfl, fun j u hu => ⟨g, rfl, ?_⟩⟩
    have := hc (g := g) rfl j u hu
    rwa [add_zero_off] at this
theorem Rep.pos {w : World} {A : Nat → Prop} {t : L.Tm} {v : Value} (h : Rep w A t v) : 1 ≤ L.nodes t := by
  cases t <;> first | (simp [L.nodes]; done) | (simp [L.nodes]; omega) | skip
  obtain ⟨_, _, _, h2, _⟩ := h
  simp [L.nodes]; omega
theorem RepL.count {w : World} {A : Nat → Prop} : ∀ {ts : List L.Tm} {vs : List Value}, RepL w A ts vs → ts.length ≤ L.nodesL ts
  | [], _, _ => Nat.zero_le _
  | t :: ts, _, h => by
    obtain ⟨_, _, _, h1, h2⟩ := h
    have := Rep.pos h1
    have := RepL.count h2
    simp [L.nodesL]; omega
set_option maxHeartbeats 2000000 in
theorem measure_any : ∀ (n : Nat) (t : L.Tm) (A : Nat → Prop) (v : Value) (w : World), L.sz t ≤ n → Rep w A t v → ∀ lv : Int, 0 ≤ lv → lv + L.levels t ≤ 1000000000 → L.nodes t ≤ 1000000000 →
    Calls Tryz.prog 44 #[v, .int .i64 lv] w fun e w' => e = .returned (.tuple #[.int .i64 (L.nodes t), .int .i64 (lv - 1 + L.levels t)]) ∧ Frm (fun _ => False) w w' := by
  intro n
  induction n with
  | zero => intro t _ _ _ hs; exfalso; have := L.sz_pos t; omega
  | succ n ih =>
    intro t A v w hs h lv h0 hlv hnd
    have IH := Lib.hid ih
    clear ih
    obtain ⟨T, x, F, rfl, hm, hC⟩ := node_any h
    have HM := Lib.hid hm
    have HCl := Lib.hid hC
    have HH := Lib.hid h
    have hne := L.nodes_eq t
    have hle := L.levels_eq t
    clear hm hC h
    cases hir : L.isRow t
    · obtain ⟨T', cs', he, hT⟩ := HH.out.notRow hir
      injection he with he1 he2
      subst he1
      have a1 := fun W => assert_row_no W T (.agg x) hT
      obtain ⟨hbk, hown⟩ := L.below_kids hir
      have HBK := Lib.hid hbk
      clear hbk hir he2 hT
      go_enter Tryz.func44, Tryz.ntmps44
      go_wp2_with (refine wpList_invoke rfl (.tmp 15) "doppelganger/lang.node" #[] rfl (.iface T (.agg x)) rfl F (.agg x) (HM.out _) ?_)
      intro K hK
      refine HCl.out.mono ?_
      rintro e w1 ⟨f1, pv, kv, ks, rfl, hp, hk, _, hr⟩
      obtain ⟨Ap, cp, rfl⟩ := own_form hp
      rw [← HBK.out] at hk hr
      obtain ⟨Ak, ck, rfl, hcs⟩ := own_cells hk
      have HR := Lib.hid hr
      have HC := Lib.hid hcs
      have HF1 := Lib.hid f1
      obtain ⟨A2, hA2⟩ : ∃ A2 : Nat → Prop, A2 = fun b => A b ∨ w.heap.size ≤ b := ⟨_, rfl⟩
      rw [← hA2] at HR
      clear hp hk hr hcs f1 hA2
      refine hK _ _ ?_
      go_wp2_with fail
      have hcount := HR.out.count
      go_loopg [4, 5, 33] ((L.below t).length + 1) (fun n a b i wr => ∃ k : Nat, k ≤ (L.below t).length ∧ n = (L.below t).length + 1 - k ∧ i = .int .i64 k ∧ a = .int .i64 ((L.own t + L.nodesL ((L.below t).take k) : Nat) : Int) ∧ b = .int .i64 (lv + (L.levelsL ((L.below t).take k) : Nat)) ∧ Frm (fun _ => False) w1 wr)
      case atStart => exact ⟨0, Nat.zero_le _, rfl, rfl, by simp [L.nodesL, hown], by simp [L.levelsL], ((Frm.refl _ w1).alloc _).alloc _⟩
      case round =>
        obtain ⟨k, hk, rfl, rfl, rfl, rfl, hf⟩ := hrel
        have hb1 := L.nodesL_le (L.below t) k
        have hb2 := L.levelsL_le (L.below t) k
        by_cases hlt : k < (L.below t).length
        · obtain ⟨u, hu, hru⟩ := HR.out.at_ hlt
          obtain ⟨ga, rfl, hca⟩ := HC.out k u hu
          have hcu := hf.cell id hca
          have hru2 := Rep.keep (A' := A2) (hf.same fun _ _ _ => id) (fun _ hb _ => hb) hru
          have hn1 := L.nodes_mem hlt
          have hl1 := L.levelsL_take _ _ hlt
          have hl2 := L.levelsL_le (L.below t) (k + 1)
          have hsz : L.sz (L.below t)[k] < L.sz t := L.below_lt (List.getElem_mem hlt)
          have HN := Lib.hid (L.nodesL_take _ _ hlt)
          have HL := Lib.hid hl1
          have hl3 : L.levels (L.below t)[k] ≤ L.levelsL (L.below t) := by rw [hl1] at hl2; omega
          clear hl1 hl2
          obtain ⟨T3, c3, rfl⟩ := Rep.form hru2
          go_wp2_with fail
          refine (IH.out _ _ _ _ (by omega) hru2 (lv + 1) (by omega) (by omega) (by omega)).mono ?_
          rintro e w3 ⟨rfl, f3⟩
          generalize (L.below t)[k] = kid at *
          go_wp2_with fail
          go_roundg ((L.below t).length + 1 - (k + 1))
          case measure => omega
          case rel =>
            refine ⟨k + 1, by omega, rfl, by go_num, ?_, ?_, hf.trans f3⟩
            · rw [HN.out]; go_num
            · rw [HL.out]; first | (go_num; done) | (congr 1; omega)
        · go_wp2_with fail
          go_ret2
          have e : k = (L.below t).length := by omega
          subst e
          rw [List.take_length] at *
          exact ⟨by rw [hne, hle]; go_num, HF1.out.trans hf⟩
    · obtain ⟨us, rfl⟩ : ∃ us, t = .row us := by cases t <;> first | exact ⟨_, rfl⟩ | simp [L.isRow] at hir
      obtain ⟨sl, vs, he, h2, ho, ha, hrr⟩ := HH.out
      injection he with he1 he2
      injection he2 with he2
      subst he1 he2
      have a1 := fun W => assert_row_yes W (.agg #[sl])
      obtain ⟨Ak, ck, rfl, hcs⟩ := own_cells ho
      have HX := Lib.hid hrr
      have HY := Lib.hid hcs
      clear hir ho ha hrr hcs
      have h2p : 2 ≤ us.length := h2
      have hown : L.own (.row us) = us.length - 1 := rfl
      go_enter Tryz.func44, Tryz.ntmps44
      go_wp2_with (refine wpList_invoke rfl (.tmp 15) "doppelganger/lang.node" #[] rfl (.iface 111 (.agg #[.slice Ak us.length ck])) rfl F (.agg #[.slice Ak us.length ck]) (HM.out _) ?_)
      intro K hK
      refine HCl.out.mono ?_
      rintro e w1 ⟨f1, pv, kv, ks', rfl, hp, hk, _, hr⟩
      obtain ⟨Ap, cp, rfl⟩ := own_form hp
      obtain ⟨Ak', ck', rfl⟩ := own_form hk
      have HR : Hid (RepL w1 A (L.below (.row us)) vs) := RepL.keep (f1.same fun _ _ _ => id) (fun _ hb _ => hb) HX.out
      have HC : Hid (∀ (j : Nat) u, vs[j]? = some u → ∃ g, Ak = some ⟨g, 0, none⟩ ∧ w1.cell? ⟨g, j, none⟩ = some u) := fun j u hu => (HY.out j u hu).imp fun g h => ⟨h.1, f1.cell id h.2⟩
      have HF1 := Lib.hid f1
      obtain ⟨A2, hA2⟩ : ∃ A2 : Nat → Prop, A2 = A := ⟨_, rfl⟩
      rw [← hA2] at HR
      clear hp hk hr f1 hA2
      refine hK _ _ ?_
      go_wp2_with fail
      have hcount := HR.out.count
      go_loopg [4, 5, 33] ((L.below (.row us)).length + 1) (fun n a b i wr => ∃ k : Nat, k ≤ (L.below (.row us)).length ∧ n = (L.below (.row us)).length + 1 - k ∧ i = .int .i64 k ∧ a = .int .i64 ((L.own (.row us) + L.nodesL ((L.below (.row us)).take k) : Nat) : Int) ∧ b = .int .i64 (lv + (L.levelsL ((L.below (.row us)).take k) : Nat)) ∧ Frm (fun _ => False) w1 wr)
      case atStart => exact ⟨0, Nat.zero_le _, rfl, rfl, by simp only [List.take_zero, L.nodesL, L.own, Nat.add_zero]; congr 1; omega, by simp [L.levelsL], ((Frm.refl _ w1).alloc _).alloc _⟩
      case round =>
        obtain ⟨k, hk, rfl, rfl, rfl, rfl, hf⟩ := hrel
        have hb1 := L.nodesL_le (L.below (.row us)) k
        have hb2 := L.levelsL_le (L.below (.row us)) k
        by_cases hlt : k < (L.below (.row us)).length
        · obtain ⟨u, hu, hru⟩ := HR.out.at_ hlt
          obtain ⟨ga, rfl, hca⟩ := HC.out k u hu
          have hcu := hf.cell id hca
          have hru2 := Rep.keep (A' := A2) (hf.same fun _ _ _ => id) (fun _ hb _ => hb) hru
          have hn1 := L.nodes_mem hlt
          have hl1 := L.levelsL_take _ _ hlt
          have hl2 := L.levelsL_le (L.below (.row us)) (k + 1)
          have hsz : L.sz (L.below (.row us))[k] < L.sz (.row us) := L.below_lt (List.getElem_mem hlt)
          have HN := Lib.hid (L.nodesL_take _ _ hlt)
          have HL := Lib.hid hl1
          have hl3 : L.levels (L.below (.row us))[k] ≤ L.levelsL (L.below (.row us)) := by rw [hl1] at hl2; omega
          clear hl1 hl2
          obtain ⟨T3, c3, rfl⟩ := Rep.form hru2
          go_wp2_with fail
          refine (IH.out _ _ _ _ (by omega) hru2 (lv + 1) (by omega) (by omega) (by omega)).mono ?_
          rintro e w3 ⟨rfl, f3⟩
          generalize (L.below (.row us))[k] = kid at *
          go_wp2_with fail
          go_roundg ((L.below (.row us)).length + 1 - (k + 1))
          case measure => omega
          case rel =>
            refine ⟨k + 1, by omega, rfl, by go_num, ?_, ?_, hf.trans f3⟩
            · rw [HN.out]; go_num
            · rw [HL.out]; first | (go_num; done) | (congr 1; omega)
        · go_wp2_with fail
          go_ret2
          have e : k = (L.below (.row us)).length := by omega
          subst e
          rw [List.take_length] at *
          exact ⟨by rw [hne, hle]; go_num, HF1.out.trans hf⟩
end Go.Proofs.YtpdbkdcdlafobaaGreatDoor
end
