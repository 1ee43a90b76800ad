/- The contract of read at each kind of term. Contracts of the program's functions, with no condition beyond what each theorem states. -/
import Derived.Test.YtpdbkdcdlafobaaGreatDoorC12
section
namespace Go.Proofs.YtpdbkdcdlafobaaGreatDoor
open Go.RowKit
section
variable {n0 R E F : Nat} {caps : Array Value} {V : L.Vst} {Inv : World → Prop} {P : Nat}
theorem bnds_one {w : World} {b : L.Bnd} {g : Nat} {a : Value} (h : Blk w g 67 #[.int .i64 b.sort, .string (str b.name), a, .int .i64 b.result]) (ha : Tys w 0 a b.args) : Bnds w 0 (.slice (some ⟨g, 0, none⟩) 1 1) [b] :=
  ⟨_, ⟨rfl, .inr ⟨g, 1, _, rfl, Nat.zero_le _, h, Nat.le_refl _, by unfold maxLen; omega, rfl, rfl⟩⟩, a, [], rfl, ha, rfl⟩
set_option maxRecDepth 100000 in
set_option maxHeartbeats 2000000 in
theorem read_assign (hP1 : 1 ≤ P) (hvis : Vis n0 R E F caps V Inv) (n : L.Bytes) {x0 : L.Tm} (hx0 : ReadOk n0 R E F caps V Inv P x0) : ReadOk n0 R E F caps V Inv P (.assign n x0) := by
  intro w lo bs e v hrs hinv hn0 hb hP hrep
  have HREP := Lib.hid hrep
  have HRS := Lib.hid hrs
  have HI := Lib.hid hinv
  have HInv := Lib.hid hvis.1
  have HM := Lib.hid hvis.2.1
  have HV := Lib.hid hvis.2.2
  have hbs : bs.length ≤ 1000000 := by omega
  clear hrs hinv hvis
  obtain ⟨w0, rfl, r0⟩ := hrep
  obtain ⟨T0, c0, rfl⟩ := Rep.form r0
  have H0 := Lib.hid r0
  have I0 := Lib.hid hx0
  clear r0 hx0
  have a0 := fun W x => assert_row_no W 116 x (by decide)
  have a1 := assert_assign_yes
  obtain ⟨sv, hbk, hR, hlo, hBn⟩ := HRS.out.rd
  have d1 : ∀ o, (w.alloc o).cell? ⟨R, 1, none⟩ = some (.func (.func F) #[] caps) := fun o => (hbk.alloc o).cell 1
  have HF : ∀ o, Frm (fun _ => False) w (w.alloc o) := fun o => (Frm.refl (fun _ => False) w).alloc o
  clear hbk hR hlo hBn
  go_enter Tryz.func28, Tryz.ntmps28
  go_wp2_with (refine wpList_callv rfl (.tmp 49) (.tmp 50) _ rfl F caps (.iface 116 (.agg #[.string (str n), .iface T0 (.agg c0)])) rfl rfl (HM.out _ _) ?_)
  intro KK hKK
  refine (HV.out _ lo bs e (.assign n x0) _ (HRS.out.frm (HF _)) (HInv.out _ _ (Kt.frm (HF _)) HI.out) (by simp; omega) hbs (HREP.out.kt (Kt.frm (HF _))) rfl (Nat.le_trans (Nat.le_mul_of_pos_left _ hP1) hP)).mono ?_
  rintro _ w1 ⟨⟨v1, rfl, hv1⟩, rs1, k1⟩
  have HRS1 := Lib.hid rs1
  have HK1 := Lib.hid ((Kp.frm (HF _)).trans k1)
  clear rs1 k1 HF d1
  refine hKK _ _ ?_
  clear hKK KK
  cases hV : (V bs (.assign n x0) e).2 with
  | some u =>
    rw [hV] at hv1
    have HX : Hid (L.rd V bs (.assign n x0) e = (u, (V bs (.assign n x0) e).1)) := show _ = _ by rw [L.rd, L.at_some hV]
    obtain ⟨T9, x9, rfl⟩ := Rep.form hv1
    have HU := Lib.hid (hv1.sub (A' := fun b => b < n0 ∨ w.heap.size ≤ b) fun b hb _ => .inl hb)
    clear hv1 hV
    go_wp2_with fail
    go_ret
    exact ⟨⟨_, rfl, by rw [HX.out]; exact HU.out⟩, by rw [HX.out]; exact HRS1.out, HK1.out⟩
  | none =>
    rw [hV] at hv1
    obtain rfl := hv1
    have hsz1 := HK1.out.1
    have HB1 := Lib.hid (Blk.new w1 116 #[.string (str n), .iface T0 (.agg c0)])
    have F1 := (Frm.refl (fun _ => False) w1).alloc (.cells #[.string (str n), .iface T0 (.agg c0)] 116)
    have RS1 := Lib.hid (HRS1.out.frm F1)
    have KP1 := Lib.hid (HK1.out.trans (Kp.frm F1))
    clear F1
    obtain ⟨e1, he1⟩ : ∃ e1, (V bs (.assign n x0) e).1 = e1 := ⟨_, rfl⟩
    rw [he1] at RS1 HRS1
    have HX : Hid (L.rd V bs (.assign n x0) e = (.assign n (L.rd V bs x0 e1).1, (L.rd V bs x0 e1).2)) := show _ = _ by rw [L.rd, L.at_none hV, he1]
    clear hV he1
    have hP_0 : P * L.nodes x0 ≤ 1000000 := Nat.le_trans (Nat.mul_le_mul_left P (by simp only [L.nodes]; omega)) hP
    have hb_0 : bs.length + 1 + 4 * L.levels x0 ≤ 1000000 := by simp only [L.levels] at hb; omega
    go_wp2_with fail
    refine (I0.out _ lo bs _ _ RS1.out (HInv.out _ _ KP1.out.t HI.out) (Nat.le_trans hn0 KP1.out.1) (by omega) hP_0 (H0.out.kp KP1.out)).mono ?_
    rintro _ w2 ⟨⟨v2, rfl, hv2⟩, rs2, k2⟩
    have HB2 : Hid (Blk w2 w1.heap.size 116 #[.string (str n), .iface T0 (.agg c0)]) := (k2.2 _ (by unfold Own3; decide) _ _ HB1.out).trans HB1.out
    obtain ⟨T0', c0', rfl⟩ := Rep.form hv2
    have U0_2 := Lib.hid (hv2.sub (A' := fun b => b < n0 ∨ w.heap.size ≤ b) fun b hb _ => hb.imp id fun h => Nat.le_trans KP1.out.1 h)
    have RS2 := Lib.hid rs2
    have KP2 := Lib.hid (KP1.out.trans k2)
    have g2_0 : w2.cell? ⟨w1.heap.size, 0, none⟩ = _ := HB2.out.cell 0
    have g2_1 : w2.cell? ⟨w1.heap.size, 1, none⟩ = _ := HB2.out.cell 1
    clear hv2 rs2 k2 
    go_wp2_with fail
    go_ret
    refine ⟨⟨_, rfl, ?_⟩, by rw [HX.out]; exact RS2.out, KP2.out⟩
    rw [HX.out]
    exact ⟨_, rfl, U0_2.out⟩
set_option maxRecDepth 100000 in
set_option maxHeartbeats 2000000 in
theorem read_choice (hP1 : 1 ≤ P) (hvis : Vis n0 R E F caps V Inv) (of : Int) {x0 : L.Tm} {x1 : L.Tm} {x2 : L.Tm} (hx0 : ReadOk n0 R E F caps V Inv P x0) (hx1 : ReadOk n0 R E F caps V Inv P x1) (hx2 : ReadOk n0 R E F caps V Inv P x2) : ReadOk n0 R E F caps V Inv P (.choice of x0 x1 x2) := by
  intro w lo bs e v hrs hinv hn0 hb hP hrep
  have HREP := Lib.hid hrep
  have HRS := Lib.hid hrs
  have HI := Lib.hid hinv
  have HInv := Lib.hid hvis.1
  have HM := Lib.hid hvis.2.1
  have HV := Lib.hid hvis.2.2
  have hbs : bs.length ≤ 1000000 := by omega
  clear hrs hinv hvis
  obtain ⟨w0, w1, w2, rfl, r0, r1, r2⟩ := hrep
  obtain ⟨T0, c0, rfl⟩ := Rep.form r0
  have H0 := Lib.hid r0
  have I0 := Lib.hid hx0
  clear r0 hx0
  obtain ⟨T1, c1, rfl⟩ := Rep.form r1
  have H1 := Lib.hid r1
  have I1 := Lib.hid hx1
  clear r1 hx1
  obtain ⟨T2, c2, rfl⟩ := Rep.form r2
  have H2 := Lib.hid r2
  have I2 := Lib.hid hx2
  clear r2 hx2
  have a0 := fun W x => assert_row_no W 118 x (by decide)
  have a1 := fun W x => assert_assign_no W 118 x (by decide)
  have a2 := assert_choice_yes
  obtain ⟨sv, hbk, hR, hlo, hBn⟩ := HRS.out.rd
  have d1 : ∀ o, (w.alloc o).cell? ⟨R, 1, none⟩ = some (.func (.func F) #[] caps) := fun o => (hbk.alloc o).cell 1
  have HF : ∀ o, Frm (fun _ => False) w (w.alloc o) := fun o => (Frm.refl (fun _ => False) w).alloc o
  clear hbk hR hlo hBn
  go_enter Tryz.func28, Tryz.ntmps28
  go_wp2_with (refine wpList_callv rfl (.tmp 49) (.tmp 50) _ rfl F caps (.iface 118 (.agg #[.int .i64 of, .iface T0 (.agg c0), .iface T1 (.agg c1), .iface T2 (.agg c2)])) rfl rfl (HM.out _ _) ?_)
  intro KK hKK
  refine (HV.out _ lo bs e (.choice of x0 x1 x2) _ (HRS.out.frm (HF _)) (HInv.out _ _ (Kt.frm (HF _)) HI.out) (by simp; omega) hbs (HREP.out.kt (Kt.frm (HF _))) rfl (Nat.le_trans (Nat.le_mul_of_pos_left _ hP1) hP)).mono ?_
  rintro _ w1 ⟨⟨v1, rfl, hv1⟩, rs1, k1⟩
  have HRS1 := Lib.hid rs1
  have HK1 := Lib.hid ((Kp.frm (HF _)).trans k1)
  clear rs1 k1 HF d1
  refine hKK _ _ ?_
  clear hKK KK
  cases hV : (V bs (.choice of x0 x1 x2) e).2 with
  | some u =>
    rw [hV] at hv1
    have HX : Hid (L.rd V bs (.choice of x0 x1 x2) e = (u, (V bs (.choice of x0 x1 x2) e).1)) := show _ = _ by rw [L.rd, L.at_some hV]
    obtain ⟨T9, x9, rfl⟩ := Rep.form hv1
    have HU := Lib.hid (hv1.sub (A' := fun b => b < n0 ∨ w.heap.size ≤ b) fun b hb _ => .inl hb)
    clear hv1 hV
    go_wp2_with fail
    go_ret
    exact ⟨⟨_, rfl, by rw [HX.out]; exact HU.out⟩, by rw [HX.out]; exact HRS1.out, HK1.out⟩
  | none =>
    rw [hV] at hv1
    obtain rfl := hv1
    have hsz1 := HK1.out.1
    have HB1 := Lib.hid (Blk.new w1 118 #[.int .i64 of, .iface T0 (.agg c0), .iface T1 (.agg c1), .iface T2 (.agg c2)])
    have F1 := (Frm.refl (fun _ => False) w1).alloc (.cells #[.int .i64 of, .iface T0 (.agg c0), .iface T1 (.agg c1), .iface T2 (.agg c2)] 118)
    have RS1 := Lib.hid (HRS1.out.frm F1)
    have KP1 := Lib.hid (HK1.out.trans (Kp.frm F1))
    clear F1
    obtain ⟨e1, he1⟩ : ∃ e1, (V bs (.choice of x0 x1 x2) e).1 = e1 := ⟨_, rfl⟩
    rw [he1] at RS1 HRS1
    have HX : Hid (L.rd V bs (.choice of x0 x1 x2) e = (.choice of (L.rd V bs x0 e1).1 (L.rd V bs x1 (L.rd V bs x0 e1).2).1 (L.rd V bs x2 (L.rd V bs x1 (L.rd V bs x0 e1).2).2).1, (L.rd V bs x2 (L.rd V bs x1 (L.rd V bs x0 e1).2).2).2)) := show _ = _ by rw [L.rd, L.at_none hV, he1]
    clear hV he1
    have hP_0 : P * L.nodes x0 ≤ 1000000 := Nat.le_trans (Nat.mul_le_mul_left P (by simp only [L.nodes]; omega)) hP
    have hb_0 : bs.length + 1 + 4 * L.levels x0 ≤ 1000000 := by simp only [L.levels] at hb; omega
    go_wp2_with fail
    refine (I0.out _ lo bs _ _ RS1.out (HInv.out _ _ KP1.out.t HI.out) (Nat.le_trans hn0 KP1.out.1) (by omega) hP_0 (H0.out.kp KP1.out)).mono ?_
    rintro _ w2 ⟨⟨v2, rfl, hv2⟩, rs2, k2⟩
    have HB2 : Hid (Blk w2 w1.heap.size 118 #[.int .i64 of, .iface T0 (.agg c0), .iface T1 (.agg c1), .iface T2 (.agg c2)]) := (k2.2 _ (by unfold Own3; decide) _ _ HB1.out).trans HB1.out
    obtain ⟨T0', c0', rfl⟩ := Rep.form hv2
    have U0_2 := Lib.hid (hv2.sub (A' := fun b => b < n0 ∨ w.heap.size ≤ b) fun b hb _ => hb.imp id fun h => Nat.le_trans KP1.out.1 h)
    have RS2 := Lib.hid rs2
    have KP2 := Lib.hid (KP1.out.trans k2)
    have g2_0 : w2.cell? ⟨w1.heap.size, 0, none⟩ = _ := HB2.out.cell 0
    have g2_1 : w2.cell? ⟨w1.heap.size, 1, none⟩ = _ := HB2.out.cell 1
    have g2_2 : w2.cell? ⟨w1.heap.size, 2, none⟩ = _ := HB2.out.cell 2
    have g2_3 : w2.cell? ⟨w1.heap.size, 3, none⟩ = _ := HB2.out.cell 3
    clear hv2 rs2 k2 
    have hP_1 : P * L.nodes x1 ≤ 1000000 := Nat.le_trans (Nat.mul_le_mul_left P (by simp only [L.nodes]; omega)) hP
    have hb_1 : bs.length + 1 + 4 * L.levels x1 ≤ 1000000 := by simp only [L.levels] at hb; omega
    go_wp2_with fail
    refine (I1.out _ lo bs _ _ RS2.out (HInv.out _ _ KP2.out.t HI.out) (Nat.le_trans hn0 KP2.out.1) (by omega) hP_1 (H1.out.kp KP2.out)).mono ?_
    rintro _ w3 ⟨⟨v3, rfl, hv3⟩, rs3, k3⟩
    have HB3 : Hid (Blk w3 w1.heap.size 118 #[.int .i64 of, .iface T0 (.agg c0), .iface T1 (.agg c1), .iface T2 (.agg c2)]) := (k3.2 _ (by unfold Own3; decide) _ _ HB2.out).trans HB2.out
    obtain ⟨T1', c1', rfl⟩ := Rep.form hv3
    have U1_3 := Lib.hid (hv3.sub (A' := fun b => b < n0 ∨ w.heap.size ≤ b) fun b hb _ => hb.imp id fun h => Nat.le_trans KP2.out.1 h)
    have U0_3 := Lib.hid (U0_2.out.kp k3)
    have RS3 := Lib.hid rs3
    have KP3 := Lib.hid (KP2.out.trans k3)
    have g3_0 : w3.cell? ⟨w1.heap.size, 0, none⟩ = _ := HB3.out.cell 0
    have g3_1 : w3.cell? ⟨w1.heap.size, 1, none⟩ = _ := HB3.out.cell 1
    have g3_2 : w3.cell? ⟨w1.heap.size, 2, none⟩ = _ := HB3.out.cell 2
    have g3_3 : w3.cell? ⟨w1.heap.size, 3, none⟩ = _ := HB3.out.cell 3
    clear hv3 rs3 k3 g2_0 g2_1 g2_2 g2_3
    have hP_2 : P * L.nodes x2 ≤ 1000000 := Nat.le_trans (Nat.mul_le_mul_left P (by simp only [L.nodes]; omega)) hP
    have hb_2 : bs.length + 1 + 4 * L.levels x2 ≤ 1000000 := by simp only [L.levels] at hb; omega
    go_wp2_with fail
    refine (I2.out _ lo bs _ _ RS3.out (HInv.out _ _ KP3.out.t HI.out) (Nat.le_trans hn0 KP3.out.1) (by omega) hP_2 (H2.out.kp KP3.out)).mono ?_
    rintro _ w4 ⟨⟨v4, rfl, hv4⟩, rs4, k4⟩
    have HB4 : Hid (Blk w4 w1.heap.size 118 #[.int .i64 of, .iface T0 (.agg c0), .iface T1 (.agg c1), .iface T2 (.agg c2)]) := (k4.2 _ (by unfold Own3; decide) _ _ HB3.out).trans HB3.out
    obtain ⟨T2', c2', rfl⟩ := Rep.form hv4
    have U2_4 := Lib.hid (hv4.sub (A' := fun b => b < n0 ∨ w.heap.size ≤ b) fun b hb _ => hb.imp id fun h => Nat.le_trans KP3.out.1 h)
    have U0_4 := Lib.hid (U0_3.out.kp k4)
    have U1_4 := Lib.hid (U1_3.out.kp k4)
    have RS4 := Lib.hid rs4
    have KP4 := Lib.hid (KP3.out.trans k4)
    have g4_0 : w4.cell? ⟨w1.heap.size, 0, none⟩ = _ := HB4.out.cell 0
    have g4_1 : w4.cell? ⟨w1.heap.size, 1, none⟩ = _ := HB4.out.cell 1
    have g4_2 : w4.cell? ⟨w1.heap.size, 2, none⟩ = _ := HB4.out.cell 2
    have g4_3 : w4.cell? ⟨w1.heap.size, 3, none⟩ = _ := HB4.out.cell 3
    clear hv4 rs4 k4 g3_0 g3_1 g3_2 g3_3
    go_wp2_with fail
    go_ret
    refine ⟨⟨_, rfl, ?_⟩, by rw [HX.out]; exact RS4.out, KP4.out⟩
    rw [HX.out]
    exact ⟨_, _, _, rfl, U0_4.out, U1_4.out, U2_4.out⟩
set_option maxRecDepth 100000 in
set_option maxHeartbeats 2000000 in
theorem read_loop (hP1 : 1 ≤ P) (hvis : Vis n0 R E F caps V Inv) {x0 : L.Tm} {x1 : L.Tm} (hx0 : ReadOk n0 R E F caps V Inv P x0) (hx1 : ReadOk n0 R E F caps V Inv P x1) : ReadOk n0 R E F caps V Inv P (.loop x0 x1) := by
  intro w lo bs e v hrs hinv hn0 hb hP hrep
  have HREP := Lib.hid hrep
  have HRS := Lib.hid hrs
  have HI := Lib.hid hinv
  have HInv := Lib.hid hvis.1
  have HM := Lib.hid hvis.2.1
  have HV := Lib.hid hvis.2.2
  have hbs : bs.length ≤ 1000000 := by omega
  clear hrs hinv hvis
  obtain ⟨w0, w1, rfl, r0, r1⟩ := hrep
  obtain ⟨T0, c0, rfl⟩ := Rep.form r0
  have H0 := Lib.hid r0
  have I0 := Lib.hid hx0
  clear r0 hx0
  obtain ⟨T1, c1, rfl⟩ := Rep.form r1
  have H1 := Lib.hid r1
  have I1 := Lib.hid hx1
  clear r1 hx1
  have a0 := fun W x => assert_row_no W 120 x (by decide)
  have a1 := fun W x => assert_assign_no W 120 x (by decide)
  have a2 := fun W x => assert_choice_no W 120 x (by decide)
  have a3 := assert_loop_yes
  obtain ⟨sv, hbk, hR, hlo, hBn⟩ := HRS.out.rd
  have d1 : ∀ o, (w.alloc o).cell? ⟨R, 1, none⟩ = some (.func (.func F) #[] caps) := fun o => (hbk.alloc o).cell 1
  have HF : ∀ o, Frm (fun _ => False) w (w.alloc o) := fun o => (Frm.refl (fun _ => False) w).alloc o
  clear hbk hR hlo hBn
  go_enter Tryz.func28, Tryz.ntmps28
  go_wp2_with (refine wpList_callv rfl (.tmp 49) (.tmp 50) _ rfl F caps (.iface 120 (.agg #[.iface T0 (.agg c0), .iface T1 (.agg c1)])) rfl rfl (HM.out _ _) ?_)
  intro KK hKK
  refine (HV.out _ lo bs e (.loop x0 x1) _ (HRS.out.frm (HF _)) (HInv.out _ _ (Kt.frm (HF _)) HI.out) (by simp; omega) hbs (HREP.out.kt (Kt.frm (HF _))) rfl (Nat.le_trans (Nat.le_mul_of_pos_left _ hP1) hP)).mono ?_
  rintro _ w1 ⟨⟨v1, rfl, hv1⟩, rs1, k1⟩
  have HRS1 := Lib.hid rs1
  have HK1 := Lib.hid ((Kp.frm (HF _)).trans k1)
  clear rs1 k1 HF d1
  refine hKK _ _ ?_
  clear hKK KK
  cases hV : (V bs (.loop x0 x1) e).2 with
  | some u =>
    rw [hV] at hv1
    have HX : Hid (L.rd V bs (.loop x0 x1) e = (u, (V bs (.loop x0 x1) e).1)) := show _ = _ by rw [L.rd, L.at_some hV]
    obtain ⟨T9, x9, rfl⟩ := Rep.form hv1
    have HU := Lib.hid (hv1.sub (A' := fun b => b < n0 ∨ w.heap.size ≤ b) fun b hb _ => .inl hb)
    clear hv1 hV
    go_wp2_with fail
    go_ret
    exact ⟨⟨_, rfl, by rw [HX.out]; exact HU.out⟩, by rw [HX.out]; exact HRS1.out, HK1.out⟩
  | none =>
    rw [hV] at hv1
    obtain rfl := hv1
    have hsz1 := HK1.out.1
    have HB1 := Lib.hid (Blk.new w1 120 #[.iface T0 (.agg c0), .iface T1 (.agg c1)])
    have F1 := (Frm.refl (fun _ => False) w1).alloc (.cells #[.iface T0 (.agg c0), .iface T1 (.agg c1)] 120)
    have RS1 := Lib.hid (HRS1.out.frm F1)
    have KP1 := Lib.hid (HK1.out.trans (Kp.frm F1))
    clear F1
    obtain ⟨e1, he1⟩ : ∃ e1, (V bs (.loop x0 x1) e).1 = e1 := ⟨_, rfl⟩
    rw [he1] at RS1 HRS1
    have HX : Hid (L.rd V bs (.loop x0 x1) e = (.loop (L.rd V bs x0 e1).1 (L.rd V bs x1 (L.rd V bs x0 e1).2).1, (L.rd V bs x1 (L.rd V bs x0 e1).2).2)) := show _ = _ by rw [L.rd, L.at_none hV, he1]
    clear hV he1
    have hP_0 : P * L.nodes x0 ≤ 1000000 := Nat.le_trans (Nat.mul_le_mul_left P (by simp only [L.nodes]; omega)) hP
    have hb_0 : bs.length + 1 + 4 * L.levels x0 ≤ 1000000 := by simp only [L.levels] at hb; omega
    go_wp2_with fail
    refine (I0.out _ lo bs _ _ RS1.out (HInv.out _ _ KP1.out.t HI.out) (Nat.le_trans hn0 KP1.out.1) (by omega) hP_0 (H0.out.kp KP1.out)).mono ?_
    rintro _ w2 ⟨⟨v2, rfl, hv2⟩, rs2, k2⟩
    have HB2 : Hid (Blk w2 w1.heap.size 120 #[.iface T0 (.agg c0), .iface T1 (.agg c1)]) := (k2.2 _ (by unfold Own3; decide) _ _ HB1.out).trans HB1.out
    obtain ⟨T0', c0', rfl⟩ := Rep.form hv2
    have U0_2 := Lib.hid (hv2.sub (A' := fun b => b < n0 ∨ w.heap.size ≤ b) fun b hb _ => hb.imp id fun h => Nat.le_trans KP1.out.1 h)
    have RS2 := Lib.hid rs2
    have KP2 := Lib.hid (KP1.out.trans k2)
    have g2_0 : w2.cell? ⟨w1.heap.size, 0, none⟩ = _ := HB2.out.cell 0
    have g2_1 : w2.cell? ⟨w1.heap.size, 1, none⟩ = _ := HB2.out.cell 1
    clear hv2 rs2 k2 
    have hP_1 : P * L.nodes x1 ≤ 1000000 := Nat.le_trans (Nat.mul_le_mul_left P (by simp only [L.nodes]; omega)) hP
    have hb_1 : bs.length + 1 + 4 * L.levels x1 ≤ 1000000 := by simp only [L.levels] at hb; omega
    go_wp2_with fail
    refine (I1.out _ lo bs _ _ RS2.out (HInv.out _ _ KP2.out.t HI.out) (Nat.le_trans hn0 KP2.out.1) (by omega) hP_1 (H1.out.kp KP2.out)).mono ?_
    rintro _ w3 ⟨⟨v3, rfl, hv3⟩, rs3, k3⟩
    have HB3 : Hid (Blk w3 w1.heap.size 120 #[.iface T0 (.agg c0), .iface T1 (.agg c1)]) := (k3.2 _ (by unfold Own3; decide) _ _ HB2.out).trans HB2.out
    obtain ⟨T1', c1', rfl⟩ := Rep.form hv3
    have U1_3 := Lib.hid (hv3.sub (A' := fun b => b < n0 ∨ w.heap.size ≤ b) fun b hb _ => hb.imp id fun h => Nat.le_trans KP2.out.1 h)
    have U0_3 := Lib.hid (U0_2.out.kp k3)
    have RS3 := Lib.hid rs3
    have KP3 := Lib.hid (KP2.out.trans k3)
    have g3_0 : w3.cell? ⟨w1.heap.size, 0, none⟩ = _ := HB3.out.cell 0
    have g3_1 : w3.cell? ⟨w1.heap.size, 1, none⟩ = _ := HB3.out.cell 1
    clear hv3 rs3 k3 g2_0 g2_1
    go_wp2_with fail
    go_ret
    refine ⟨⟨_, rfl, ?_⟩, by rw [HX.out]; exact RS3.out, KP3.out⟩
    rw [HX.out]
    exact ⟨_, _, rfl, U0_3.out, U1_3.out⟩
set_option maxRecDepth 100000 in
set_option maxHeartbeats 2000000 in
theorem read_call (hP1 : 1 ≤ P) (hvis : Vis n0 R E F caps V Inv) (of : Int) (n : L.Bytes) (ts : List L.Tm)  (hts : ∀ t ∈ ts, ReadOk n0 R E F caps V Inv P t) : ReadOk n0 R E F caps V Inv P (.call of n ts) := by
  intro w lo bs e v hrs hinv hn0 hb hP hrep
  have HREP := Lib.hid hrep
  have HRS := Lib.hid hrs
  have HI := Lib.hid hinv
  have HInv := Lib.hid hvis.1
  have HM := Lib.hid hvis.2.1
  have HV := Lib.hid hvis.2.2
  have hbs : bs.length ≤ 1000000 := by omega
  clear hrs hinv hvis
  obtain ⟨sl, vs, rfl, hol, -, hrl⟩ := hrep
  obtain ⟨As, cl, rfl⟩ := own_form hol
  have HOL := Lib.hid hol
  have HRL := Lib.hid hrl
  clear hol hrl
  have a0 := fun W x => assert_row_no W 106 x (by decide)
  have a1 := fun W x => assert_assign_no W 106 x (by decide)
  have a2 := fun W x => assert_choice_no W 106 x (by decide)
  have a3 := fun W x => assert_loop_no W 106 x (by decide)
  have a4 := assert_call_yes
  obtain ⟨sv, hbk, hR, hlo, hBn⟩ := HRS.out.rd
  have d1 : ∀ o, (w.alloc o).cell? ⟨R, 1, none⟩ = some (.func (.func F) #[] caps) := fun o => (hbk.alloc o).cell 1
  have HF : ∀ o, Frm (fun _ => False) w (w.alloc o) := fun o => (Frm.refl (fun _ => False) w).alloc o
  clear hbk hR hlo hBn
  go_enter Tryz.func28, Tryz.ntmps28
  go_wp2_with (refine wpList_callv rfl (.tmp 49) (.tmp 50) _ rfl F caps (.iface 106 (.agg #[.int .i64 of, .string (str n), .slice As ts.length cl])) rfl rfl (HM.out _ _) ?_)
  intro KK hKK
  refine (HV.out _ lo bs e (.call of n ts) _ (HRS.out.frm (HF _)) (HInv.out _ _ (Kt.frm (HF _)) HI.out) (by simp; omega) hbs (HREP.out.kt (Kt.frm (HF _))) rfl (Nat.le_trans (Nat.le_mul_of_pos_left _ hP1) hP)).mono ?_
  rintro _ w1 ⟨⟨v1, rfl, hv1⟩, rs1, k1⟩
  have HRS1 := Lib.hid rs1
  have HK1 := Lib.hid ((Kp.frm (HF _)).trans k1)
  clear rs1 k1 HF d1
  refine hKK _ _ ?_
  clear hKK KK
  cases hV : (V bs (.call of n ts) e).2 with
  | some u =>
    rw [hV] at hv1
    have HX : Hid (L.rd V bs (.call of n ts) e = (u, (V bs (.call of n ts) e).1)) := show _ = _ by rw [L.rd, L.at_some hV]
    obtain ⟨T9, x9, rfl⟩ := Rep.form hv1
    have HU := Lib.hid (hv1.sub (A' := fun b => b < n0 ∨ w.heap.size ≤ b) fun b hb _ => .inl hb)
    clear hv1 hV
    go_wp2_with fail
    go_ret
    exact ⟨⟨_, rfl, by rw [HX.out]; exact HU.out⟩, by rw [HX.out]; exact HRS1.out, HK1.out⟩
  | none =>
    rw [hV] at hv1
    obtain rfl := hv1
    have hsz1 := HK1.out.1
    have HB1 := Lib.hid (Blk.new w1 106 #[.int .i64 of, .string (str n), .slice As ts.length cl])
    have F1 := (Frm.refl (fun _ => False) w1).alloc (.cells #[.int .i64 of, .string (str n), .slice As ts.length cl] 106)
    have RS1 := Lib.hid (HRS1.out.frm F1)
    have KP1 := Lib.hid (HK1.out.trans (Kp.frm F1))
    clear F1
    obtain ⟨e1, he1⟩ : ∃ e1, (V bs (.call of n ts) e).1 = e1 := ⟨_, rfl⟩
    rw [he1] at RS1 HRS1
    have HX : Hid (L.rd V bs (.call of n ts) e = (.call of n (L.rdL V bs ts e1).1, (L.rdL V bs ts e1).2)) := show _ = _ by rw [L.rd, L.at_none hV, he1]
    clear hV he1
    have hlen : ts.length ≤ 1000000 := by have := HRL.out.count; simp only [L.nodes] at hP; have := Nat.le_mul_of_pos_left (1 + L.nodesL ts) hP1; omega
    have hbt : ∀ t ∈ ts, bs.length + 4 * L.levels t ≤ 1000000 := fun t ht => by have := L.levelsL_mem ht; simp only [L.levels] at hb; omega
    have hpt : ∀ t ∈ ts, P * L.nodes t ≤ 1000000 := fun t ht => Nat.le_trans (Nat.mul_le_mul_left P (by have := L.nodesL_mem ht; simp only [L.nodes]; omega)) hP
    have HH := Lib.hid hts
    have HBT := Lib.hid hbt
    have HPT := Lib.hid hpt
    clear hts hbt hpt
    go_wp2_with fail
    refine (all_ok HInv.out HH.out RS1.out (HInv.out _ _ KP1.out.t HI.out) (Nat.le_trans hn0 KP1.out.1) HBT.out HPT.out hlen ((KP1.out.2 _ (by unfold Own3; decide)).row HOL.out) (HRL.out.kp KP1.out)).mono ?_
    rintro _ w2 ⟨⟨s2, y2, rfl, ho2, hr2⟩, rs2, k2⟩
    obtain ⟨A2, c2, rfl⟩ := own_form ho2
    have HB2 := (k2.2 _ (by unfold Own3; decide) _ _ HB1.out).trans HB1.out
    have g0 : w2.cell? ⟨w1.heap.size, 0, none⟩ = _ := (show Blk w2 w1.heap.size 106 _ from HB2).cell 0
    have g1 : w2.cell? ⟨w1.heap.size, 1, none⟩ = _ := (show Blk w2 w1.heap.size 106 _ from HB2).cell 1
    have HO2 := Lib.hid ho2
    have HR2 := Lib.hid (hr2.sub (A' := fun b => b < n0 ∨ w.heap.size ≤ b) fun b hb _ => hb.imp id fun h => Nat.le_trans KP1.out.1 h)
    have RS2 := Lib.hid rs2
    have KP2 := Lib.hid (KP1.out.trans k2)
    have hll := Lib.hid (L.rdL_len V bs ts e1)
    clear HB2 ho2 hr2 rs2 k2
    go_wp2_with fail
    go_ret
    refine ⟨⟨_, rfl, ?_⟩, by rw [HX.out]; exact RS2.out, KP2.out⟩
    rw [HX.out]
    exact ⟨_, _, rfl, by rw [hll.out]; exact own_base HO2.out (Nat.zero_le _), fun g hg => .inr (Nat.le_trans KP1.out.1 (own_ge HO2.out g hg)), HR2.out⟩
set_option maxRecDepth 100000 in
set_option maxHeartbeats 2000000 in
theorem read_binary (hP1 : 1 ≤ P) (hvis : Vis n0 R E F caps V Inv) (of : Int) {x0 : L.Tm} {x1 : L.Tm} (hx0 : ReadOk n0 R E F caps V Inv P x0) (hx1 : ReadOk n0 R E F caps V Inv P x1) : ReadOk n0 R E F caps V Inv P (.binary of x0 x1) := by
  intro w lo bs e v hrs hinv hn0 hb hP hrep
  have HREP := Lib.hid hrep
  have HRS := Lib.hid hrs
  have HI := Lib.hid hinv
  have HInv := Lib.hid hvis.1
  have HM := Lib.hid hvis.2.1
  have HV := Lib.hid hvis.2.2
  have hbs : bs.length ≤ 1000000 := by omega
  clear hrs hinv hvis
  obtain ⟨w0, w1, rfl, r0, r1⟩ := hrep
  obtain ⟨T0, c0, rfl⟩ := Rep.form r0
  have H0 := Lib.hid r0
  have I0 := Lib.hid hx0
  clear r0 hx0
  obtain ⟨T1, c1, rfl⟩ := Rep.form r1
  have H1 := Lib.hid r1
  have I1 := Lib.hid hx1
  clear r1 hx1
  have a0 := fun W x => assert_row_no W 122 x (by decide)
  have a1 := fun W x => assert_assign_no W 122 x (by decide)
  have a2 := fun W x => assert_choice_no W 122 x (by decide)
  have a3 := fun W x => assert_loop_no W 122 x (by decide)
  have a4 := fun W x => assert_call_no W 122 x (by decide)
  have a5 := assert_binary_yes
  obtain ⟨sv, hbk, hR, hlo, hBn⟩ := HRS.out.rd
  have d1 : ∀ o, (w.alloc o).cell? ⟨R, 1, none⟩ = some (.func (.func F) #[] caps) := fun o => (hbk.alloc o).cell 1
  have HF : ∀ o, Frm (fun _ => False) w (w.alloc o) := fun o => (Frm.refl (fun _ => False) w).alloc o
  clear hbk hR hlo hBn
  go_enter Tryz.func28, Tryz.ntmps28
  go_wp2_with (refine wpList_callv rfl (.tmp 49) (.tmp 50) _ rfl F caps (.iface 122 (.agg #[.int .i64 of, .iface T0 (.agg c0), .iface T1 (.agg c1)])) rfl rfl (HM.out _ _) ?_)
  intro KK hKK
  refine (HV.out _ lo bs e (.binary of x0 x1) _ (HRS.out.frm (HF _)) (HInv.out _ _ (Kt.frm (HF _)) HI.out) (by simp; omega) hbs (HREP.out.kt (Kt.frm (HF _))) rfl (Nat.le_trans (Nat.le_mul_of_pos_left _ hP1) hP)).mono ?_
  rintro _ w1 ⟨⟨v1, rfl, hv1⟩, rs1, k1⟩
  have HRS1 := Lib.hid rs1
  have HK1 := Lib.hid ((Kp.frm (HF _)).trans k1)
  clear rs1 k1 HF d1
  refine hKK _ _ ?_
  clear hKK KK
  cases hV : (V bs (.binary of x0 x1) e).2 with
  | some u =>
    rw [hV] at hv1
    have HX : Hid (L.rd V bs (.binary of x0 x1) e = (u, (V bs (.binary of x0 x1) e).1)) := show _ = _ by rw [L.rd, L.at_some hV]
    obtain ⟨T9, x9, rfl⟩ := Rep.form hv1
    have HU := Lib.hid (hv1.sub (A' := fun b => b < n0 ∨ w.heap.size ≤ b) fun b hb _ => .inl hb)
    clear hv1 hV
    go_wp2_with fail
    go_ret
    exact ⟨⟨_, rfl, by rw [HX.out]; exact HU.out⟩, by rw [HX.out]; exact HRS1.out, HK1.out⟩
  | none =>
    rw [hV] at hv1
    obtain rfl := hv1
    have hsz1 := HK1.out.1
    have HB1 := Lib.hid (Blk.new w1 122 #[.int .i64 of, .iface T0 (.agg c0), .iface T1 (.agg c1)])
    have F1 := (Frm.refl (fun _ => False) w1).alloc (.cells #[.int .i64 of, .iface T0 (.agg c0), .iface T1 (.agg c1)] 122)
    have RS1 := Lib.hid (HRS1.out.frm F1)
    have KP1 := Lib.hid (HK1.out.trans (Kp.frm F1))
    clear F1
    obtain ⟨e1, he1⟩ : ∃ e1, (V bs (.binary of x0 x1) e).1 = e1 := ⟨_, rfl⟩
    rw [he1] at RS1 HRS1
    have HX : Hid (L.rd V bs (.binary of x0 x1) e = (.binary of (L.rd V bs x0 e1).1 (L.rd V bs x1 (L.rd V bs x0 e1).2).1, (L.rd V bs x1 (L.rd V bs x0 e1).2).2)) := show _ = _ by rw [L.rd, L.at_none hV, he1]
    clear hV he1
    have hP_0 : P * L.nodes x0 ≤ 1000000 := Nat.le_trans (Nat.mul_le_mul_left P (by simp only [L.nodes]; omega)) hP
    have hb_0 : bs.length + 1 + 4 * L.levels x0 ≤ 1000000 := by simp only [L.levels] at hb; omega
    go_wp2_with fail
    refine (I0.out _ lo bs _ _ RS1.out (HInv.out _ _ KP1.out.t HI.out) (Nat.le_trans hn0 KP1.out.1) (by omega) hP_0 (H0.out.kp KP1.out)).mono ?_
    rintro _ w2 ⟨⟨v2, rfl, hv2⟩, rs2, k2⟩
    have HB2 : Hid (Blk w2 w1.heap.size 122 #[.int .i64 of, .iface T0 (.agg c0), .iface T1 (.agg c1)]) := (k2.2 _ (by unfold Own3; decide) _ _ HB1.out).trans HB1.out
    obtain ⟨T0', c0', rfl⟩ := Rep.form hv2
    have U0_2 := Lib.hid (hv2.sub (A' := fun b => b < n0 ∨ w.heap.size ≤ b) fun b hb _ => hb.imp id fun h => Nat.le_trans KP1.out.1 h)
    have RS2 := Lib.hid rs2
    have KP2 := Lib.hid (KP1.out.trans k2)
    have g2_0 : w2.cell? ⟨w1.heap.size, 0, none⟩ = _ := HB2.out.cell 0
    have g2_1 : w2.cell? ⟨w1.heap.size, 1, none⟩ = _ := HB2.out.cell 1
    have g2_2 : w2.cell? ⟨w1.heap.size, 2, none⟩ = _ := HB2.out.cell 2
    clear hv2 rs2 k2 
    have hP_1 : P * L.nodes x1 ≤ 1000000 := Nat.le_trans (Nat.mul_le_mul_left P (by simp only [L.nodes]; omega)) hP
    have hb_1 : bs.length + 1 + 4 * L.levels x1 ≤ 1000000 := by simp only [L.levels] at hb; omega
    go_wp2_with fail
    refine (I1.out _ lo bs _ _ RS2.out (HInv.out _ _ KP2.out.t HI.out) (Nat.le_trans hn0 KP2.out.1) (by omega) hP_1 (H1.out.kp KP2.out)).mono ?_
    rintro _ w3 ⟨⟨v3, rfl, hv3⟩, rs3, k3⟩
    have HB3 : Hid (Blk w3 w1.heap.size 122 #[.int .i64 of, .iface T0 (.agg c0), .iface T1 (.agg c1)]) := (k3.2 _ (by unfold Own3; decide) _ _ HB2.out).trans HB2.out
    obtain ⟨T1', c1', rfl⟩ := Rep.form hv3
    have U1_3 := Lib.hid (hv3.sub (A' := fun b => b < n0 ∨ w.heap.size ≤ b) fun b hb _ => hb.imp id fun h => Nat.le_trans KP2.out.1 h)
    have U0_3 := Lib.hid (U0_2.out.kp k3)
    have RS3 := Lib.hid rs3
    have KP3 := Lib.hid (KP2.out.trans k3)
    have g3_0 : w3.cell? ⟨w1.heap.size, 0, none⟩ = _ := HB3.out.cell 0
    have g3_1 : w3.cell? ⟨w1.heap.size, 1, none⟩ = _ := HB3.out.cell 1
    have g3_2 : w3.cell? ⟨w1.heap.size, 2, none⟩ = _ := HB3.out.cell 2
    clear hv3 rs3 k3 g2_0 g2_1 g2_2
    go_wp2_with fail
    go_ret
    refine ⟨⟨_, rfl, ?_⟩, by rw [HX.out]; exact RS3.out, KP3.out⟩
    rw [HX.out]
    exact ⟨_, _, rfl, U0_3.out, U1_3.out⟩
set_option maxRecDepth 100000 in
set_option maxHeartbeats 2000000 in
theorem read_doing (hP1 : 1 ≤ P) (hvis : Vis n0 R E F caps V Inv) {x0 : L.Tm} {x1 : L.Tm} (hx0 : ReadOk n0 R E F caps V Inv P x0) (hx1 : ReadOk n0 R E F caps V Inv P x1) : ReadOk n0 R E F caps V Inv P (.doing x0 x1) := by
  intro w lo bs e v hrs hinv hn0 hb hP hrep
  have HREP := Lib.hid hrep
  have HRS := Lib.hid hrs
  have HI := Lib.hid hinv
  have HInv := Lib.hid hvis.1
  have HM := Lib.hid hvis.2.1
  have HV := Lib.hid hvis.2.2
  have hbs : bs.length ≤ 1000000 := by omega
  clear hrs hinv hvis
  obtain ⟨w0, w1, rfl, r0, r1⟩ := hrep
  obtain ⟨T0, c0, rfl⟩ := Rep.form r0
  have H0 := Lib.hid r0
  have I0 := Lib.hid hx0
  clear r0 hx0
  obtain ⟨T1, c1, rfl⟩ := Rep.form r1
  have H1 := Lib.hid r1
  have I1 := Lib.hid hx1
  clear r1 hx1
  have a0 := fun W x => assert_row_no W 124 x (by decide)
  have a1 := fun W x => assert_assign_no W 124 x (by decide)
  have a2 := fun W x => assert_choice_no W 124 x (by decide)
  have a3 := fun W x => assert_loop_no W 124 x (by decide)
  have a4 := fun W x => assert_call_no W 124 x (by decide)
  have a5 := fun W x => assert_binary_no W 124 x (by decide)
  have a6 := assert_doing_yes
  obtain ⟨sv, hbk, hR, hlo, hBn⟩ := HRS.out.rd
  have d1 : ∀ o, (w.alloc o).cell? ⟨R, 1, none⟩ = some (.func (.func F) #[] caps) := fun o => (hbk.alloc o).cell 1
  have HF : ∀ o, Frm (fun _ => False) w (w.alloc o) := fun o => (Frm.refl (fun _ => False) w).alloc o
  clear hbk hR hlo hBn
  go_enter Tryz.func28, Tryz.ntmps28
  go_wp2_with (refine wpList_callv rfl (.tmp 49) (.tmp 50) _ rfl F caps (.iface 124 (.agg #[.iface T0 (.agg c0), .iface T1 (.agg c1)])) rfl rfl (HM.out _ _) ?_)
  intro KK hKK
  refine (HV.out _ lo bs e (.doing x0 x1) _ (HRS.out.frm (HF _)) (HInv.out _ _ (Kt.frm (HF _)) HI.out) (by simp; omega) hbs (HREP.out.kt (Kt.frm (HF _))) rfl (Nat.le_trans (Nat.le_mul_of_pos_left _ hP1) hP)).mono ?_
  rintro _ w1 ⟨⟨v1, rfl, hv1⟩, rs1, k1⟩
  have HRS1 := Lib.hid rs1
  have HK1 := Lib.hid ((Kp.frm (HF _)).trans k1)
  clear rs1 k1 HF d1
  refine hKK _ _ ?_
  clear hKK KK
  cases hV : (V bs (.doing x0 x1) e).2 with
  | some u =>
    rw [hV] at hv1
    have HX : Hid (L.rd V bs (.doing x0 x1) e = (u, (V bs (.doing x0 x1) e).1)) := show _ = _ by rw [L.rd, L.at_some hV]
    obtain ⟨T9, x9, rfl⟩ := Rep.form hv1
    have HU := Lib.hid (hv1.sub (A' := fun b => b < n0 ∨ w.heap.size ≤ b) fun b hb _ => .inl hb)
    clear hv1 hV
    go_wp2_with fail
    go_ret
    exact ⟨⟨_, rfl, by rw [HX.out]; exact HU.out⟩, by rw [HX.out]; exact HRS1.out, HK1.out⟩
  | none =>
    rw [hV] at hv1
    obtain rfl := hv1
    have hsz1 := HK1.out.1
    have HB1 := Lib.hid (Blk.new w1 124 #[.iface T0 (.agg c0), .iface T1 (.agg c1)])
    have F1 := (Frm.refl (fun _ => False) w1).alloc (.cells #[.iface T0 (.agg c0), .iface T1 (.agg c1)] 124)
    have RS1 := Lib.hid (HRS1.out.frm F1)
    have KP1 := Lib.hid (HK1.out.trans (Kp.frm F1))
    clear F1
    obtain ⟨e1, he1⟩ : ∃ e1, (V bs (.doing x0 x1) e).1 = e1 := ⟨_, rfl⟩
    rw [he1] at RS1 HRS1
    have HX : Hid (L.rd V bs (.doing x0 x1) e = (.doing (L.rd V bs x0 e1).1 (L.rd V bs x1 (L.rd V bs x0 e1).2).1, (L.rd V bs x1 (L.rd V bs x0 e1).2).2)) := show _ = _ by rw [L.rd, L.at_none hV, he1]
    clear hV he1
    have hP_0 : P * L.nodes x0 ≤ 1000000 := Nat.le_trans (Nat.mul_le_mul_left P (by simp only [L.nodes]; omega)) hP
    have hb_0 : bs.length + 1 + 4 * L.levels x0 ≤ 1000000 := by simp only [L.levels] at hb; omega
    go_wp2_with fail
    refine (I0.out _ lo bs _ _ RS1.out (HInv.out _ _ KP1.out.t HI.out) (Nat.le_trans hn0 KP1.out.1) (by omega) hP_0 (H0.out.kp KP1.out)).mono ?_
    rintro _ w2 ⟨⟨v2, rfl, hv2⟩, rs2, k2⟩
    have HB2 : Hid (Blk w2 w1.heap.size 124 #[.iface T0 (.agg c0), .iface T1 (.agg c1)]) := (k2.2 _ (by unfold Own3; decide) _ _ HB1.out).trans HB1.out
    obtain ⟨T0', c0', rfl⟩ := Rep.form hv2
    have U0_2 := Lib.hid (hv2.sub (A' := fun b => b < n0 ∨ w.heap.size ≤ b) fun b hb _ => hb.imp id fun h => Nat.le_trans KP1.out.1 h)
    have RS2 := Lib.hid rs2
    have KP2 := Lib.hid (KP1.out.trans k2)
    have g2_0 : w2.cell? ⟨w1.heap.size, 0, none⟩ = _ := HB2.out.cell 0
    have g2_1 : w2.cell? ⟨w1.heap.size, 1, none⟩ = _ := HB2.out.cell 1
    clear hv2 rs2 k2 
    have hP_1 : P * L.nodes x1 ≤ 1000000 := Nat.le_trans (Nat.mul_le_mul_left P (by simp only [L.nodes]; omega)) hP
    have hb_1 : bs.length + 1 + 4 * L.levels x1 ≤ 1000000 := by simp only [L.levels] at hb; omega
    go_wp2_with fail
    refine (I1.out _ lo bs _ _ RS2.out (HInv.out _ _ KP2.out.t HI.out) (Nat.le_trans hn0 KP2.out.1) (by omega) hP_1 (H1.out.kp KP2.out)).mono ?_
    rintro _ w3 ⟨⟨v3, rfl, hv3⟩, rs3, k3⟩
    have HB3 : Hid (Blk w3 w1.heap.size 124 #[.iface T0 (.agg c0), .iface T1 (.agg c1)]) := (k3.2 _ (by unfold Own3; decide) _ _ HB2.out).trans HB2.out
    obtain ⟨T1', c1', rfl⟩ := Rep.form hv3
    have U1_3 := Lib.hid (hv3.sub (A' := fun b => b < n0 ∨ w.heap.size ≤ b) fun b hb _ => hb.imp id fun h => Nat.le_trans KP2.out.1 h)
    have U0_3 := Lib.hid (U0_2.out.kp k3)
    have RS3 := Lib.hid rs3
    have KP3 := Lib.hid (KP2.out.trans k3)
    have g3_0 : w3.cell? ⟨w1.heap.size, 0, none⟩ = _ := HB3.out.cell 0
    have g3_1 : w3.cell? ⟨w1.heap.size, 1, none⟩ = _ := HB3.out.cell 1
    clear hv3 rs3 k3 g2_0 g2_1
    go_wp2_with fail
    go_ret
    refine ⟨⟨_, rfl, ?_⟩, by rw [HX.out]; exact RS3.out, KP3.out⟩
    rw [HX.out]
    exact ⟨_, _, rfl, U0_3.out, U1_3.out⟩
set_option maxRecDepth 100000 in
set_option maxHeartbeats 2000000 in
theorem read_fresh (hP1 : 1 ≤ P) (hvis : Vis n0 R E F caps V Inv) (of : Int) (n : L.Bytes) {x0 : L.Tm} {x1 : L.Tm} (hx0 : ReadOk n0 R E F caps V Inv P x0) (hx1 : ReadOk n0 R E F caps V Inv P x1) : ReadOk n0 R E F caps V Inv P (.fresh of n x0 x1) := by
  intro w lo bs e v hrs hinv hn0 hb hP hrep
  have HREP := Lib.hid hrep
  have HRS := Lib.hid hrs
  have HI := Lib.hid hinv
  have HInv := Lib.hid hvis.1
  have HM := Lib.hid hvis.2.1
  have HV := Lib.hid hvis.2.2
  have hbs : bs.length ≤ 1000000 := by omega
  clear hrs hinv hvis
  obtain ⟨w0, w1, rfl, r0, r1⟩ := hrep
  obtain ⟨T0, c0, rfl⟩ := Rep.form r0
  have H0 := Lib.hid r0
  have I0 := Lib.hid hx0
  clear r0 hx0
  obtain ⟨T1, c1, rfl⟩ := Rep.form r1
  have H1 := Lib.hid r1
  have I1 := Lib.hid hx1
  clear r1 hx1
  have a0 := fun W x => assert_row_no W 126 x (by decide)
  have a1 := fun W x => assert_assign_no W 126 x (by decide)
  have a2 := fun W x => assert_choice_no W 126 x (by decide)
  have a3 := fun W x => assert_loop_no W 126 x (by decide)
  have a4 := fun W x => assert_call_no W 126 x (by decide)
  have a5 := fun W x => assert_binary_no W 126 x (by decide)
  have a6 := fun W x => assert_doing_no W 126 x (by decide)
  have a7 := assert_fresh_yes
  obtain ⟨sv, hbk, hR, hlo, hBn⟩ := HRS.out.rd
  have d1 : ∀ o, (w.alloc o).cell? ⟨R, 1, none⟩ = some (.func (.func F) #[] caps) := fun o => (hbk.alloc o).cell 1
  have HF : ∀ o, Frm (fun _ => False) w (w.alloc o) := fun o => (Frm.refl (fun _ => False) w).alloc o
  clear hbk hR hlo hBn
  go_enter Tryz.func28, Tryz.ntmps28
  go_wp2_with (refine wpList_callv rfl (.tmp 49) (.tmp 50) _ rfl F caps (.iface 126 (.agg #[.int .i64 of, .string (str n), .iface T0 (.agg c0), .iface T1 (.agg c1)])) rfl rfl (HM.out _ _) ?_)
  intro KK hKK
  refine (HV.out _ lo bs e (.fresh of n x0 x1) _ (HRS.out.frm (HF _)) (HInv.out _ _ (Kt.frm (HF _)) HI.out) (by simp; omega) hbs (HREP.out.kt (Kt.frm (HF _))) rfl (Nat.le_trans (Nat.le_mul_of_pos_left _ hP1) hP)).mono ?_
  rintro _ w1 ⟨⟨v1, rfl, hv1⟩, rs1, k1⟩
  have HRS1 := Lib.hid rs1
  have HK1 := Lib.hid ((Kp.frm (HF _)).trans k1)
  clear rs1 k1 HF d1
  refine hKK _ _ ?_
  clear hKK KK
  cases hV : (V bs (.fresh of n x0 x1) e).2 with
  | some u =>
    rw [hV] at hv1
    have HX : Hid (L.rd V bs (.fresh of n x0 x1) e = (u, (V bs (.fresh of n x0 x1) e).1)) := show _ = _ by rw [L.rd, L.at_some hV]
    obtain ⟨T9, x9, rfl⟩ := Rep.form hv1
    have HU := Lib.hid (hv1.sub (A' := fun b => b < n0 ∨ w.heap.size ≤ b) fun b hb _ => .inl hb)
    clear hv1 hV
    go_wp2_with fail
    go_ret
    exact ⟨⟨_, rfl, by rw [HX.out]; exact HU.out⟩, by rw [HX.out]; exact HRS1.out, HK1.out⟩
  | none =>
    rw [hV] at hv1
    obtain rfl := hv1
    have hsz1 := HK1.out.1
    have HB1 := Lib.hid (Blk.new w1 126 #[.int .i64 of, .string (str n), .iface T0 (.agg c0), .iface T1 (.agg c1)])
    have F1 := (Frm.refl (fun _ => False) w1).alloc (.cells #[.int .i64 of, .string (str n), .iface T0 (.agg c0), .iface T1 (.agg c1)] 126)
    have RS1 := Lib.hid (HRS1.out.frm F1)
    have KP1 := Lib.hid (HK1.out.trans (Kp.frm F1))
    clear F1
    obtain ⟨e1, he1⟩ : ∃ e1, (V bs (.fresh of n x0 x1) e).1 = e1 := ⟨_, rfl⟩
    rw [he1] at RS1 HRS1
    have HX : Hid (L.rd V bs (.fresh of n x0 x1) e = (.fresh of n (L.rd V bs x0 e1).1 (L.rd V (bs ++ [⟨3, n, [], 0⟩]) x1 (L.rd V bs x0 e1).2).1, (L.rd V (bs ++ [⟨3, n, [], 0⟩]) x1 (L.rd V bs x0 e1).2).2)) := show _ = _ by rw [L.rd, L.at_none hV, he1]
    clear hV he1
    have hP_0 : P * L.nodes x0 ≤ 1000000 := Nat.le_trans (Nat.mul_le_mul_left P (by simp only [L.nodes]; omega)) hP
    have hb_0 : bs.length + 1 + 4 * L.levels x0 ≤ 1000000 := by simp only [L.levels] at hb; omega
    go_wp2_with fail
    refine (I0.out _ lo bs _ _ RS1.out (HInv.out _ _ KP1.out.t HI.out) (Nat.le_trans hn0 KP1.out.1) (by omega) hP_0 (H0.out.kp KP1.out)).mono ?_
    rintro _ w2 ⟨⟨v2, rfl, hv2⟩, rs2, k2⟩
    have HB2 : Hid (Blk w2 w1.heap.size 126 #[.int .i64 of, .string (str n), .iface T0 (.agg c0), .iface T1 (.agg c1)]) := (k2.2 _ (by unfold Own3; decide) _ _ HB1.out).trans HB1.out
    obtain ⟨T0', c0', rfl⟩ := Rep.form hv2
    have U0_2 := Lib.hid (hv2.sub (A' := fun b => b < n0 ∨ w.heap.size ≤ b) fun b hb _ => hb.imp id fun h => Nat.le_trans KP1.out.1 h)
    have RS2 := Lib.hid rs2
    have KP2 := Lib.hid (KP1.out.trans k2)
    have g2_0 : w2.cell? ⟨w1.heap.size, 0, none⟩ = _ := HB2.out.cell 0
    have g2_1 : w2.cell? ⟨w1.heap.size, 1, none⟩ = _ := HB2.out.cell 1
    have g2_2 : w2.cell? ⟨w1.heap.size, 2, none⟩ = _ := HB2.out.cell 2
    have g2_3 : w2.cell? ⟨w1.heap.size, 3, none⟩ = _ := HB2.out.cell 3
    clear hv2 rs2 k2 
    have hP_1 : P * L.nodes x1 ≤ 1000000 := Nat.le_trans (Nat.mul_le_mul_left P (by simp only [L.nodes]; omega)) hP
    have hb_1 : bs.length + 1 + 4 * L.levels x1 ≤ 1000000 := by simp only [L.levels] at hb; omega
    go_wp2_with fail
    have G2 := (Frm.refl (fun _ => False) w2).alloc (.cells #[.int .i64 3, .string (str n), .slice none 0 0, .int .i64 0] 67)
    have RSB := Lib.hid (RS2.out.frm G2)
    have KPB := Lib.hid (KP2.out.trans (Kp.frm G2))
    have HBB := Lib.hid (G2.blk HB2.out id)
    have hsb := bnds_one (b := ⟨3, n, [], 0⟩) (Blk.new w2 67 #[.int .i64 3, .string (str n), .slice none 0 0, .int .i64 0]) (World.ownsRow_nil _ _ _ _)
    skip
    have HSB := Lib.hid hsb
    clear hsb
    clear G2
    refine (within_ok HInv.out I1.out RSB.out (HInv.out _ _ KPB.out.t HI.out) (Nat.le_trans hn0 KPB.out.1) (by simp only [List.length_singleton]; omega) hP_1 (H1.out.kp KPB.out) HSB.out).mono ?_
    rintro _ w3 ⟨⟨v3, rfl, hv3⟩, rs3, k3⟩
    have HB3 : Hid (Blk w3 w1.heap.size 126 #[.int .i64 of, .string (str n), .iface T0 (.agg c0), .iface T1 (.agg c1)]) := (k3.2 _ (by unfold Own3; decide) _ _ HBB.out).trans HBB.out
    obtain ⟨T1', c1', rfl⟩ := Rep.form hv3
    have U1_3 := Lib.hid (hv3.sub (A' := fun b => b < n0 ∨ w.heap.size ≤ b) fun b hb _ => hb.imp id fun h => Nat.le_trans KPB.out.1 h)
    have U0_3 := Lib.hid ((U0_2.out.kt (Kt.frm ((Frm.refl (fun _ => False) _).alloc _))).kp k3)
    have RS3 := Lib.hid rs3
    have KP3 := Lib.hid (KPB.out.trans k3)
    have g3_0 : w3.cell? ⟨w1.heap.size, 0, none⟩ = _ := HB3.out.cell 0
    have g3_1 : w3.cell? ⟨w1.heap.size, 1, none⟩ = _ := HB3.out.cell 1
    have g3_2 : w3.cell? ⟨w1.heap.size, 2, none⟩ = _ := HB3.out.cell 2
    have g3_3 : w3.cell? ⟨w1.heap.size, 3, none⟩ = _ := HB3.out.cell 3
    clear hv3 rs3 k3 g2_0 g2_1 g2_2 g2_3
    go_wp2_with fail
    go_ret
    refine ⟨⟨_, rfl, ?_⟩, by rw [HX.out]; exact RS3.out, KP3.out⟩
    rw [HX.out]
    exact ⟨_, _, rfl, U0_3.out, U1_3.out⟩
set_option maxRecDepth 100000 in
set_option maxHeartbeats 2000000 in
theorem read_labelled (hP1 : 1 ≤ P) (hvis : Vis n0 R E F caps V Inv) (n : L.Bytes) {x0 : L.Tm} (hx0 : ReadOk n0 R E F caps V Inv P x0) : ReadOk n0 R E F caps V Inv P (.labelled n x0) := by
  intro w lo bs e v hrs hinv hn0 hb hP hrep
  have HREP := Lib.hid hrep
  have HRS := Lib.hid hrs
  have HI := Lib.hid hinv
  have HInv := Lib.hid hvis.1
  have HM := Lib.hid hvis.2.1
  have HV := Lib.hid hvis.2.2
  have hbs : bs.length ≤ 1000000 := by omega
  clear hrs hinv hvis
  obtain ⟨w0, rfl, r0⟩ := hrep
  obtain ⟨T0, c0, rfl⟩ := Rep.form r0
  have H0 := Lib.hid r0
  have I0 := Lib.hid hx0
  clear r0 hx0
  have a0 := fun W x => assert_row_no W 133 x (by decide)
  have a1 := fun W x => assert_assign_no W 133 x (by decide)
  have a2 := fun W x => assert_choice_no W 133 x (by decide)
  have a3 := fun W x => assert_loop_no W 133 x (by decide)
  have a4 := fun W x => assert_call_no W 133 x (by decide)
  have a5 := fun W x => assert_binary_no W 133 x (by decide)
  have a6 := fun W x => assert_doing_no W 133 x (by decide)
  have a7 := fun W x => assert_fresh_no W 133 x (by decide)
  have a8 := fun W x => assert_proc_no W 133 x (by decide)
  have a9 := assert_labelled_yes
  obtain ⟨sv, hbk, hR, hlo, hBn⟩ := HRS.out.rd
  have d1 : ∀ o, (w.alloc o).cell? ⟨R, 1, none⟩ = some (.func (.func F) #[] caps) := fun o => (hbk.alloc o).cell 1
  have HF : ∀ o, Frm (fun _ => False) w (w.alloc o) := fun o => (Frm.refl (fun _ => False) w).alloc o
  clear hbk hR hlo hBn
  go_enter Tryz.func28, Tryz.ntmps28
  go_wp2_with (refine wpList_callv rfl (.tmp 49) (.tmp 50) _ rfl F caps (.iface 133 (.agg #[.string (str n), .iface T0 (.agg c0)])) rfl rfl (HM.out _ _) ?_)
  intro KK hKK
  refine (HV.out _ lo bs e (.labelled n x0) _ (HRS.out.frm (HF _)) (HInv.out _ _ (Kt.frm (HF _)) HI.out) (by simp; omega) hbs (HREP.out.kt (Kt.frm (HF _))) rfl (Nat.le_trans (Nat.le_mul_of_pos_left _ hP1) hP)).mono ?_
  rintro _ w1 ⟨⟨v1, rfl, hv1⟩, rs1, k1⟩
  have HRS1 := Lib.hid rs1
  have HK1 := Lib.hid ((Kp.frm (HF _)).trans k1)
  clear rs1 k1 HF d1
  refine hKK _ _ ?_
  clear hKK KK
  cases hV : (V bs (.labelled n x0) e).2 with
  | some u =>
    rw [hV] at hv1
    have HX : Hid (L.rd V bs (.labelled n x0) e = (u, (V bs (.labelled n x0) e).1)) := show _ = _ by rw [L.rd, L.at_some hV]
    obtain ⟨T9, x9, rfl⟩ := Rep.form hv1
    have HU := Lib.hid (hv1.sub (A' := fun b => b < n0 ∨ w.heap.size ≤ b) fun b hb _ => .inl hb)
    clear hv1 hV
    go_wp2_with fail
    go_ret
    exact ⟨⟨_, rfl, by rw [HX.out]; exact HU.out⟩, by rw [HX.out]; exact HRS1.out, HK1.out⟩
  | none =>
    rw [hV] at hv1
    obtain rfl := hv1
    have hsz1 := HK1.out.1
    have HB1 := Lib.hid (Blk.new w1 133 #[.string (str n), .iface T0 (.agg c0)])
    have F1 := (Frm.refl (fun _ => False) w1).alloc (.cells #[.string (str n), .iface T0 (.agg c0)] 133)
    have RS1 := Lib.hid (HRS1.out.frm F1)
    have KP1 := Lib.hid (HK1.out.trans (Kp.frm F1))
    clear F1
    obtain ⟨e1, he1⟩ : ∃ e1, (V bs (.labelled n x0) e).1 = e1 := ⟨_, rfl⟩
    rw [he1] at RS1 HRS1
    have HX : Hid (L.rd V bs (.labelled n x0) e = (.labelled n (L.rd V (bs ++ [⟨4, n, [], 0⟩]) x0 e1).1, (L.rd V (bs ++ [⟨4, n, [], 0⟩]) x0 e1).2)) := show _ = _ by rw [L.rd, L.at_none hV, he1]
    clear hV he1
    have hP_0 : P * L.nodes x0 ≤ 1000000 := Nat.le_trans (Nat.mul_le_mul_left P (by simp only [L.nodes]; omega)) hP
    have hb_0 : bs.length + 1 + 4 * L.levels x0 ≤ 1000000 := by simp only [L.levels] at hb; omega
    go_wp2_with fail
    have G1 := (Frm.refl (fun _ => False) (w1.alloc (.cells #[.string (str n), .iface T0 (.agg c0)] 133))).alloc (.cells #[.int .i64 4, .string (str n), .slice none 0 0, .int .i64 0] 67)
    have RSB := Lib.hid (RS1.out.frm G1)
    have KPB := Lib.hid (KP1.out.trans (Kp.frm G1))
    have HBB := Lib.hid (G1.blk HB1.out id)
    have hsb := bnds_one (b := ⟨4, n, [], 0⟩) (Blk.new (w1.alloc (.cells #[.string (str n), .iface T0 (.agg c0)] 133)) 67 #[.int .i64 4, .string (str n), .slice none 0 0, .int .i64 0]) (World.ownsRow_nil _ _ _ _)
    rw [World.size_alloc] at hsb
    have HSB := Lib.hid hsb
    clear hsb
    clear G1
    refine (within_ok HInv.out I0.out RSB.out (HInv.out _ _ KPB.out.t HI.out) (Nat.le_trans hn0 KPB.out.1) (by simp only [List.length_singleton]; omega) hP_0 (H0.out.kp KPB.out) HSB.out).mono ?_
    rintro _ w2 ⟨⟨v2, rfl, hv2⟩, rs2, k2⟩
    have HB2 : Hid (Blk w2 w1.heap.size 133 #[.string (str n), .iface T0 (.agg c0)]) := (k2.2 _ (by unfold Own3; decide) _ _ HBB.out).trans HBB.out
    obtain ⟨T0', c0', rfl⟩ := Rep.form hv2
    have U0_2 := Lib.hid (hv2.sub (A' := fun b => b < n0 ∨ w.heap.size ≤ b) fun b hb _ => hb.imp id fun h => Nat.le_trans KPB.out.1 h)
    have RS2 := Lib.hid rs2
    have KP2 := Lib.hid (KPB.out.trans k2)
    have g2_0 : w2.cell? ⟨w1.heap.size, 0, none⟩ = _ := HB2.out.cell 0
    have g2_1 : w2.cell? ⟨w1.heap.size, 1, none⟩ = _ := HB2.out.cell 1
    clear hv2 rs2 k2 
    go_wp2_with fail
    go_ret
    refine ⟨⟨_, rfl, ?_⟩, by rw [HX.out]; exact RS2.out, KP2.out⟩
    rw [HX.out]
    exact ⟨_, rfl, U0_2.out⟩
set_option maxRecDepth 100000 in
set_option maxHeartbeats 2000000 in
theorem read_skip (hP1 : 1 ≤ P) (hvis : Vis n0 R E F caps V Inv)  : ReadOk n0 R E F caps V Inv P (.skip) := by
  intro w lo bs e v hrs hinv hn0 hb hP hrep
  have HREP := Lib.hid hrep
  have HRS := Lib.hid hrs
  have HI := Lib.hid hinv
  have HInv := Lib.hid hvis.1
  have HM := Lib.hid hvis.2.1
  have HV := Lib.hid hvis.2.2
  have hbs : bs.length ≤ 1000000 := by omega
  clear hrs hinv hvis
  obtain rfl := hrep
  have a0 := fun W x => assert_row_no W 166 x (by decide)
  have a1 := fun W x => assert_assign_no W 166 x (by decide)
  have a2 := fun W x => assert_choice_no W 166 x (by decide)
  have a3 := fun W x => assert_loop_no W 166 x (by decide)
  have a4 := fun W x => assert_call_no W 166 x (by decide)
  have a5 := fun W x => assert_binary_no W 166 x (by decide)
  have a6 := fun W x => assert_doing_no W 166 x (by decide)
  have a7 := fun W x => assert_fresh_no W 166 x (by decide)
  have a8 := fun W x => assert_proc_no W 166 x (by decide)
  have a9 := fun W x => assert_labelled_no W 166 x (by decide)
  obtain ⟨sv, hbk, hR, hlo, hBn⟩ := HRS.out.rd
  have d1 : ∀ o, (w.alloc o).cell? ⟨R, 1, none⟩ = some (.func (.func F) #[] caps) := fun o => (hbk.alloc o).cell 1
  have HF : ∀ o, Frm (fun _ => False) w (w.alloc o) := fun o => (Frm.refl (fun _ => False) w).alloc o
  clear hbk hR hlo hBn
  go_enter Tryz.func28, Tryz.ntmps28
  go_wp2_with (refine wpList_callv rfl (.tmp 49) (.tmp 50) _ rfl F caps (.iface 166 (.agg #[])) rfl rfl (HM.out _ _) ?_)
  intro KK hKK
  refine (HV.out _ lo bs e (.skip) _ (HRS.out.frm (HF _)) (HInv.out _ _ (Kt.frm (HF _)) HI.out) (by simp; omega) hbs (HREP.out.kt (Kt.frm (HF _))) rfl (Nat.le_trans (Nat.le_mul_of_pos_left _ hP1) hP)).mono ?_
  rintro _ w1 ⟨⟨v1, rfl, hv1⟩, rs1, k1⟩
  have HRS1 := Lib.hid rs1
  have HK1 := Lib.hid ((Kp.frm (HF _)).trans k1)
  clear rs1 k1 HF d1
  refine hKK _ _ ?_
  clear hKK KK
  cases hV : (V bs (.skip) e).2 with
  | some u =>
    rw [hV] at hv1
    have HX : Hid (L.rd V bs (.skip) e = (u, (V bs (.skip) e).1)) := show _ = _ by rw [L.rd, L.at_some hV]
    obtain ⟨T9, x9, rfl⟩ := Rep.form hv1
    have HU := Lib.hid (hv1.sub (A' := fun b => b < n0 ∨ w.heap.size ≤ b) fun b hb _ => .inl hb)
    clear hv1 hV
    go_wp2_with fail
    go_ret
    exact ⟨⟨_, rfl, by rw [HX.out]; exact HU.out⟩, by rw [HX.out]; exact HRS1.out, HK1.out⟩
  | none =>
    rw [hV] at hv1
    obtain rfl := hv1
    have HX : Hid (L.rd V bs (.skip) e = ((.skip), (V bs (.skip) e).1)) := show _ = _ by rw [L.rd, L.at_none hV]
    clear hV
    have HU := Lib.hid ((HREP.out.kp HK1.out).sub (A' := fun b => b < n0 ∨ w.heap.size ≤ b) fun b hb _ => .inl hb)
    go_wp2_with fail
    go_ret
    exact ⟨⟨_, rfl, by rw [HX.out]; exact HU.out⟩, by rw [HX.out]; exact HRS1.out, HK1.out⟩
set_option maxRecDepth 100000 in
set_option maxHeartbeats 2000000 in
theorem read_stop (hP1 : 1 ≤ P) (hvis : Vis n0 R E F caps V Inv) (of : Int) : ReadOk n0 R E F caps V Inv P (.stop of) := by
  intro w lo bs e v hrs hinv hn0 hb hP hrep
  have HREP := Lib.hid hrep
  have HRS := Lib.hid hrs
  have HI := Lib.hid hinv
  have HInv := Lib.hid hvis.1
  have HM := Lib.hid hvis.2.1
  have HV := Lib.hid hvis.2.2
  have hbs : bs.length ≤ 1000000 := by omega
  clear hrs hinv hvis
  obtain rfl := hrep
  have a0 := fun W x => assert_row_no W 168 x (by decide)
  have a1 := fun W x => assert_assign_no W 168 x (by decide)
  have a2 := fun W x => assert_choice_no W 168 x (by decide)
  have a3 := fun W x => assert_loop_no W 168 x (by decide)
  have a4 := fun W x => assert_call_no W 168 x (by decide)
  have a5 := fun W x => assert_binary_no W 168 x (by decide)
  have a6 := fun W x => assert_doing_no W 168 x (by decide)
  have a7 := fun W x => assert_fresh_no W 168 x (by decide)
  have a8 := fun W x => assert_proc_no W 168 x (by decide)
  have a9 := fun W x => assert_labelled_no W 168 x (by decide)
  obtain ⟨sv, hbk, hR, hlo, hBn⟩ := HRS.out.rd
  have d1 : ∀ o, (w.alloc o).cell? ⟨R, 1, none⟩ = some (.func (.func F) #[] caps) := fun o => (hbk.alloc o).cell 1
  have HF : ∀ o, Frm (fun _ => False) w (w.alloc o) := fun o => (Frm.refl (fun _ => False) w).alloc o
  clear hbk hR hlo hBn
  go_enter Tryz.func28, Tryz.ntmps28
  go_wp2_with (refine wpList_callv rfl (.tmp 49) (.tmp 50) _ rfl F caps (.iface 168 (.agg #[.int .i64 of])) rfl rfl (HM.out _ _) ?_)
  intro KK hKK
  refine (HV.out _ lo bs e (.stop of) _ (HRS.out.frm (HF _)) (HInv.out _ _ (Kt.frm (HF _)) HI.out) (by simp; omega) hbs (HREP.out.kt (Kt.frm (HF _))) rfl (Nat.le_trans (Nat.le_mul_of_pos_left _ hP1) hP)).mono ?_
  rintro _ w1 ⟨⟨v1, rfl, hv1⟩, rs1, k1⟩
  have HRS1 := Lib.hid rs1
  have HK1 := Lib.hid ((Kp.frm (HF _)).trans k1)
  clear rs1 k1 HF d1
  refine hKK _ _ ?_
  clear hKK KK
  cases hV : (V bs (.stop of) e).2 with
  | some u =>
    rw [hV] at hv1
    have HX : Hid (L.rd V bs (.stop of) e = (u, (V bs (.stop of) e).1)) := show _ = _ by rw [L.rd, L.at_some hV]
    obtain ⟨T9, x9, rfl⟩ := Rep.form hv1
    have HU := Lib.hid (hv1.sub (A' := fun b => b < n0 ∨ w.heap.size ≤ b) fun b hb _ => .inl hb)
    clear hv1 hV
    go_wp2_with fail
    go_ret
    exact ⟨⟨_, rfl, by rw [HX.out]; exact HU.out⟩, by rw [HX.out]; exact HRS1.out, HK1.out⟩
  | none =>
    rw [hV] at hv1
    obtain rfl := hv1
    have HX : Hid (L.rd V bs (.stop of) e = ((.stop of), (V bs (.stop of) e).1)) := show _ = _ by rw [L.rd, L.at_none hV]
    clear hV
    have HU := Lib.hid ((HREP.out.kp HK1.out).sub (A' := fun b => b < n0 ∨ w.heap.size ≤ b) fun b hb _ => .inl hb)
    go_wp2_with fail
    go_ret
    exact ⟨⟨_, rfl, by rw [HX.out]; exact HU.out⟩, by rw [HX.out]; exact HRS1.out, HK1.out⟩
set_option maxRecDepth 100000 in
set_option maxHeartbeats 2000000 in
theorem read_fault (hP1 : 1 ≤ P) (hvis : Vis n0 R E F caps V Inv) (of : Int) : ReadOk n0 R E F caps V Inv P (.fault of) := by
  intro w lo bs e v hrs hinv hn0 hb hP hrep
  have HREP := Lib.hid hrep
  have HRS := Lib.hid hrs
  have HI := Lib.hid hinv
  have HInv := Lib.hid hvis.1
  have HM := Lib.hid hvis.2.1
  have HV := Lib.hid hvis.2.2
  have hbs : bs.length ≤ 1000000 := by omega
  clear hrs hinv hvis
  obtain rfl := hrep
  have a0 := fun W x => assert_row_no W 169 x (by decide)
  have a1 := fun W x => assert_assign_no W 169 x (by decide)
  have a2 := fun W x => assert_choice_no W 169 x (by decide)
  have a3 := fun W x => assert_loop_no W 169 x (by decide)
  have a4 := fun W x => assert_call_no W 169 x (by decide)
  have a5 := fun W x => assert_binary_no W 169 x (by decide)
  have a6 := fun W x => assert_doing_no W 169 x (by decide)
  have a7 := fun W x => assert_fresh_no W 169 x (by decide)
  have a8 := fun W x => assert_proc_no W 169 x (by decide)
  have a9 := fun W x => assert_labelled_no W 169 x (by decide)
  obtain ⟨sv, hbk, hR, hlo, hBn⟩ := HRS.out.rd
  have d1 : ∀ o, (w.alloc o).cell? ⟨R, 1, none⟩ = some (.func (.func F) #[] caps) := fun o => (hbk.alloc o).cell 1
  have HF : ∀ o, Frm (fun _ => False) w (w.alloc o) := fun o => (Frm.refl (fun _ => False) w).alloc o
  clear hbk hR hlo hBn
  go_enter Tryz.func28, Tryz.ntmps28
  go_wp2_with (refine wpList_callv rfl (.tmp 49) (.tmp 50) _ rfl F caps (.iface 169 (.agg #[.int .i64 of])) rfl rfl (HM.out _ _) ?_)
  intro KK hKK
  refine (HV.out _ lo bs e (.fault of) _ (HRS.out.frm (HF _)) (HInv.out _ _ (Kt.frm (HF _)) HI.out) (by simp; omega) hbs (HREP.out.kt (Kt.frm (HF _))) rfl (Nat.le_trans (Nat.le_mul_of_pos_left _ hP1) hP)).mono ?_
  rintro _ w1 ⟨⟨v1, rfl, hv1⟩, rs1, k1⟩
  have HRS1 := Lib.hid rs1
  have HK1 := Lib.hid ((Kp.frm (HF _)).trans k1)
  clear rs1 k1 HF d1
  refine hKK _ _ ?_
  clear hKK KK
  cases hV : (V bs (.fault of) e).2 with
  | some u =>
    rw [hV] at hv1
    have HX : Hid (L.rd V bs (.fault of) e = (u, (V bs (.fault of) e).1)) := show _ = _ by rw [L.rd, L.at_some hV]
    obtain ⟨T9, x9, rfl⟩ := Rep.form hv1
    have HU := Lib.hid (hv1.sub (A' := fun b => b < n0 ∨ w.heap.size ≤ b) fun b hb _ => .inl hb)
    clear hv1 hV
    go_wp2_with fail
    go_ret
    exact ⟨⟨_, rfl, by rw [HX.out]; exact HU.out⟩, by rw [HX.out]; exact HRS1.out, HK1.out⟩
  | none =>
    rw [hV] at hv1
    obtain rfl := hv1
    have HX : Hid (L.rd V bs (.fault of) e = ((.fault of), (V bs (.fault of) e).1)) := show _ = _ by rw [L.rd, L.at_none hV]
    clear hV
    have HU := Lib.hid ((HREP.out.kp HK1.out).sub (A' := fun b => b < n0 ∨ w.heap.size ≤ b) fun b hb _ => .inl hb)
    go_wp2_with fail
    go_ret
    exact ⟨⟨_, rfl, by rw [HX.out]; exact HU.out⟩, by rw [HX.out]; exact HRS1.out, HK1.out⟩
set_option maxRecDepth 100000 in
set_option maxHeartbeats 2000000 in
theorem read_num (hP1 : 1 ≤ P) (hvis : Vis n0 R E F caps V Inv) (of : Int) : ReadOk n0 R E F caps V Inv P (.num of) := by
  intro w lo bs e v hrs hinv hn0 hb hP hrep
  have HREP := Lib.hid hrep
  have HRS := Lib.hid hrs
  have HI := Lib.hid hinv
  have HInv := Lib.hid hvis.1
  have HM := Lib.hid hvis.2.1
  have HV := Lib.hid hvis.2.2
  have hbs : bs.length ≤ 1000000 := by omega
  clear hrs hinv hvis
  obtain rfl := hrep
  have a0 := fun W x => assert_row_no W 175 x (by decide)
  have a1 := fun W x => assert_assign_no W 175 x (by decide)
  have a2 := fun W x => assert_choice_no W 175 x (by decide)
  have a3 := fun W x => assert_loop_no W 175 x (by decide)
  have a4 := fun W x => assert_call_no W 175 x (by decide)
  have a5 := fun W x => assert_binary_no W 175 x (by decide)
  have a6 := fun W x => assert_doing_no W 175 x (by decide)
  have a7 := fun W x => assert_fresh_no W 175 x (by decide)
  have a8 := fun W x => assert_proc_no W 175 x (by decide)
  have a9 := fun W x => assert_labelled_no W 175 x (by decide)
  obtain ⟨sv, hbk, hR, hlo, hBn⟩ := HRS.out.rd
  have d1 : ∀ o, (w.alloc o).cell? ⟨R, 1, none⟩ = some (.func (.func F) #[] caps) := fun o => (hbk.alloc o).cell 1
  have HF : ∀ o, Frm (fun _ => False) w (w.alloc o) := fun o => (Frm.refl (fun _ => False) w).alloc o
  clear hbk hR hlo hBn
  go_enter Tryz.func28, Tryz.ntmps28
  go_wp2_with (refine wpList_callv rfl (.tmp 49) (.tmp 50) _ rfl F caps (.iface 175 (.agg #[.int .i64 of])) rfl rfl (HM.out _ _) ?_)
  intro KK hKK
  refine (HV.out _ lo bs e (.num of) _ (HRS.out.frm (HF _)) (HInv.out _ _ (Kt.frm (HF _)) HI.out) (by simp; omega) hbs (HREP.out.kt (Kt.frm (HF _))) rfl (Nat.le_trans (Nat.le_mul_of_pos_left _ hP1) hP)).mono ?_
  rintro _ w1 ⟨⟨v1, rfl, hv1⟩, rs1, k1⟩
  have HRS1 := Lib.hid rs1
  have HK1 := Lib.hid ((Kp.frm (HF _)).trans k1)
  clear rs1 k1 HF d1
  refine hKK _ _ ?_
  clear hKK KK
  cases hV : (V bs (.num of) e).2 with
  | some u =>
    rw [hV] at hv1
    have HX : Hid (L.rd V bs (.num of) e = (u, (V bs (.num of) e).1)) := show _ = _ by rw [L.rd, L.at_some hV]
    obtain ⟨T9, x9, rfl⟩ := Rep.form hv1
    have HU := Lib.hid (hv1.sub (A' := fun b => b < n0 ∨ w.heap.size ≤ b) fun b hb _ => .inl hb)
    clear hv1 hV
    go_wp2_with fail
    go_ret
    exact ⟨⟨_, rfl, by rw [HX.out]; exact HU.out⟩, by rw [HX.out]; exact HRS1.out, HK1.out⟩
  | none =>
    rw [hV] at hv1
    obtain rfl := hv1
    have HX : Hid (L.rd V bs (.num of) e = ((.num of), (V bs (.num of) e).1)) := show _ = _ by rw [L.rd, L.at_none hV]
    clear hV
    have HU := Lib.hid ((HREP.out.kp HK1.out).sub (A' := fun b => b < n0 ∨ w.heap.size ≤ b) fun b hb _ => .inl hb)
    go_wp2_with fail
    go_ret
    exact ⟨⟨_, rfl, by rw [HX.out]; exact HU.out⟩, by rw [HX.out]; exact HRS1.out, HK1.out⟩
set_option maxRecDepth 100000 in
set_option maxHeartbeats 2000000 in
theorem read_read (hP1 : 1 ≤ P) (hvis : Vis n0 R E F caps V Inv) (n : L.Bytes) : ReadOk n0 R E F caps V Inv P (.read n) := by
  intro w lo bs e v hrs hinv hn0 hb hP hrep
  have HREP := Lib.hid hrep
  have HRS := Lib.hid hrs
  have HI := Lib.hid hinv
  have HInv := Lib.hid hvis.1
  have HM := Lib.hid hvis.2.1
  have HV := Lib.hid hvis.2.2
  have hbs : bs.length ≤ 1000000 := by omega
  clear hrs hinv hvis
  obtain rfl := hrep
  have a0 := fun W x => assert_row_no W 93 x (by decide)
  have a1 := fun W x => assert_assign_no W 93 x (by decide)
  have a2 := fun W x => assert_choice_no W 93 x (by decide)
  have a3 := fun W x => assert_loop_no W 93 x (by decide)
  have a4 := fun W x => assert_call_no W 93 x (by decide)
  have a5 := fun W x => assert_binary_no W 93 x (by decide)
  have a6 := fun W x => assert_doing_no W 93 x (by decide)
  have a7 := fun W x => assert_fresh_no W 93 x (by decide)
  have a8 := fun W x => assert_proc_no W 93 x (by decide)
  have a9 := fun W x => assert_labelled_no W 93 x (by decide)
  obtain ⟨sv, hbk, hR, hlo, hBn⟩ := HRS.out.rd
  have d1 : ∀ o, (w.alloc o).cell? ⟨R, 1, none⟩ = some (.func (.func F) #[] caps) := fun o => (hbk.alloc o).cell 1
  have HF : ∀ o, Frm (fun _ => False) w (w.alloc o) := fun o => (Frm.refl (fun _ => False) w).alloc o
  clear hbk hR hlo hBn
  go_enter Tryz.func28, Tryz.ntmps28
  go_wp2_with (refine wpList_callv rfl (.tmp 49) (.tmp 50) _ rfl F caps (.iface 93 (.agg #[.string (str n)])) rfl rfl (HM.out _ _) ?_)
  intro KK hKK
  refine (HV.out _ lo bs e (.read n) _ (HRS.out.frm (HF _)) (HInv.out _ _ (Kt.frm (HF _)) HI.out) (by simp; omega) hbs (HREP.out.kt (Kt.frm (HF _))) rfl (Nat.le_trans (Nat.le_mul_of_pos_left _ hP1) hP)).mono ?_
  rintro _ w1 ⟨⟨v1, rfl, hv1⟩, rs1, k1⟩
  have HRS1 := Lib.hid rs1
  have HK1 := Lib.hid ((Kp.frm (HF _)).trans k1)
  clear rs1 k1 HF d1
  refine hKK _ _ ?_
  clear hKK KK
  cases hV : (V bs (.read n) e).2 with
  | some u =>
    rw [hV] at hv1
    have HX : Hid (L.rd V bs (.read n) e = (u, (V bs (.read n) e).1)) := show _ = _ by rw [L.rd, L.at_some hV]
    obtain ⟨T9, x9, rfl⟩ := Rep.form hv1
    have HU := Lib.hid (hv1.sub (A' := fun b => b < n0 ∨ w.heap.size ≤ b) fun b hb _ => .inl hb)
    clear hv1 hV
    go_wp2_with fail
    go_ret
    exact ⟨⟨_, rfl, by rw [HX.out]; exact HU.out⟩, by rw [HX.out]; exact HRS1.out, HK1.out⟩
  | none =>
    rw [hV] at hv1
    obtain rfl := hv1
    have HX : Hid (L.rd V bs (.read n) e = ((.read n), (V bs (.read n) e).1)) := show _ = _ by rw [L.rd, L.at_none hV]
    clear hV
    have HU := Lib.hid ((HREP.out.kp HK1.out).sub (A' := fun b => b < n0 ∨ w.heap.size ≤ b) fun b hb _ => .inl hb)
    go_wp2_with fail
    go_ret
    exact ⟨⟨_, rfl, by rw [HX.out]; exact HU.out⟩, by rw [HX.out]; exact HRS1.out, HK1.out⟩
set_option maxRecDepth 100000 in
set_option maxHeartbeats 2000000 in
theorem read_exit (hP1 : 1 ≤ P) (hvis : Vis n0 R E F caps V Inv) (of : Int) (n : L.Bytes) : ReadOk n0 R E F caps V Inv P (.exit of n) := by
  intro w lo bs e v hrs hinv hn0 hb hP hrep
  have HREP := Lib.hid hrep
  have HRS := Lib.hid hrs
  have HI := Lib.hid hinv
  have HInv := Lib.hid hvis.1
  have HM := Lib.hid hvis.2.1
  have HV := Lib.hid hvis.2.2
  have hbs : bs.length ≤ 1000000 := by omega
  clear hrs hinv hvis
  obtain rfl := hrep
  have a0 := fun W x => assert_row_no W 150 x (by decide)
  have a1 := fun W x => assert_assign_no W 150 x (by decide)
  have a2 := fun W x => assert_choice_no W 150 x (by decide)
  have a3 := fun W x => assert_loop_no W 150 x (by decide)
  have a4 := fun W x => assert_call_no W 150 x (by decide)
  have a5 := fun W x => assert_binary_no W 150 x (by decide)
  have a6 := fun W x => assert_doing_no W 150 x (by decide)
  have a7 := fun W x => assert_fresh_no W 150 x (by decide)
  have a8 := fun W x => assert_proc_no W 150 x (by decide)
  have a9 := fun W x => assert_labelled_no W 150 x (by decide)
  obtain ⟨sv, hbk, hR, hlo, hBn⟩ := HRS.out.rd
  have d1 : ∀ o, (w.alloc o).cell? ⟨R, 1, none⟩ = some (.func (.func F) #[] caps) := fun o => (hbk.alloc o).cell 1
  have HF : ∀ o, Frm (fun _ => False) w (w.alloc o) := fun o => (Frm.refl (fun _ => False) w).alloc o
  clear hbk hR hlo hBn
  go_enter Tryz.func28, Tryz.ntmps28
  go_wp2_with (refine wpList_callv rfl (.tmp 49) (.tmp 50) _ rfl F caps (.iface 150 (.agg #[.int .i64 of, .string (str n)])) rfl rfl (HM.out _ _) ?_)
  intro KK hKK
  refine (HV.out _ lo bs e (.exit of n) _ (HRS.out.frm (HF _)) (HInv.out _ _ (Kt.frm (HF _)) HI.out) (by simp; omega) hbs (HREP.out.kt (Kt.frm (HF _))) rfl (Nat.le_trans (Nat.le_mul_of_pos_left _ hP1) hP)).mono ?_
  rintro _ w1 ⟨⟨v1, rfl, hv1⟩, rs1, k1⟩
  have HRS1 := Lib.hid rs1
  have HK1 := Lib.hid ((Kp.frm (HF _)).trans k1)
  clear rs1 k1 HF d1
  refine hKK _ _ ?_
  clear hKK KK
  cases hV : (V bs (.exit of n) e).2 with
  | some u =>
    rw [hV] at hv1
    have HX : Hid (L.rd V bs (.exit of n) e = (u, (V bs (.exit of n) e).1)) := show _ = _ by rw [L.rd, L.at_some hV]
    obtain ⟨T9, x9, rfl⟩ := Rep.form hv1
    have HU := Lib.hid (hv1.sub (A' := fun b => b < n0 ∨ w.heap.size ≤ b) fun b hb _ => .inl hb)
    clear hv1 hV
    go_wp2_with fail
    go_ret
    exact ⟨⟨_, rfl, by rw [HX.out]; exact HU.out⟩, by rw [HX.out]; exact HRS1.out, HK1.out⟩
  | none =>
    rw [hV] at hv1
    obtain rfl := hv1
    have HX : Hid (L.rd V bs (.exit of n) e = ((.exit of n), (V bs (.exit of n) e).1)) := show _ = _ by rw [L.rd, L.at_none hV]
    clear hV
    have HU := Lib.hid ((HREP.out.kp HK1.out).sub (A' := fun b => b < n0 ∨ w.heap.size ≤ b) fun b hb _ => .inl hb)
    go_wp2_with fail
    go_ret
    exact ⟨⟨_, rfl, by rw [HX.out]; exact HU.out⟩, by rw [HX.out]; exact HRS1.out, HK1.out⟩
end
end Go.Proofs.YtpdbkdcdlafobaaGreatDoor
end
