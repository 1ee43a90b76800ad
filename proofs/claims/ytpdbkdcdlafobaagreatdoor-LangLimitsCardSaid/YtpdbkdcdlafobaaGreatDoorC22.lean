/- The writer at every term. Contracts of the program's functions, with no condition beyond what each theorem states. -/
import Derived.Test.YtpdbkdcdlafobaaGreatDoorC21
section
namespace Go.Proofs.YtpdbkdcdlafobaaGreatDoor
open Go.RowKit
theorem blocks_lit {w : World} {b : Nat} {l : L.Bytes} (h : WrAt w b l) {ts : List L.Tm} {vs : List Value} (ht : ∀ t ∈ ts, TmOk b t) (hr : RepL w (· < b) ts vs) {n : Nat} (hn : w.heap.size = n) (hlen : l.length + (L.blks ts).length ≤ 1000000000) (hp : ts.length ≤ 3) :
    Calls Tryz.prog 81 #[.pointer (some ⟨b, 0, none⟩), .slice (some ⟨n, 0, none⟩) ts.length ts.length] (w.alloc (.cells vs.toArray 34)) (WPost b (l ++ L.blks ts) w) := by
  subst hn
  have F := (Frm.refl (fun _ => False) w).alloc (.cells vs.toArray 34)
  refine (blocks_ok ht (h.frm F) (own_new w 34 0 vs ts.length hr.len (by unfold maxLen; omega) (Nat.zero_le _)) (hr.kw (Kw.frm (b := b) F)) hlen (by omega)).mono ?_
  rintro e w' ⟨rfl, h1, h2⟩
  exact ⟨rfl, h1, (Kw.frm F).trans h2⟩
theorem own_max {w : World} {base size n : Nat} {e : TypeId} {v : Value} {xs : List Value} (h : w.ownsRow base e size v n xs) : n ≤ 9223372036854775807 := by
  rcases h.2 with ⟨_, hn⟩ | ⟨g, cap, cur, _, _, _, hc, hm, _⟩
  · omega
  · unfold maxLen at hm; omega
theorem digit_num {i : Int} (h0 : 0 ≤ i) (h4 : i < 4) : Lib.decDigits i.toNat = [(48 + i.toNat).toUInt8] := by
  unfold Lib.decDigits
  rw [dif_pos (by omega)]
set_option maxRecDepth 100000 in
set_option maxHeartbeats 2000000 in
theorem tm_skip {b : Nat}  : TmOk b (.skip) := by
  intro w l v h hrep hlen
  obtain rfl := hrep
  have a0 := assert_skip_yes
  have F := (Frm.refl (fun _ => False) w).alloc (.cells #[] 166)
  have HW0 := Lib.hid (h.frm F)
  have HK0 : Hid (Kw b w (w.alloc (.cells #[] 166))) := Kw.frm F
  have HB0 := Lib.hid (Blk.new w 166 #[])
  clear h F
  have HX : Hid (L.tx (.skip) = [115, 107, 105, 112]) := show _ = _ by rw [L.tx]
  rw [HX.out] at hlen
  simp only [List.length_cons, List.length_nil] at hlen
  go_enter Tryz.func59, Tryz.ntmps59
  go_wp2_with fail
  refine (add_lit HW0.out [[115, 107, 105, 112]] (by simp) (by simp; omega) (by simp)).mono ?_
  rintro _ w1_ ⟨rfl, h_, k_⟩
  have HW1 := Lib.hid h_
  have HK1 := Lib.hid (HK0.out.trans k_)
  have HB1 : Hid (Blk w1_ w.heap.size 166 #[]) := (k_.2 166 (by decide) (by decide) _ _ HB0.out).trans HB0.out
  clear h_ k_
  go_wp2_with fail
  go_end0
  exact ⟨rfl, by rw [HX.out]; simpa using HW1.out, HK1.out⟩
set_option maxRecDepth 100000 in
set_option maxHeartbeats 2000000 in
theorem tm_stop {b : Nat} (of : Int) : TmOk b (.stop of) := by
  intro w l v h hrep hlen
  obtain rfl := hrep
  have a0 := fun W x => assert_skip_no W 168 x (by decide)
  have a1 := assert_stop_yes
  have F := (Frm.refl (fun _ => False) w).alloc (.cells #[.int .i64 of] 168)
  have HW0 := Lib.hid (h.frm F)
  have HK0 : Hid (Kw b w (w.alloc (.cells #[.int .i64 of] 168))) := Kw.frm F
  have HB0 := Lib.hid (Blk.new w 168 #[.int .i64 of])
  clear h F
  have HX : Hid (L.tx (.stop of) = [115, 116, 111, 112]) := show _ = _ by rw [L.tx]
  rw [HX.out] at hlen
  simp only [List.length_cons, List.length_nil] at hlen
  go_enter Tryz.func59, Tryz.ntmps59
  go_wp2_with fail
  refine (add_lit HW0.out [[115, 116, 111, 112]] (by simp) (by simp; omega) (by simp)).mono ?_
  rintro _ w1_ ⟨rfl, h_, k_⟩
  have HW1 := Lib.hid h_
  have HK1 := Lib.hid (HK0.out.trans k_)
  have HB1 : Hid (Blk w1_ w.heap.size 168 #[.int .i64 of]) := (k_.2 168 (by decide) (by decide) _ _ HB0.out).trans HB0.out
  have g1_0 := HB1.out.cell 0
  clear h_ k_
  go_wp2_with fail
  go_end0
  exact ⟨rfl, by rw [HX.out]; simpa using HW1.out, HK1.out⟩
set_option maxRecDepth 100000 in
set_option maxHeartbeats 2000000 in
theorem tm_fault {b : Nat} (of : Int) : TmOk b (.fault of) := by
  intro w l v h hrep hlen
  obtain rfl := hrep
  have a0 := fun W x => assert_skip_no W 169 x (by decide)
  have a1 := fun W x => assert_stop_no W 169 x (by decide)
  have a2 := assert_fault_yes
  have F := (Frm.refl (fun _ => False) w).alloc (.cells #[.int .i64 of] 169)
  have HW0 := Lib.hid (h.frm F)
  have HK0 : Hid (Kw b w (w.alloc (.cells #[.int .i64 of] 169))) := Kw.frm F
  have HB0 := Lib.hid (Blk.new w 169 #[.int .i64 of])
  clear h F
  have HX : Hid (L.tx (.fault of) = [102, 97, 117, 108, 116]) := show _ = _ by rw [L.tx]
  rw [HX.out] at hlen
  simp only [List.length_cons, List.length_nil] at hlen
  go_enter Tryz.func59, Tryz.ntmps59
  go_wp2_with fail
  refine (add_lit HW0.out [[102, 97, 117, 108, 116]] (by simp) (by simp; omega) (by simp)).mono ?_
  rintro _ w1_ ⟨rfl, h_, k_⟩
  have HW1 := Lib.hid h_
  have HK1 := Lib.hid (HK0.out.trans k_)
  have HB1 : Hid (Blk w1_ w.heap.size 169 #[.int .i64 of]) := (k_.2 169 (by decide) (by decide) _ _ HB0.out).trans HB0.out
  have g1_0 := HB1.out.cell 0
  clear h_ k_
  go_wp2_with fail
  go_end0
  exact ⟨rfl, by rw [HX.out]; simpa using HW1.out, HK1.out⟩
set_option maxRecDepth 100000 in
set_option maxHeartbeats 2000000 in
theorem tm_row {b : Nat} (ts : List L.Tm)  (hts : ∀ t ∈ ts, TmOk b t) : TmOk b (.row ts) := by
  intro w l v h hrep hlen
  obtain ⟨sl, vs, rfl, h2, hol, -, hrl⟩ := hrep
  obtain ⟨As, cl, rfl⟩ := own_form hol
  have HOL := Lib.hid hol
  have HRL := Lib.hid hrl
  clear hol hrl
  have a0 := fun W x => assert_skip_no W 111 x (by decide)
  have a1 := fun W x => assert_stop_no W 111 x (by decide)
  have a2 := fun W x => assert_fault_no W 111 x (by decide)
  have a3 := assert_row_yes
  have F := (Frm.refl (fun _ => False) w).alloc (.cells #[.slice As ts.length cl] 111)
  have HW0 := Lib.hid (h.frm F)
  have HK0 : Hid (Kw b w (w.alloc (.cells #[.slice As ts.length cl] 111))) := Kw.frm F
  have HB0 := Lib.hid (Blk.new w 111 #[.slice As ts.length cl])
  clear h F
  go_enter Tryz.func59, Tryz.ntmps59
  go_wp2_with fail
  refine (row_ok hts HW0.out (HK0.out.2 34 (by decide) (by decide) |>.row HOL.out) (HRL.out.kw HK0.out) (by rw [L.tx] at hlen; exact hlen) (own_max HOL.out)).mono ?_
  rintro _ w1_ ⟨rfl, h_, k_⟩
  have HW1 := Lib.hid h_
  have HK1 := Lib.hid (HK0.out.trans k_)
  have HB1 : Hid (Blk w1_ w.heap.size 111 #[.slice As ts.length cl]) := (k_.2 111 (by decide) (by decide) _ _ HB0.out).trans HB0.out
  have g1_0 := HB1.out.cell 0
  clear h_ k_
  go_wp2_with fail
  go_end0
  exact ⟨rfl, by rw [L.tx]; exact HW1.out, HK1.out⟩
set_option maxRecDepth 100000 in
set_option maxHeartbeats 2000000 in
theorem tm_assign {b : Nat} (n : L.Bytes) {x0 : L.Tm} (hx0 : TmOk b x0) : TmOk b (.assign n x0) := by
  intro w l v h hrep hlen
  obtain ⟨w0, rfl, r0⟩ := hrep
  obtain ⟨T0, c0, rfl⟩ := Rep.form r0
  have R0_0 := Lib.hid r0
  have I0 := Lib.hid hx0
  clear r0 hx0
  have a0 := fun W x => assert_skip_no W 116 x (by decide)
  have a1 := fun W x => assert_stop_no W 116 x (by decide)
  have a2 := fun W x => assert_fault_no W 116 x (by decide)
  have a3 := fun W x => assert_row_no W 116 x (by decide)
  have a4 := assert_assign_yes
  have F := (Frm.refl (fun _ => False) w).alloc (.cells #[.string (str n), .iface T0 (.agg c0)] 116)
  have HW0 := Lib.hid (h.frm F)
  have HK0 : Hid (Kw b w (w.alloc (.cells #[.string (str n), .iface T0 (.agg c0)] 116))) := Kw.frm F
  have HB0 := Lib.hid (Blk.new w 116 #[.string (str n), .iface T0 (.agg c0)])
  have R0 := Lib.hid (R0_0.out.kw HK0.out)
  clear h F
  have HX : Hid (L.tx (.assign n x0) = n ++ ([32, 58, 61, 32] ++ L.tx x0)) := show _ = _ by rw [L.tx]
  rw [HX.out] at hlen
  simp only [List.length_append, List.length_cons, List.length_nil] at hlen
  go_enter Tryz.func59, Tryz.ntmps59
  go_wp2_with fail
  refine (add_lit HW0.out [n, [32, 58, 61, 32]] (by simp) (by simp; omega) (by simp)).mono ?_
  rintro _ w1_ ⟨rfl, h_, k_⟩
  have HW1 := Lib.hid h_
  have HK1 := Lib.hid (HK0.out.trans k_)
  have HB1 : Hid (Blk w1_ w.heap.size 116 #[.string (str n), .iface T0 (.agg c0)]) := (k_.2 116 (by decide) (by decide) _ _ HB0.out).trans HB0.out
  have R0 := Lib.hid (R0.out.kw k_)
  have g1_0 := HB1.out.cell 0
  have g1_1 := HB1.out.cell 1
  clear h_ k_
  go_wp2_with fail
  refine (I0.out _ _ _ HW1.out R0.out (by simp; omega)).mono ?_
  rintro _ w2_ ⟨rfl, h_, k_⟩
  have HW2 := Lib.hid h_
  have HK2 := Lib.hid (HK1.out.trans k_)
  have HB2 : Hid (Blk w2_ w.heap.size 116 #[.string (str n), .iface T0 (.agg c0)]) := (k_.2 116 (by decide) (by decide) _ _ HB1.out).trans HB1.out
  have R0 := Lib.hid (R0.out.kw k_)
  have g2_0 := HB2.out.cell 0
  have g2_1 := HB2.out.cell 1
  clear h_ k_ g1_0 g1_1
  go_wp2_with fail
  go_end0
  exact ⟨rfl, by rw [HX.out]; simpa using HW2.out, HK2.out⟩
set_option maxRecDepth 100000 in
set_option maxHeartbeats 2000000 in
theorem tm_choice {b : Nat} (of : Int) {x0 : L.Tm} {x1 : L.Tm} {x2 : L.Tm} (hx0 : TmOk b x0) (hx1 : TmOk b x1) (hx2 : TmOk b x2) : TmOk b (.choice of x0 x1 x2) := by
  intro w l v h hrep hlen
  obtain ⟨w0, w1, w2, rfl, r0, r1, r2⟩ := hrep
  obtain ⟨T0, c0, rfl⟩ := Rep.form r0
  have R0_0 := Lib.hid r0
  have I0 := Lib.hid hx0
  clear r0 hx0
  obtain ⟨T1, c1, rfl⟩ := Rep.form r1
  have R1_0 := Lib.hid r1
  have I1 := Lib.hid hx1
  clear r1 hx1
  obtain ⟨T2, c2, rfl⟩ := Rep.form r2
  have R2_0 := Lib.hid r2
  have I2 := Lib.hid hx2
  clear r2 hx2
  have a0 := fun W x => assert_skip_no W 118 x (by decide)
  have a1 := fun W x => assert_stop_no W 118 x (by decide)
  have a2 := fun W x => assert_fault_no W 118 x (by decide)
  have a3 := fun W x => assert_row_no W 118 x (by decide)
  have a4 := fun W x => assert_assign_no W 118 x (by decide)
  have a5 := assert_choice_yes
  have F := (Frm.refl (fun _ => False) w).alloc (.cells #[.int .i64 of, .iface T0 (.agg c0), .iface T1 (.agg c1), .iface T2 (.agg c2)] 118)
  have HW0 := Lib.hid (h.frm F)
  have HK0 : Hid (Kw b w (w.alloc (.cells #[.int .i64 of, .iface T0 (.agg c0), .iface T1 (.agg c1), .iface T2 (.agg c2)] 118))) := Kw.frm F
  have HB0 := Lib.hid (Blk.new w 118 #[.int .i64 of, .iface T0 (.agg c0), .iface T1 (.agg c1), .iface T2 (.agg c2)])
  have R0 := Lib.hid (R0_0.out.kw HK0.out)
  have R1 := Lib.hid (R1_0.out.kw HK0.out)
  have R2 := Lib.hid (R2_0.out.kw HK0.out)
  clear h F
  have HX : Hid (L.tx (.choice of x0 x1 x2) = [105, 102, 32] ++ (L.tx x0 ++ (32 :: L.brack x1 (L.tx x1) ++ 32 :: L.brack x2 (L.tx x2)))) := show _ = _ by rw [L.tx]
  rw [HX.out] at hlen
  simp only [List.length_append, List.length_cons, List.length_nil] at hlen
  go_enter Tryz.func59, Tryz.ntmps59
  go_wp2_with fail
  refine (add_lit HW0.out [[105, 102, 32]] (by simp) (by simp; omega) (by simp)).mono ?_
  rintro _ w1_ ⟨rfl, h_, k_⟩
  have HW1 := Lib.hid h_
  have HK1 := Lib.hid (HK0.out.trans k_)
  have HB1 : Hid (Blk w1_ w.heap.size 118 #[.int .i64 of, .iface T0 (.agg c0), .iface T1 (.agg c1), .iface T2 (.agg c2)]) := (k_.2 118 (by decide) (by decide) _ _ HB0.out).trans HB0.out
  have R0 := Lib.hid (R0.out.kw k_)
  have R1 := Lib.hid (R1.out.kw k_)
  have R2 := Lib.hid (R2.out.kw k_)
  have g1_0 := HB1.out.cell 0
  have g1_1 := HB1.out.cell 1
  have g1_2 := HB1.out.cell 2
  have g1_3 := HB1.out.cell 3
  clear h_ k_
  go_wp2_with fail
  refine (I0.out _ _ _ HW1.out R0.out (by simp; omega)).mono ?_
  rintro _ w2_ ⟨rfl, h_, k_⟩
  have HW2 := Lib.hid h_
  have HK2 := Lib.hid (HK1.out.trans k_)
  have HB2 : Hid (Blk w2_ w.heap.size 118 #[.int .i64 of, .iface T0 (.agg c0), .iface T1 (.agg c1), .iface T2 (.agg c2)]) := (k_.2 118 (by decide) (by decide) _ _ HB1.out).trans HB1.out
  have R0 := Lib.hid (R0.out.kw k_)
  have R1 := Lib.hid (R1.out.kw k_)
  have R2 := Lib.hid (R2.out.kw k_)
  have g2_0 := HB2.out.cell 0
  have g2_1 := HB2.out.cell 1
  have g2_2 := HB2.out.cell 2
  have g2_3 := HB2.out.cell 3
  clear h_ k_ g1_0 g1_1 g1_2 g1_3
  go_wp2_with fail
  refine (blocks_lit (ts := [x1, x2]) (vs := [.iface T1 (.agg c1), .iface T2 (.agg c2)]) HW2.out (fun t ht => by rcases List.mem_cons.1 ht with e | ht; rw [e]; exact I1.out; rw [List.mem_singleton.1 ht]; exact I2.out) ⟨_, _, rfl, R1.out, _, _, rfl, R2.out, rfl⟩ rfl (by simp [L.blks]; omega) (by simp)).mono ?_
  rintro _ w3_ ⟨rfl, h_, k_⟩
  have HW3 := Lib.hid h_
  have HK3 := Lib.hid (HK2.out.trans k_)
  have HB3 : Hid (Blk w3_ w.heap.size 118 #[.int .i64 of, .iface T0 (.agg c0), .iface T1 (.agg c1), .iface T2 (.agg c2)]) := (k_.2 118 (by decide) (by decide) _ _ HB2.out).trans HB2.out
  have R0 := Lib.hid (R0.out.kw k_)
  have R1 := Lib.hid (R1.out.kw k_)
  have R2 := Lib.hid (R2.out.kw k_)
  have g3_0 := HB3.out.cell 0
  have g3_1 := HB3.out.cell 1
  have g3_2 := HB3.out.cell 2
  have g3_3 := HB3.out.cell 3
  clear h_ k_ g2_0 g2_1 g2_2 g2_3
  go_wp2_with fail
  go_end0
  exact ⟨rfl, by rw [HX.out]; simpa [L.blks] using HW3.out, HK3.out⟩
set_option maxRecDepth 100000 in
set_option maxHeartbeats 2000000 in
theorem tm_loop {b : Nat} {x0 : L.Tm} {x1 : L.Tm} (hx0 : TmOk b x0) (hx1 : TmOk b x1) : TmOk b (.loop x0 x1) := by
  intro w l v h hrep hlen
  obtain ⟨w0, w1, rfl, r0, r1⟩ := hrep
  obtain ⟨T0, c0, rfl⟩ := Rep.form r0
  have R0_0 := Lib.hid r0
  have I0 := Lib.hid hx0
  clear r0 hx0
  obtain ⟨T1, c1, rfl⟩ := Rep.form r1
  have R1_0 := Lib.hid r1
  have I1 := Lib.hid hx1
  clear r1 hx1
  have a0 := fun W x => assert_skip_no W 120 x (by decide)
  have a1 := fun W x => assert_stop_no W 120 x (by decide)
  have a2 := fun W x => assert_fault_no W 120 x (by decide)
  have a3 := fun W x => assert_row_no W 120 x (by decide)
  have a4 := fun W x => assert_assign_no W 120 x (by decide)
  have a5 := fun W x => assert_choice_no W 120 x (by decide)
  have a6 := assert_loop_yes
  have F := (Frm.refl (fun _ => False) w).alloc (.cells #[.iface T0 (.agg c0), .iface T1 (.agg c1)] 120)
  have HW0 := Lib.hid (h.frm F)
  have HK0 : Hid (Kw b w (w.alloc (.cells #[.iface T0 (.agg c0), .iface T1 (.agg c1)] 120))) := Kw.frm F
  have HB0 := Lib.hid (Blk.new w 120 #[.iface T0 (.agg c0), .iface T1 (.agg c1)])
  have R0 := Lib.hid (R0_0.out.kw HK0.out)
  have R1 := Lib.hid (R1_0.out.kw HK0.out)
  clear h F
  have HX : Hid (L.tx (.loop x0 x1) = [119, 104, 105, 108, 101, 32] ++ (L.tx x0 ++ 32 :: L.brack x1 (L.tx x1))) := show _ = _ by rw [L.tx]
  rw [HX.out] at hlen
  simp only [List.length_append, List.length_cons, List.length_nil] at hlen
  go_enter Tryz.func59, Tryz.ntmps59
  go_wp2_with fail
  refine (add_lit HW0.out [[119, 104, 105, 108, 101, 32]] (by simp) (by simp; omega) (by simp)).mono ?_
  rintro _ w1_ ⟨rfl, h_, k_⟩
  have HW1 := Lib.hid h_
  have HK1 := Lib.hid (HK0.out.trans k_)
  have HB1 : Hid (Blk w1_ w.heap.size 120 #[.iface T0 (.agg c0), .iface T1 (.agg c1)]) := (k_.2 120 (by decide) (by decide) _ _ HB0.out).trans HB0.out
  have R0 := Lib.hid (R0.out.kw k_)
  have R1 := Lib.hid (R1.out.kw k_)
  have g1_0 := HB1.out.cell 0
  have g1_1 := HB1.out.cell 1
  clear h_ k_
  go_wp2_with fail
  refine (I0.out _ _ _ HW1.out R0.out (by simp; omega)).mono ?_
  rintro _ w2_ ⟨rfl, h_, k_⟩
  have HW2 := Lib.hid h_
  have HK2 := Lib.hid (HK1.out.trans k_)
  have HB2 : Hid (Blk w2_ w.heap.size 120 #[.iface T0 (.agg c0), .iface T1 (.agg c1)]) := (k_.2 120 (by decide) (by decide) _ _ HB1.out).trans HB1.out
  have R0 := Lib.hid (R0.out.kw k_)
  have R1 := Lib.hid (R1.out.kw k_)
  have g2_0 := HB2.out.cell 0
  have g2_1 := HB2.out.cell 1
  clear h_ k_ g1_0 g1_1
  go_wp2_with fail
  refine (blocks_lit (ts := [x1]) (vs := [.iface T1 (.agg c1)]) HW2.out (fun t ht => by rw [List.mem_singleton.1 ht]; exact I1.out) ⟨_, _, rfl, R1.out, rfl⟩ rfl (by simp [L.blks]; omega) (by simp)).mono ?_
  rintro _ w3_ ⟨rfl, h_, k_⟩
  have HW3 := Lib.hid h_
  have HK3 := Lib.hid (HK2.out.trans k_)
  have HB3 : Hid (Blk w3_ w.heap.size 120 #[.iface T0 (.agg c0), .iface T1 (.agg c1)]) := (k_.2 120 (by decide) (by decide) _ _ HB2.out).trans HB2.out
  have R0 := Lib.hid (R0.out.kw k_)
  have R1 := Lib.hid (R1.out.kw k_)
  have g3_0 := HB3.out.cell 0
  have g3_1 := HB3.out.cell 1
  clear h_ k_ g2_0 g2_1
  go_wp2_with fail
  go_end0
  exact ⟨rfl, by rw [HX.out]; simpa [L.blks] using HW3.out, HK3.out⟩
set_option maxRecDepth 100000 in
set_option maxHeartbeats 2000000 in
theorem tm_fresh {b : Nat} (of : Int) (n : L.Bytes) {x0 : L.Tm} {x1 : L.Tm} (hx0 : TmOk b x0) (hx1 : TmOk b x1) : TmOk b (.fresh of n x0 x1) := by
  intro w l v h hrep hlen
  obtain ⟨w0, w1, rfl, r0, r1⟩ := hrep
  obtain ⟨T0, c0, rfl⟩ := Rep.form r0
  have R0_0 := Lib.hid r0
  have I0 := Lib.hid hx0
  clear r0 hx0
  obtain ⟨T1, c1, rfl⟩ := Rep.form r1
  have R1_0 := Lib.hid r1
  have I1 := Lib.hid hx1
  clear r1 hx1
  have a0 := fun W x => assert_skip_no W 126 x (by decide)
  have a1 := fun W x => assert_stop_no W 126 x (by decide)
  have a2 := fun W x => assert_fault_no W 126 x (by decide)
  have a3 := fun W x => assert_row_no W 126 x (by decide)
  have a4 := fun W x => assert_assign_no W 126 x (by decide)
  have a5 := fun W x => assert_choice_no W 126 x (by decide)
  have a6 := fun W x => assert_loop_no W 126 x (by decide)
  have a7 := assert_fresh_yes
  have F := (Frm.refl (fun _ => False) w).alloc (.cells #[.int .i64 of, .string (str n), .iface T0 (.agg c0), .iface T1 (.agg c1)] 126)
  have HW0 := Lib.hid (h.frm F)
  have HK0 : Hid (Kw b w (w.alloc (.cells #[.int .i64 of, .string (str n), .iface T0 (.agg c0), .iface T1 (.agg c1)] 126))) := Kw.frm F
  have HB0 := Lib.hid (Blk.new w 126 #[.int .i64 of, .string (str n), .iface T0 (.agg c0), .iface T1 (.agg c1)])
  have R0 := Lib.hid (R0_0.out.kw HK0.out)
  have R1 := Lib.hid (R1_0.out.kw HK0.out)
  clear h F
  have HX : Hid (L.tx (.fresh of n x0 x1) = [110, 101, 119, 32] ++ (n ++ ([32, 61, 32] ++ (L.tx x0 ++ 32 :: L.brack x1 (L.tx x1))))) := show _ = _ by rw [L.tx]
  rw [HX.out] at hlen
  simp only [List.length_append, List.length_cons, List.length_nil] at hlen
  go_enter Tryz.func59, Tryz.ntmps59
  go_wp2_with fail
  refine (add_lit HW0.out [[110, 101, 119, 32], n, [32, 61, 32]] (by simp) (by simp; omega) (by simp)).mono ?_
  rintro _ w1_ ⟨rfl, h_, k_⟩
  have HW1 := Lib.hid h_
  have HK1 := Lib.hid (HK0.out.trans k_)
  have HB1 : Hid (Blk w1_ w.heap.size 126 #[.int .i64 of, .string (str n), .iface T0 (.agg c0), .iface T1 (.agg c1)]) := (k_.2 126 (by decide) (by decide) _ _ HB0.out).trans HB0.out
  have R0 := Lib.hid (R0.out.kw k_)
  have R1 := Lib.hid (R1.out.kw k_)
  have g1_0 := HB1.out.cell 0
  have g1_1 := HB1.out.cell 1
  have g1_2 := HB1.out.cell 2
  have g1_3 := HB1.out.cell 3
  clear h_ k_
  go_wp2_with fail
  refine (I0.out _ _ _ HW1.out R0.out (by simp; omega)).mono ?_
  rintro _ w2_ ⟨rfl, h_, k_⟩
  have HW2 := Lib.hid h_
  have HK2 := Lib.hid (HK1.out.trans k_)
  have HB2 : Hid (Blk w2_ w.heap.size 126 #[.int .i64 of, .string (str n), .iface T0 (.agg c0), .iface T1 (.agg c1)]) := (k_.2 126 (by decide) (by decide) _ _ HB1.out).trans HB1.out
  have R0 := Lib.hid (R0.out.kw k_)
  have R1 := Lib.hid (R1.out.kw k_)
  have g2_0 := HB2.out.cell 0
  have g2_1 := HB2.out.cell 1
  have g2_2 := HB2.out.cell 2
  have g2_3 := HB2.out.cell 3
  clear h_ k_ g1_0 g1_1 g1_2 g1_3
  go_wp2_with fail
  refine (blocks_lit (ts := [x1]) (vs := [.iface T1 (.agg c1)]) HW2.out (fun t ht => by rw [List.mem_singleton.1 ht]; exact I1.out) ⟨_, _, rfl, R1.out, rfl⟩ rfl (by simp [L.blks]; omega) (by simp)).mono ?_
  rintro _ w3_ ⟨rfl, h_, k_⟩
  have HW3 := Lib.hid h_
  have HK3 := Lib.hid (HK2.out.trans k_)
  have HB3 : Hid (Blk w3_ w.heap.size 126 #[.int .i64 of, .string (str n), .iface T0 (.agg c0), .iface T1 (.agg c1)]) := (k_.2 126 (by decide) (by decide) _ _ HB2.out).trans HB2.out
  have R0 := Lib.hid (R0.out.kw k_)
  have R1 := Lib.hid (R1.out.kw k_)
  have g3_0 := HB3.out.cell 0
  have g3_1 := HB3.out.cell 1
  have g3_2 := HB3.out.cell 2
  have g3_3 := HB3.out.cell 3
  clear h_ k_ g2_0 g2_1 g2_2 g2_3
  go_wp2_with fail
  go_end0
  exact ⟨rfl, by rw [HX.out]; simpa [L.blks] using HW3.out, HK3.out⟩
set_option maxRecDepth 100000 in
set_option maxHeartbeats 2000000 in
theorem tm_call {b : Nat} (of : Int) (n : L.Bytes) (ts : List L.Tm)  (hts : ∀ t ∈ ts, TmOk b t) : TmOk b (.call of n ts) := by
  intro w l v h hrep hlen
  obtain ⟨sl, vs, rfl, hol, -, hrl⟩ := hrep
  obtain ⟨As, cl, rfl⟩ := own_form hol
  have HOL := Lib.hid hol
  have HRL := Lib.hid hrl
  clear hol hrl
  have a0 := fun W x => assert_skip_no W 106 x (by decide)
  have a1 := fun W x => assert_stop_no W 106 x (by decide)
  have a2 := fun W x => assert_fault_no W 106 x (by decide)
  have a3 := fun W x => assert_row_no W 106 x (by decide)
  have a4 := fun W x => assert_assign_no W 106 x (by decide)
  have a5 := fun W x => assert_choice_no W 106 x (by decide)
  have a6 := fun W x => assert_loop_no W 106 x (by decide)
  have a7 := fun W x => assert_fresh_no W 106 x (by decide)
  have a8 := assert_call_yes
  have F := (Frm.refl (fun _ => False) w).alloc (.cells #[.int .i64 of, .string (str n), .slice As ts.length cl] 106)
  have HW0 := Lib.hid (h.frm F)
  have HK0 : Hid (Kw b w (w.alloc (.cells #[.int .i64 of, .string (str n), .slice As ts.length cl] 106))) := Kw.frm F
  have HB0 := Lib.hid (Blk.new w 106 #[.int .i64 of, .string (str n), .slice As ts.length cl])
  clear h F
  go_enter Tryz.func59, Tryz.ntmps59
  go_wp2_with fail
  refine (call_ok of n hts HW0.out (HK0.out.2 34 (by decide) (by decide) |>.row HOL.out) (HRL.out.kw HK0.out) hlen (own_max HOL.out)).mono ?_
  rintro _ w1_ ⟨rfl, h_, k_⟩
  have HW1 := Lib.hid h_
  have HK1 := Lib.hid (HK0.out.trans k_)
  have HB1 : Hid (Blk w1_ w.heap.size 106 #[.int .i64 of, .string (str n), .slice As ts.length cl]) := (k_.2 106 (by decide) (by decide) _ _ HB0.out).trans HB0.out
  have g1_0 := HB1.out.cell 0
  have g1_1 := HB1.out.cell 1
  have g1_2 := HB1.out.cell 2
  clear h_ k_
  go_wp2_with fail
  go_end0
  exact ⟨rfl, HW1.out, HK1.out⟩
set_option maxRecDepth 100000 in
set_option maxHeartbeats 2000000 in
theorem tm_proc {b : Nat} (of : Int) (n : L.Bytes) (ps : List (L.Bytes × Int)) (r : Int) {x0 : L.Tm} {x1 : L.Tm} (hx0 : TmOk b x0) (hx1 : TmOk b x1) : TmOk b (.proc of n ps r x0 x1) := by
  intro w l v h hrep hlen
  obtain ⟨sl, w0, w1, rfl, hp3, hps, -, r0, r1⟩ := hrep
  obtain ⟨As, cl, rfl⟩ := own_form hps
  have HPS := Lib.hid hps
  clear hps
  obtain ⟨T0, c0, rfl⟩ := Rep.form r0
  have R0_0 := Lib.hid r0
  have I0 := Lib.hid hx0
  clear r0 hx0
  obtain ⟨T1, c1, rfl⟩ := Rep.form r1
  have R1_0 := Lib.hid r1
  have I1 := Lib.hid hx1
  clear r1 hx1
  have a0 := fun W x => assert_skip_no W 129 x (by decide)
  have a1 := fun W x => assert_stop_no W 129 x (by decide)
  have a2 := fun W x => assert_fault_no W 129 x (by decide)
  have a3 := fun W x => assert_row_no W 129 x (by decide)
  have a4 := fun W x => assert_assign_no W 129 x (by decide)
  have a5 := fun W x => assert_choice_no W 129 x (by decide)
  have a6 := fun W x => assert_loop_no W 129 x (by decide)
  have a7 := fun W x => assert_fresh_no W 129 x (by decide)
  have a8 := fun W x => assert_call_no W 129 x (by decide)
  have a9 := assert_proc_yes
  have F := (Frm.refl (fun _ => False) w).alloc (.cells #[.int .i64 of, .string (str n), .slice As ps.length cl, .int .i64 r, .iface T0 (.agg c0), .iface T1 (.agg c1)] 129)
  have HW0 := Lib.hid (h.frm F)
  have HK0 : Hid (Kw b w (w.alloc (.cells #[.int .i64 of, .string (str n), .slice As ps.length cl, .int .i64 r, .iface T0 (.agg c0), .iface T1 (.agg c1)] 129))) := Kw.frm F
  have HB0 := Lib.hid (Blk.new w 129 #[.int .i64 of, .string (str n), .slice As ps.length cl, .int .i64 r, .iface T0 (.agg c0), .iface T1 (.agg c1)])
  have R0 := Lib.hid (R0_0.out.kw HK0.out)
  have R1 := Lib.hid (R1_0.out.kw HK0.out)
  clear h F
  have HX : Hid (L.tx (.proc of n ps r x0 x1) = [112, 114, 111, 99, 32] ++ (n ++ ([40] ++ (L.txParams ps ++ ([41, 32, 58, 32] ++ (L.typeWord r ++ (32 :: L.brack x0 (L.tx x0) ++ 32 :: L.brack x1 (L.tx x1)))))))) := show _ = _ by rw [L.tx]
  rw [HX.out] at hlen
  simp only [List.length_append, List.length_cons, List.length_nil] at hlen
  go_enter Tryz.func59, Tryz.ntmps59
  go_wp2_with fail
  have hwl : (L.typeWord r).length ≤ 3 := by unfold L.typeWord; split; simp; split <;> simp
  refine (head_ok of n ps r HW0.out (HK0.out.2 49 (by decide) (by decide) |>.row HPS.out) (by omega) (by omega)).mono ?_
  rintro _ w1_ ⟨rfl, h_, k_⟩
  have HW1 := Lib.hid h_
  have HK1 := Lib.hid (HK0.out.trans k_)
  have HB1 : Hid (Blk w1_ w.heap.size 129 #[.int .i64 of, .string (str n), .slice As ps.length cl, .int .i64 r, .iface T0 (.agg c0), .iface T1 (.agg c1)]) := (k_.2 129 (by decide) (by decide) _ _ HB0.out).trans HB0.out
  have R0 := Lib.hid (R0.out.kw k_)
  have R1 := Lib.hid (R1.out.kw k_)
  have g1_0 := HB1.out.cell 0
  have g1_1 := HB1.out.cell 1
  have g1_2 := HB1.out.cell 2
  have g1_3 := HB1.out.cell 3
  have g1_4 := HB1.out.cell 4
  have g1_5 := HB1.out.cell 5
  clear h_ k_
  go_wp2_with fail
  refine (blocks_lit (ts := [x0, x1]) (vs := [.iface T0 (.agg c0), .iface T1 (.agg c1)]) HW1.out (fun t ht => by rcases List.mem_cons.1 ht with e | ht; rw [e]; exact I0.out; rw [List.mem_singleton.1 ht]; exact I1.out) ⟨_, _, rfl, R0.out, _, _, rfl, R1.out, rfl⟩ rfl (by simp [L.blks]; omega) (by simp)).mono ?_
  rintro _ w2_ ⟨rfl, h_, k_⟩
  have HW2 := Lib.hid h_
  have HK2 := Lib.hid (HK1.out.trans k_)
  have HB2 : Hid (Blk w2_ w.heap.size 129 #[.int .i64 of, .string (str n), .slice As ps.length cl, .int .i64 r, .iface T0 (.agg c0), .iface T1 (.agg c1)]) := (k_.2 129 (by decide) (by decide) _ _ HB1.out).trans HB1.out
  have R0 := Lib.hid (R0.out.kw k_)
  have R1 := Lib.hid (R1.out.kw k_)
  have g2_0 := HB2.out.cell 0
  have g2_1 := HB2.out.cell 1
  have g2_2 := HB2.out.cell 2
  have g2_3 := HB2.out.cell 3
  have g2_4 := HB2.out.cell 4
  have g2_5 := HB2.out.cell 5
  clear h_ k_ g1_0 g1_1 g1_2 g1_3 g1_4 g1_5
  go_wp2_with fail
  go_end0
  exact ⟨rfl, by rw [HX.out]; simpa [L.blks] using HW2.out, HK2.out⟩
set_option maxRecDepth 100000 in
set_option maxHeartbeats 2000000 in
theorem tm_num {b : Nat} (of : Int)  (h0 : 0 ≤ of) (h4 : of < 4) : TmOk b (.num of) := by
  intro w l v h hrep hlen
  obtain rfl := hrep
  have a0 := fun W x => assert_skip_no W 175 x (by decide)
  have a1 := fun W x => assert_stop_no W 175 x (by decide)
  have a2 := fun W x => assert_fault_no W 175 x (by decide)
  have a3 := fun W x => assert_row_no W 175 x (by decide)
  have a4 := fun W x => assert_assign_no W 175 x (by decide)
  have a5 := fun W x => assert_choice_no W 175 x (by decide)
  have a6 := fun W x => assert_loop_no W 175 x (by decide)
  have a7 := fun W x => assert_fresh_no W 175 x (by decide)
  have a8 := fun W x => assert_call_no W 175 x (by decide)
  have a9 := fun W x => assert_proc_no W 175 x (by decide)
  have a10 := assert_num_yes
  have F := (Frm.refl (fun _ => False) w).alloc (.cells #[.int .i64 of] 175)
  have HW0 := Lib.hid (h.frm F)
  have HK0 : Hid (Kw b w (w.alloc (.cells #[.int .i64 of] 175))) := Kw.frm F
  have HB0 := Lib.hid (Blk.new w 175 #[.int .i64 of])
  clear h F
  have HX : Hid (L.tx (.num of) = [(48 + of.toNat).toUInt8]) := show _ = _ by rw [L.tx]
  rw [HX.out] at hlen
  simp only [List.length_cons, List.length_nil] at hlen
  have hi : ((of.toNat : Nat) : Int) = of := Int.toNat_of_nonneg h0
  have HI := Lib.hid (Tryz.strconv_Itoa_small of.toNat (by omega))
  rw [hi, digit_num h0 h4] at HI
  obtain ⟨dg, hdg⟩ : ∃ dg : L.Bytes, [(48 + of.toNat).toUInt8] = dg := ⟨_, rfl⟩
  have hdl : dg.length = 1 := by rw [← hdg]; rfl
  rw [hdg] at HI HX
  have HI2 := Lib.hid HI.out
  clear hi HI hdg
  go_enter Tryz.func59, Tryz.ntmps59
  go_wp2_with fail
  refine (HI2.out _).mono ?_
  rintro _ w_ ⟨rfl, rfl⟩
  go_wp2_with fail
  refine (add_lit HW0.out [dg] (by simp) (by simp; omega) (by simp)).mono ?_
  rintro _ w1_ ⟨rfl, h_, k_⟩
  have HW1 := Lib.hid h_
  have HK1 := Lib.hid (HK0.out.trans k_)
  have HB1 : Hid (Blk w1_ w.heap.size 175 #[.int .i64 of]) := (k_.2 175 (by decide) (by decide) _ _ HB0.out).trans HB0.out
  have g1_0 := HB1.out.cell 0
  clear h_ k_
  go_wp2_with fail
  go_end0
  exact ⟨rfl, by rw [HX.out]; simpa using HW1.out, HK1.out⟩
set_option maxRecDepth 100000 in
set_option maxHeartbeats 2000000 in
theorem tm_read {b : Nat} (n : L.Bytes) : TmOk b (.read n) := by
  intro w l v h hrep hlen
  obtain rfl := hrep
  have a0 := fun W x => assert_skip_no W 93 x (by decide)
  have a1 := fun W x => assert_stop_no W 93 x (by decide)
  have a2 := fun W x => assert_fault_no W 93 x (by decide)
  have a3 := fun W x => assert_row_no W 93 x (by decide)
  have a4 := fun W x => assert_assign_no W 93 x (by decide)
  have a5 := fun W x => assert_choice_no W 93 x (by decide)
  have a6 := fun W x => assert_loop_no W 93 x (by decide)
  have a7 := fun W x => assert_fresh_no W 93 x (by decide)
  have a8 := fun W x => assert_call_no W 93 x (by decide)
  have a9 := fun W x => assert_proc_no W 93 x (by decide)
  have a10 := fun W x => assert_num_no W 93 x (by decide)
  have a11 := assert_read_yes
  have F := (Frm.refl (fun _ => False) w).alloc (.cells #[.string (str n)] 93)
  have HW0 := Lib.hid (h.frm F)
  have HK0 : Hid (Kw b w (w.alloc (.cells #[.string (str n)] 93))) := Kw.frm F
  have HB0 := Lib.hid (Blk.new w 93 #[.string (str n)])
  clear h F
  have HX : Hid (L.tx (.read n) = n) := show _ = _ by rw [L.tx]
  rw [HX.out] at hlen
  go_enter Tryz.func59, Tryz.ntmps59
  go_wp2_with fail
  refine (add_lit HW0.out [n] (by simp) (by simp; omega) (by simp)).mono ?_
  rintro _ w1_ ⟨rfl, h_, k_⟩
  have HW1 := Lib.hid h_
  have HK1 := Lib.hid (HK0.out.trans k_)
  have HB1 : Hid (Blk w1_ w.heap.size 93 #[.string (str n)]) := (k_.2 93 (by decide) (by decide) _ _ HB0.out).trans HB0.out
  have g1_0 := HB1.out.cell 0
  clear h_ k_
  go_wp2_with fail
  go_end0
  exact ⟨rfl, by rw [HX.out]; simpa using HW1.out, HK1.out⟩
set_option maxRecDepth 100000 in
set_option maxHeartbeats 2000000 in
theorem tm_binary {b : Nat} (of : Int) {x0 : L.Tm} {x1 : L.Tm} (hx0 : WOk b x0) (hx1 : WOk b x1) : TmOk b (.binary of x0 x1) := by
  intro w l v h hrep hlen
  obtain ⟨w0, w1, rfl, r0, r1⟩ := hrep
  obtain ⟨T0, c0, rfl⟩ := Rep.form r0
  have R0_0 := Lib.hid r0
  have I0 := Lib.hid hx0
  clear r0 hx0
  obtain ⟨T1, c1, rfl⟩ := Rep.form r1
  have R1_0 := Lib.hid r1
  have I1 := Lib.hid hx1
  clear r1 hx1
  have a0 := fun W x => assert_skip_no W 122 x (by decide)
  have a1 := fun W x => assert_stop_no W 122 x (by decide)
  have a2 := fun W x => assert_fault_no W 122 x (by decide)
  have a3 := fun W x => assert_row_no W 122 x (by decide)
  have a4 := fun W x => assert_assign_no W 122 x (by decide)
  have a5 := fun W x => assert_choice_no W 122 x (by decide)
  have a6 := fun W x => assert_loop_no W 122 x (by decide)
  have a7 := fun W x => assert_fresh_no W 122 x (by decide)
  have a8 := fun W x => assert_call_no W 122 x (by decide)
  have a9 := fun W x => assert_proc_no W 122 x (by decide)
  have a10 := fun W x => assert_num_no W 122 x (by decide)
  have a11 := fun W x => assert_read_no W 122 x (by decide)
  have a12 := assert_binary_yes
  have F := (Frm.refl (fun _ => False) w).alloc (.cells #[.int .i64 of, .iface T0 (.agg c0), .iface T1 (.agg c1)] 122)
  have HW0 := Lib.hid (h.frm F)
  have HK0 : Hid (Kw b w (w.alloc (.cells #[.int .i64 of, .iface T0 (.agg c0), .iface T1 (.agg c1)] 122))) := Kw.frm F
  have HB0 := Lib.hid (Blk.new w 122 #[.int .i64 of, .iface T0 (.agg c0), .iface T1 (.agg c1)])
  have R0 := Lib.hid (R0_0.out.kw HK0.out)
  have R1 := Lib.hid (R1_0.out.kw HK0.out)
  clear h F
  go_enter Tryz.func59, Tryz.ntmps59
  go_wp2_with fail
  refine (binary_ok of I0.out I1.out _ _ _ _ HW0.out R0.out R1.out hlen).mono ?_
  rintro _ w1_ ⟨rfl, h_, k_⟩
  have HW1 := Lib.hid h_
  have HK1 := Lib.hid (HK0.out.trans k_)
  have HB1 : Hid (Blk w1_ w.heap.size 122 #[.int .i64 of, .iface T0 (.agg c0), .iface T1 (.agg c1)]) := (k_.2 122 (by decide) (by decide) _ _ HB0.out).trans HB0.out
  have R0 := Lib.hid (R0.out.kw k_)
  have R1 := Lib.hid (R1.out.kw k_)
  have g1_0 := HB1.out.cell 0
  have g1_1 := HB1.out.cell 1
  have g1_2 := HB1.out.cell 2
  clear h_ k_
  go_wp2_with fail
  go_end0
  exact ⟨rfl, HW1.out, HK1.out⟩
set_option maxRecDepth 100000 in
set_option maxHeartbeats 2000000 in
theorem tm_doing {b : Nat} {x0 : L.Tm} {x1 : L.Tm} (hx0 : TmOk b x0) (hx1 : TmOk b x1) : TmOk b (.doing x0 x1) := by
  intro w l v h hrep hlen
  obtain ⟨w0, w1, rfl, r0, r1⟩ := hrep
  obtain ⟨T0, c0, rfl⟩ := Rep.form r0
  have R0_0 := Lib.hid r0
  have I0 := Lib.hid hx0
  clear r0 hx0
  obtain ⟨T1, c1, rfl⟩ := Rep.form r1
  have R1_0 := Lib.hid r1
  have I1 := Lib.hid hx1
  clear r1 hx1
  have a0 := fun W x => assert_skip_no W 124 x (by decide)
  have a1 := fun W x => assert_stop_no W 124 x (by decide)
  have a2 := fun W x => assert_fault_no W 124 x (by decide)
  have a3 := fun W x => assert_row_no W 124 x (by decide)
  have a4 := fun W x => assert_assign_no W 124 x (by decide)
  have a5 := fun W x => assert_choice_no W 124 x (by decide)
  have a6 := fun W x => assert_loop_no W 124 x (by decide)
  have a7 := fun W x => assert_fresh_no W 124 x (by decide)
  have a8 := fun W x => assert_call_no W 124 x (by decide)
  have a9 := fun W x => assert_proc_no W 124 x (by decide)
  have a10 := fun W x => assert_num_no W 124 x (by decide)
  have a11 := fun W x => assert_read_no W 124 x (by decide)
  have a12 := fun W x => assert_binary_no W 124 x (by decide)
  have a13 := assert_doing_yes
  have F := (Frm.refl (fun _ => False) w).alloc (.cells #[.iface T0 (.agg c0), .iface T1 (.agg c1)] 124)
  have HW0 := Lib.hid (h.frm F)
  have HK0 : Hid (Kw b w (w.alloc (.cells #[.iface T0 (.agg c0), .iface T1 (.agg c1)] 124))) := Kw.frm F
  have HB0 := Lib.hid (Blk.new w 124 #[.iface T0 (.agg c0), .iface T1 (.agg c1)])
  have R0 := Lib.hid (R0_0.out.kw HK0.out)
  have R1 := Lib.hid (R1_0.out.kw HK0.out)
  clear h F
  have HX : Hid (L.tx (.doing x0 x1) = [100, 111] ++ (32 :: L.brack x0 (L.tx x0) ++ 32 :: L.brack x1 (L.tx x1))) := show _ = _ by rw [L.tx]
  rw [HX.out] at hlen
  simp only [List.length_append, List.length_cons, List.length_nil] at hlen
  go_enter Tryz.func59, Tryz.ntmps59
  go_wp2_with fail
  refine (add_lit HW0.out [[100, 111]] (by simp) (by simp; omega) (by simp)).mono ?_
  rintro _ w1_ ⟨rfl, h_, k_⟩
  have HW1 := Lib.hid h_
  have HK1 := Lib.hid (HK0.out.trans k_)
  have HB1 : Hid (Blk w1_ w.heap.size 124 #[.iface T0 (.agg c0), .iface T1 (.agg c1)]) := (k_.2 124 (by decide) (by decide) _ _ HB0.out).trans HB0.out
  have R0 := Lib.hid (R0.out.kw k_)
  have R1 := Lib.hid (R1.out.kw k_)
  have g1_0 := HB1.out.cell 0
  have g1_1 := HB1.out.cell 1
  clear h_ k_
  go_wp2_with fail
  refine (blocks_lit (ts := [x0, x1]) (vs := [.iface T0 (.agg c0), .iface T1 (.agg c1)]) HW1.out (fun t ht => by rcases List.mem_cons.1 ht with e | ht; rw [e]; exact I0.out; rw [List.mem_singleton.1 ht]; exact I1.out) ⟨_, _, rfl, R0.out, _, _, rfl, R1.out, rfl⟩ rfl (by simp [L.blks]; omega) (by simp)).mono ?_
  rintro _ w2_ ⟨rfl, h_, k_⟩
  have HW2 := Lib.hid h_
  have HK2 := Lib.hid (HK1.out.trans k_)
  have HB2 : Hid (Blk w2_ w.heap.size 124 #[.iface T0 (.agg c0), .iface T1 (.agg c1)]) := (k_.2 124 (by decide) (by decide) _ _ HB1.out).trans HB1.out
  have R0 := Lib.hid (R0.out.kw k_)
  have R1 := Lib.hid (R1.out.kw k_)
  have g2_0 := HB2.out.cell 0
  have g2_1 := HB2.out.cell 1
  clear h_ k_ g1_0 g1_1
  go_wp2_with fail
  go_end0
  exact ⟨rfl, by rw [HX.out]; simpa [L.blks] using HW2.out, HK2.out⟩
set_option maxRecDepth 100000 in
set_option maxHeartbeats 2000000 in
theorem tm_labelled {b : Nat} (n : L.Bytes) {x0 : L.Tm} (hx0 : TmOk b x0) : TmOk b (.labelled n x0) := by
  intro w l v h hrep hlen
  obtain ⟨w0, rfl, r0⟩ := hrep
  obtain ⟨T0, c0, rfl⟩ := Rep.form r0
  have R0_0 := Lib.hid r0
  have I0 := Lib.hid hx0
  clear r0 hx0
  have a0 := fun W x => assert_skip_no W 133 x (by decide)
  have a1 := fun W x => assert_stop_no W 133 x (by decide)
  have a2 := fun W x => assert_fault_no W 133 x (by decide)
  have a3 := fun W x => assert_row_no W 133 x (by decide)
  have a4 := fun W x => assert_assign_no W 133 x (by decide)
  have a5 := fun W x => assert_choice_no W 133 x (by decide)
  have a6 := fun W x => assert_loop_no W 133 x (by decide)
  have a7 := fun W x => assert_fresh_no W 133 x (by decide)
  have a8 := fun W x => assert_call_no W 133 x (by decide)
  have a9 := fun W x => assert_proc_no W 133 x (by decide)
  have a10 := fun W x => assert_num_no W 133 x (by decide)
  have a11 := fun W x => assert_read_no W 133 x (by decide)
  have a12 := fun W x => assert_binary_no W 133 x (by decide)
  have a13 := fun W x => assert_doing_no W 133 x (by decide)
  have a14 := assert_labelled_yes
  have F := (Frm.refl (fun _ => False) w).alloc (.cells #[.string (str n), .iface T0 (.agg c0)] 133)
  have HW0 := Lib.hid (h.frm F)
  have HK0 : Hid (Kw b w (w.alloc (.cells #[.string (str n), .iface T0 (.agg c0)] 133))) := Kw.frm F
  have HB0 := Lib.hid (Blk.new w 133 #[.string (str n), .iface T0 (.agg c0)])
  have R0 := Lib.hid (R0_0.out.kw HK0.out)
  clear h F
  have HX : Hid (L.tx (.labelled n x0) = [98, 108, 111, 99, 107, 32] ++ (n ++ 32 :: L.brack x0 (L.tx x0))) := show _ = _ by rw [L.tx]
  rw [HX.out] at hlen
  simp only [List.length_append, List.length_cons, List.length_nil] at hlen
  go_enter Tryz.func59, Tryz.ntmps59
  go_wp2_with fail
  refine (add_lit HW0.out [[98, 108, 111, 99, 107, 32], n] (by simp) (by simp; omega) (by simp)).mono ?_
  rintro _ w1_ ⟨rfl, h_, k_⟩
  have HW1 := Lib.hid h_
  have HK1 := Lib.hid (HK0.out.trans k_)
  have HB1 : Hid (Blk w1_ w.heap.size 133 #[.string (str n), .iface T0 (.agg c0)]) := (k_.2 133 (by decide) (by decide) _ _ HB0.out).trans HB0.out
  have R0 := Lib.hid (R0.out.kw k_)
  have g1_0 := HB1.out.cell 0
  have g1_1 := HB1.out.cell 1
  clear h_ k_
  go_wp2_with fail
  refine (blocks_lit (ts := [x0]) (vs := [.iface T0 (.agg c0)]) HW1.out (fun t ht => by rw [List.mem_singleton.1 ht]; exact I0.out) ⟨_, _, rfl, R0.out, rfl⟩ rfl (by simp [L.blks]; omega) (by simp)).mono ?_
  rintro _ w2_ ⟨rfl, h_, k_⟩
  have HW2 := Lib.hid h_
  have HK2 := Lib.hid (HK1.out.trans k_)
  have HB2 : Hid (Blk w2_ w.heap.size 133 #[.string (str n), .iface T0 (.agg c0)]) := (k_.2 133 (by decide) (by decide) _ _ HB1.out).trans HB1.out
  have R0 := Lib.hid (R0.out.kw k_)
  have g2_0 := HB2.out.cell 0
  have g2_1 := HB2.out.cell 1
  clear h_ k_ g1_0 g1_1
  go_wp2_with fail
  go_end0
  exact ⟨rfl, by rw [HX.out]; simpa [L.blks] using HW2.out, HK2.out⟩
set_option maxRecDepth 100000 in
set_option maxHeartbeats 2000000 in
theorem tm_exit {b : Nat} (of : Int) (n : L.Bytes) : TmOk b (.exit of n) := by
  intro w l v h hrep hlen
  obtain rfl := hrep
  have a0 := fun W x => assert_skip_no W 150 x (by decide)
  have a1 := fun W x => assert_stop_no W 150 x (by decide)
  have a2 := fun W x => assert_fault_no W 150 x (by decide)
  have a3 := fun W x => assert_row_no W 150 x (by decide)
  have a4 := fun W x => assert_assign_no W 150 x (by decide)
  have a5 := fun W x => assert_choice_no W 150 x (by decide)
  have a6 := fun W x => assert_loop_no W 150 x (by decide)
  have a7 := fun W x => assert_fresh_no W 150 x (by decide)
  have a8 := fun W x => assert_call_no W 150 x (by decide)
  have a9 := fun W x => assert_proc_no W 150 x (by decide)
  have a10 := fun W x => assert_num_no W 150 x (by decide)
  have a11 := fun W x => assert_read_no W 150 x (by decide)
  have a12 := fun W x => assert_binary_no W 150 x (by decide)
  have a13 := fun W x => assert_doing_no W 150 x (by decide)
  have a14 := fun W x => assert_labelled_no W 150 x (by decide)
  have a15 := assert_exit_yes
  have F := (Frm.refl (fun _ => False) w).alloc (.cells #[.int .i64 of, .string (str n)] 150)
  have HW0 := Lib.hid (h.frm F)
  have HK0 : Hid (Kw b w (w.alloc (.cells #[.int .i64 of, .string (str n)] 150))) := Kw.frm F
  have HB0 := Lib.hid (Blk.new w 150 #[.int .i64 of, .string (str n)])
  clear h F
  have HX : Hid (L.tx (.exit of n) = [101, 120, 105, 116, 32] ++ n) := show _ = _ by rw [L.tx]
  rw [HX.out] at hlen
  simp only [List.length_append, List.length_cons, List.length_nil] at hlen
  go_enter Tryz.func59, Tryz.ntmps59
  go_wp2_with fail
  refine (add_lit HW0.out [[101, 120, 105, 116, 32], n] (by simp) (by simp; omega) (by simp)).mono ?_
  rintro _ w1_ ⟨rfl, h_, k_⟩
  have HW1 := Lib.hid h_
  have HK1 := Lib.hid (HK0.out.trans k_)
  have HB1 : Hid (Blk w1_ w.heap.size 150 #[.int .i64 of, .string (str n)]) := (k_.2 150 (by decide) (by decide) _ _ HB0.out).trans HB0.out
  have g1_0 := HB1.out.cell 0
  have g1_1 := HB1.out.cell 1
  clear h_ k_
  go_wp2_with fail
  go_end0
  exact ⟨rfl, by rw [HX.out]; simpa using HW1.out, HK1.out⟩
end Go.Proofs.YtpdbkdcdlafobaaGreatDoor
end
