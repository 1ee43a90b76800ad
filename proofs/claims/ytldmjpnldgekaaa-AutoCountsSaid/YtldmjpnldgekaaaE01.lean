/- AutoCounts: the law's walk. AutoCounts returns true whatever two machines, length and words come in, and leaves them as they are. No condition. Contracts of the program's functions, with no condition beyond what each theorem states. -/
import Derived.Test.YtldmjpnldgekaaaC10
import Derived.Test.YtldmjpnldgekaaaC11
import Derived.Test.YtldmjpnldgekaaaC09
import Derived.Test.YtldmjpnldgekaaaRows
import Derived.SizedLaws
import Derived.WalkKit
import Derived.ProofKit
import Derived.OpenShut
import Derived.WideKeyArgs
section
namespace Go.Proofs.Ytldmjpnldgekaaa
open Go.RowKit
set_option maxRecDepth 100000 in
set_option maxHeartbeats 32000000 in
theorem counts_law {w : World} {P Q R : Nat → Prop} {va vb vw : Value} {a b : A.Mac} {n : Int} {ws : List (List Int)} (ha : MachAt w P va a) (hb : MachAt w Q vb b) (hw : Rows2 w R vw ws) (sa : Sized a) (sb : Sized b) (fa : a.fin.length ≤ 140737488355328) (ra : ∀ row ∈ a.next, row.length * 8 ≤ 140737488355328) (lw : ws.length ≤ maxLen ∧ ∀ row ∈ ws, row.length ≤ maxLen) :
    Calls Try.prog 4 #[va, vb, .int .i64 n, vw] w fun e w' => e = .returned (.bool true) ∧ Frm (fun _ => False) w w' := by
  obtain ⟨A1, c1, A2, c2, rfl⟩ := ha.form
  obtain ⟨B1, d1, B2, d2, rfl⟩ := hb.form
  have HX0 : Hid (Bx w _ (macC a A1 c1 A2 c2) (macC b B1 d1 B2 d2)) := Bx.new w _ _
  have HA0 := Lib.hid HX0.out.ba
  have HB0 := Lib.hid HX0.out.bb
  have HF0 := Lib.hid HX0.out.fr
  have HM : Hid (MachAt w P (macV a A1 c1 A2 c2) a) := ha
  have HM' : Hid (MachAt w Q (macV b B1 d1 B2 d2) b) := hb
  have HS := Lib.hid sa
  have HS' := Lib.hid sb
  have HW := Lib.hid hw
  have HCA := Lib.hid fa
  have HRA := Lib.hid ra
  have HWL := Lib.hid lw
  obtain ⟨AW, cw, rfl, -⟩ := id hw
  clear ha hb sa sb hw fa ra lw HX0
  have e00 := HA0.out.cell 0
  have e01 := HA0.out.cell 1
  have e02 := HA0.out.cell 2
  have e03 := HA0.out.cell 3
  simp only [macC] at e00 e01 e02 e03
  have e10 := HB0.out.cell 0
  have e11 := HB0.out.cell 1
  have e12 := HB0.out.cell 2
  have e13 := HB0.out.cell 3
  simp only [macC] at e10 e11 e12 e13
  go_enter Try.func4, Try.ntmps4
  go_wp2_with fail
  clear e00 e01 e02 e03 e10 e11 e12 e13
  refine (small_any (HM.out.keep0 HF0.out) HS.out).mono ?_
  rintro _ w1 ⟨rfl, f⟩
  have HA1 := Lib.hid (Frm.blk f HA0.out id)
  have HB1 := Lib.hid (Frm.blk f HB0.out id)
  have HF1 := Lib.hid (HF0.out.trans f)
  clear HA0 HB0 HF0
  clear f
  by_cases hsa : A.small a = true
  case neg =>
    rw [show A.small a = false by simpa using hsa]
    clear hsa
    go_wp2_with fail
    refine (awake_any _).mono ?_
    rintro _ wz ⟨rfl, fz⟩
    have HFZ := Lib.hid (HF1.out.trans fz)
    clear fz
    go_wp2_with fail
    go_ret
    exact ⟨rfl, HFZ.out⟩
  rw [hsa]
  have e00 := HA1.out.cell 0
  have e01 := HA1.out.cell 1
  have e02 := HA1.out.cell 2
  have e03 := HA1.out.cell 3
  simp only [macC] at e00 e01 e02 e03
  have e10 := HB1.out.cell 0
  have e11 := HB1.out.cell 1
  have e12 := HB1.out.cell 2
  have e13 := HB1.out.cell 3
  simp only [macC] at e10 e11 e12 e13
  go_wp2_with fail
  clear e00 e01 e02 e03 e10 e11 e12 e13
  refine (small_any (HM'.out.keep0 HF1.out) HS'.out).mono ?_
  rintro _ w2 ⟨rfl, f⟩
  have HA2 := Lib.hid (Frm.blk f HA1.out id)
  have HB2 := Lib.hid (Frm.blk f HB1.out id)
  have HF2 := Lib.hid (HF1.out.trans f)
  clear HA1 HB1 HF1
  clear f
  by_cases hsb : A.small b = true
  case neg =>
    rw [show A.small b = false by simpa using hsb]
    clear hsa hsb
    go_wp2_with fail
    refine (awake_any _).mono ?_
    rintro _ wz ⟨rfl, fz⟩
    have HFZ := Lib.hid (HF2.out.trans fz)
    clear fz
    go_wp2_with fail
    go_ret
    exact ⟨rfl, HFZ.out⟩
  rw [hsb]
  have HLA : Hid (a.next.length ≤ 30) := by
    unfold A.small at hsa
    simp at hsa
    exact hsa.1.1
  have HLB : Hid (b.next.length ≤ 30) := by
    unfold A.small at hsb
    simp at hsb
    exact hsb.1.1
  have HRM : Hid ((1 + a.next.length) * (1 + b.next.length) ≤ 4000) := show _ ≤ _ from Nat.le_trans (Nat.mul_le_mul (show 1 + a.next.length ≤ 31 by have := HLA.out; omega) (show 1 + b.next.length ≤ 31 by have := HLB.out; omega)) (by decide)
  obtain ⟨ca, ea, hca⟩ : ∃ ca ea, A.count a n = (ca, ea) := ⟨_, _, rfl⟩
  obtain ⟨cb, eb, hcb⟩ : ∃ cb eb, A.count b n = (cb, eb) := ⟨_, _, rfl⟩
  obtain ⟨x, ex, hx⟩ : ∃ x ex, A.tog (fun p q => p && q) a b = (x, ex) := ⟨_, _, rfl⟩
  obtain ⟨y, ey, hy⟩ : ∃ y ey, A.tog (fun p q => p || q) a b = (y, ey) := ⟨_, _, rfl⟩
  have HCNA := Lib.hid hca
  have HCNB := Lib.hid hcb
  have HXE := Lib.hid hx
  have HYE := Lib.hid hy
  have hea : (ea != ea) = false := by simp
  have hcaa : (ca != ca) = false := by simp
  clear hsa hsb hca hcb hx hy
  have e00 := HA2.out.cell 0
  have e01 := HA2.out.cell 1
  have e02 := HA2.out.cell 2
  have e03 := HA2.out.cell 3
  simp only [macC] at e00 e01 e02 e03
  go_wp2_with fail
  clear e00 e01 e02 e03
  have hc := rcount_any (n := n) (HM.out.keep0 HF2.out) HS.out
  rw [HCNA.out] at hc
  refine hc.mono ?_
  clear hc
  rintro _ w3 ⟨rfl, f⟩
  have HA3 := Lib.hid (Frm.blk f HA2.out id)
  have HB3 := Lib.hid (Frm.blk f HB2.out id)
  have HF3 := Lib.hid (HF2.out.trans f)
  clear HA2 HB2 HF2
  clear f
  have e00 := HA3.out.cell 0
  have e01 := HA3.out.cell 1
  have e02 := HA3.out.cell 2
  have e03 := HA3.out.cell 3
  simp only [macC] at e00 e01 e02 e03
  go_wp2_with fail
  clear e00 e01 e02 e03
  refine (copy_any (HM.out.keep0 HF3.out) (by have := HLA.out; omega) HCA.out HRA.out).mono ?_
  rintro _ w4 ⟨r4, rfl, m4, f⟩
  have HC4 := Lib.hid m4
  clear m4
  have HA4 := Lib.hid (Frm.blk f HA3.out id)
  have HB4 := Lib.hid (Frm.blk f HB3.out id)
  have HF4 := Lib.hid (HF3.out.trans f)
  clear HA3 HB3 HF3
  clear f
  go_wp2_with fail
  have hc := count_any (n := n) HC4.out HS.out
  rw [HCNA.out] at hc
  refine hc.mono ?_
  clear hc
  rintro _ w5 ⟨rfl, f⟩
  clear HC4
  have HA5 := Lib.hid (Frm.blk f HA4.out id)
  have HB5 := Lib.hid (Frm.blk f HB4.out id)
  have HF5 := Lib.hid (HF4.out.trans f)
  clear HA4 HB4 HF4
  clear f
  have e00 := HB5.out.cell 0
  have e01 := HB5.out.cell 1
  have e02 := HB5.out.cell 2
  have e03 := HB5.out.cell 3
  simp only [macC] at e00 e01 e02 e03
  go_wp2_with fail
  clear e00 e01 e02 e03
  have hc := count_any (n := n) (HM'.out.keep0 HF5.out) HS'.out
  rw [HCNB.out] at hc
  refine hc.mono ?_
  clear hc
  rintro _ w6 ⟨rfl, f⟩
  have HA6 := Lib.hid (Frm.blk f HA5.out id)
  have HB6 := Lib.hid (Frm.blk f HB5.out id)
  have HF6 := Lib.hid (HF5.out.trans f)
  clear HA5 HB5 HF5
  clear f
  have e00 := HA6.out.cell 0
  have e01 := HA6.out.cell 1
  have e02 := HA6.out.cell 2
  have e03 := HA6.out.cell 3
  simp only [macC] at e00 e01 e02 e03
  have e10 := HB6.out.cell 0
  have e11 := HB6.out.cell 1
  have e12 := HB6.out.cell 2
  have e13 := HB6.out.cell 3
  simp only [macC] at e10 e11 e12 e13
  go_wp2_with fail
  clear e00 e01 e02 e03 e10 e11 e12 e13
  have hc := both_any (HM.out.keep0 HF6.out) (HM'.out.keep0 HF6.out) HS.out HS'.out fun _ => HRM.out
  rw [HXE.out] at hc
  refine hc.mono ?_
  clear hc
  rintro _ w7 ⟨r7, rfl, m7, f⟩
  obtain ⟨C1, h1, C2, h2, rfl⟩ := MachAt.form m7
  have HMX7 : Hid (MachAt w7 (fun z => w6.heap.size ≤ z) (macV x C1 h1 C2 h2) x) := m7
  clear m7
  have HA7 := Lib.hid (Frm.blk f HA6.out id)
  have HB7 := Lib.hid (Frm.blk f HB6.out id)
  have HF7 := Lib.hid (HF6.out.trans f)
  clear HA6 HB6 HF6
  clear f
  obtain ⟨w8, hW8⟩ : ∃ w8, w8 = w7.alloc (.cells #[.int .i64 x.letters, .int .i64 x.start, .slice C1 x.next.length h1, .slice C2 x.fin.length h2] 25) := ⟨_, rfl⟩
  have FA : Frm (fun _ => False) w7 w8 := by rw [hW8]; exact (Frm.refl _ _).alloc _
  obtain ⟨xb, hxb⟩ : ∃ xb, xb = w7.heap.size := ⟨_, rfl⟩
  have HBxb8 : Hid (Blk w8 xb 25 #[.int .i64 x.letters, .int .i64 x.start, .slice C1 x.next.length h1, .slice C2 x.fin.length h2]) := by rw [hW8, hxb]; exact Blk.new w7 _ _
  have HA8 := Lib.hid (Frm.blk FA HA7.out id)
  have HB8 := Lib.hid (Frm.blk FA HB7.out id)
  have HMX8 := Lib.hid (HMX7.out.keep0 FA)
  have HF8 := Lib.hid (HF7.out.trans FA)
  clear HA7 HB7 HMX7 HF7
  clear FA
  have e00 := HA8.out.cell 0
  have e01 := HA8.out.cell 1
  have e02 := HA8.out.cell 2
  have e03 := HA8.out.cell 3
  simp only [macC] at e00 e01 e02 e03
  have e10 := HB8.out.cell 0
  have e11 := HB8.out.cell 1
  have e12 := HB8.out.cell 2
  have e13 := HB8.out.cell 3
  simp only [macC] at e10 e11 e12 e13
  rw [hW8] at e00 e01 e02 e03 e10 e11 e12 e13
  go_wp2_with fail
  rw [← hW8, ← hxb]
  clear e00 e01 e02 e03 e10 e11 e12 e13 hW8 hxb
  have hc := either_any (HM.out.keep0 HF8.out) (HM'.out.keep0 HF8.out) HS.out HS'.out fun _ => HRM.out
  rw [HYE.out] at hc
  refine hc.mono ?_
  clear hc
  rintro _ w9 ⟨r9, rfl, m9, f⟩
  obtain ⟨D1, j1, D2, j2, rfl⟩ := MachAt.form m9
  have HMY9 : Hid (MachAt w9 (fun z => w8.heap.size ≤ z) (macV y D1 j1 D2 j2) y) := m9
  clear m9
  have HA9 := Lib.hid (Frm.blk f HA8.out id)
  have HB9 := Lib.hid (Frm.blk f HB8.out id)
  have HBxb9 := Lib.hid (Frm.blk f HBxb8.out id)
  have HMX9 := Lib.hid (HMX8.out.keep0 f)
  have HF9 := Lib.hid (HF8.out.trans f)
  clear HA8 HB8 HBxb8 HMX8 HF8
  clear f
  obtain ⟨w10, hW10⟩ : ∃ w10, w10 = w9.alloc (.cells #[.int .i64 y.letters, .int .i64 y.start, .slice D1 y.next.length j1, .slice D2 y.fin.length j2] 25) := ⟨_, rfl⟩
  have FA : Frm (fun _ => False) w9 w10 := by rw [hW10]; exact (Frm.refl _ _).alloc _
  obtain ⟨yb, hyb⟩ : ∃ yb, yb = w9.heap.size := ⟨_, rfl⟩
  have HByb10 : Hid (Blk w10 yb 25 #[.int .i64 y.letters, .int .i64 y.start, .slice D1 y.next.length j1, .slice D2 y.fin.length j2]) := by rw [hW10, hyb]; exact Blk.new w9 _ _
  have HA10 := Lib.hid (Frm.blk FA HA9.out id)
  have HB10 := Lib.hid (Frm.blk FA HB9.out id)
  have HBxb10 := Lib.hid (Frm.blk FA HBxb9.out id)
  have HMX10 := Lib.hid (HMX9.out.keep0 FA)
  have HMY10 := Lib.hid (HMY9.out.keep0 FA)
  have HF10 := Lib.hid (HF9.out.trans FA)
  clear HA9 HB9 HBxb9 HMX9 HMY9 HF9
  clear FA
  by_cases z1 : ea = 0
  case neg =>
    have z1' : (ea != 0) = true := by rw [bne_iff_ne]; exact z1
    clear z1
    go_wp2_with fail
    rw [← hW10]
    refine (awake_any _).mono ?_
    rintro _ wz ⟨rfl, fz⟩
    have HFZ := Lib.hid (HF10.out.trans fz)
    clear fz
    go_wp2_with fail
    go_ret
    exact ⟨rfl, HFZ.out⟩
  subst z1
  by_cases z2 : eb = 0
  case neg =>
    have z2' : (eb != 0) = true := by rw [bne_iff_ne]; exact z2
    clear z2
    go_wp2_with fail
    rw [← hW10]
    refine (awake_any _).mono ?_
    rintro _ wz ⟨rfl, fz⟩
    have HFZ := Lib.hid (HF10.out.trans fz)
    clear fz
    go_wp2_with fail
    go_ret
    exact ⟨rfl, HFZ.out⟩
  subst z2
  by_cases z3 : ex = 0
  case neg =>
    have z3' : (ex != 0) = true := by rw [bne_iff_ne]; exact z3
    clear z3
    go_wp2_with fail
    rw [← hW10]
    refine (awake_any _).mono ?_
    rintro _ wz ⟨rfl, fz⟩
    have HFZ := Lib.hid (HF10.out.trans fz)
    clear fz
    go_wp2_with fail
    go_ret
    exact ⟨rfl, HFZ.out⟩
  subst z3
  by_cases z4 : ey = 0
  case neg =>
    have z4' : (ey != 0) = true := by rw [bne_iff_ne]; exact z4
    clear z4
    go_wp2_with fail
    rw [← hW10]
    refine (awake_any _).mono ?_
    rintro _ wz ⟨rfl, fz⟩
    have HFZ := Lib.hid (HF10.out.trans fz)
    clear fz
    go_wp2_with fail
    go_ret
    exact ⟨rfl, HFZ.out⟩
  subst z4
  have hfit : A.fit a b = 0 := by
    have h1 := HXE.out
    unfold A.tog at h1
    by_cases hf : A.fit a b = 0
    · exact hf
    · rw [if_neg hf] at h1
      injection h1 with _ h1
  obtain ⟨hn0, hn1⟩ : 0 ≤ n ∧ n ≤ 1000 := by
    have h1 := HCNA.out
    unfold A.count at h1
    by_cases hf : A.valid a = 0 ∧ 0 ≤ n ∧ n ≤ 1000
    · exact hf.2
    · rw [if_neg hf] at h1
      injection h1 with _ h1
      omega
  obtain ⟨vx, jx, -⟩ := A.tog_valid A.rule_and hfit HRM.out
  obtain ⟨vy, jy, -⟩ := A.tog_valid A.rule_or hfit HRM.out
  rw [HXE.out] at vx jx
  rw [HYE.out] at vy jy
  dsimp only at vx jx vy jy
  have hadd := A.count_add hfit vx vy jx jy hn0 hn1
  obtain ⟨p, hp⟩ : ∃ p, A.count x n = (p, 0) := ⟨(A.count x n).1, by
    unfold A.count
    rw [if_pos ⟨vx, hn0, hn1⟩]
    split <;> rfl⟩
  obtain ⟨q, hq⟩ : ∃ q, A.count y n = (q, 0) := ⟨(A.count y n).1, by
    unfold A.count
    rw [if_pos ⟨vy, hn0, hn1⟩]
    split <;> rfl⟩
  rw [hp, hq, HCNA.out, HCNB.out] at hadd
  dsimp only at hadd
  have hsum : (IntKind.u64.wrap (p + q) != IntKind.u64.wrap (ca + cb)) = false := by rw [hadd]; simp
  have HPX := Lib.hid hp
  have HQY := Lib.hid hq
  have HSX : Hid (Sized x) := by
    obtain ⟨k1, k2, k3⟩ := A.valid_fits vx
    exact fits_sized k1 (by omega) k2
  have HSY : Hid (Sized y) := by
    obtain ⟨k1, k2, k3⟩ := A.valid_fits vy
    exact fits_sized k1 (by omega) k2
  have HAX : Hid (∀ l, A.accepts x l = (A.accepts a l && A.accepts b l)) := A.accepts_join (T := fun p q => p && q) rfl hfit vx jx
  have HAY : Hid (∀ l, A.accepts y l = (A.accepts a l || A.accepts b l)) := A.accepts_join (T := fun p q => p || q) rfl hfit vy jy
  clear hfit hn0 hn1 vx jx vy jy hadd hp hq
  have e00 := HBxb10.out.cell 0
  have e01 := HBxb10.out.cell 1
  have e02 := HBxb10.out.cell 2
  have e03 := HBxb10.out.cell 3
  rw [hW10] at e00 e01 e02 e03
  go_wp2_with fail
  rw [← hW10, ← hyb]
  clear e00 e01 e02 e03
  have hc := count_any (n := n) HMX10.out HSX.out
  rw [HPX.out] at hc
  refine hc.mono ?_
  clear hc
  rintro _ w11 ⟨rfl, f⟩
  have HA11 := Lib.hid (Frm.blk f HA10.out id)
  have HB11 := Lib.hid (Frm.blk f HB10.out id)
  have HBxb11 := Lib.hid (Frm.blk f HBxb10.out id)
  have HByb11 := Lib.hid (Frm.blk f HByb10.out id)
  have HMX11 := Lib.hid (HMX10.out.keep0 f)
  have HMY11 := Lib.hid (HMY10.out.keep0 f)
  have HF11 := Lib.hid (HF10.out.trans f)
  clear HA10 HB10 HBxb10 HByb10 HMX10 HMY10 HF10
  clear f hW10 hyb
  have e00 := HByb11.out.cell 0
  have e01 := HByb11.out.cell 1
  have e02 := HByb11.out.cell 2
  have e03 := HByb11.out.cell 3
  go_wp2_with fail
  clear e00 e01 e02 e03
  have hc := count_any (n := n) HMY11.out HSY.out
  rw [HQY.out] at hc
  refine hc.mono ?_
  clear hc
  rintro _ w12 ⟨rfl, f⟩
  have HA12 := Lib.hid (Frm.blk f HA11.out id)
  have HB12 := Lib.hid (Frm.blk f HB11.out id)
  have HBxb12 := Lib.hid (Frm.blk f HBxb11.out id)
  have HByb12 := Lib.hid (Frm.blk f HByb11.out id)
  have HMX12 := Lib.hid (HMX11.out.keep0 f)
  have HMY12 := Lib.hid (HMY11.out.keep0 f)
  have HF12 := Lib.hid (HF11.out.trans f)
  clear HA11 HB11 HBxb11 HByb11 HMX11 HMY11 HF11
  clear f
  have hwl := HWL.out.1
  unfold maxLen at hwl
  go_wp2_with fail
  go_loopg [23] (ws.length + 1) (fun nn u wr => ∃ k : Nat, k ≤ ws.length ∧ nn = ws.length + 1 - k ∧ u = .int .i64 (k : Int) ∧ Hid (Frm (fun _ => False) w12 wr))
  case atStart => exact ⟨0, Nat.zero_le _, rfl, rfl, Frm.refl _ _⟩
  case round =>
    obtain ⟨k, hk, rfl, rfl, HF⟩ := hrel
    by_cases hlt : k < ws.length
    · have hlt' : (k : Int) < (ws.length : Int) := by omega
      obtain ⟨AW', cw', eW, hW'⟩ := HW.out
      injection eW with eW1 eW2 eW3
      subst eW1 eW3
      obtain ⟨gw, ow, rv, rfl, _, hcell, AR, cR, rfl, hrow⟩ := hW' k hlt
      have HFL : Hid (Frm (fun _ => False) w wr) := HF12.out.trans HF.out
      have d0 := HFL.out.cell id hcell
      obtain ⟨row, hrw⟩ : ∃ row, row = ws[k] := ⟨_, rfl⟩
      have HRL : Hid (row.length ≤ maxLen) := show _ ≤ _ by rw [hrw]; exact HWL.out.2 _ (List.getElem_mem hlt)
      have HRW : Hid (Ints w R (.slice AR row.length cR) row) := by rw [hrw]; exact ⟨AR, cR, rfl, hrow⟩
      rw [← hrw] at d0
      clear hcell hrow hW' hrw eW2
      have HBA := Lib.hid (HF.out.blk HA12.out id)
      have HBB := Lib.hid (HF.out.blk HB12.out id)
      obtain ⟨a1, ha1⟩ : ∃ a1, A.accepts a row = a1 := ⟨_, rfl⟩
      obtain ⟨a2, ha2⟩ : ∃ a2, A.accepts b row = a2 := ⟨_, rfl⟩
      have A1E := Lib.hid ha1
      have A2E := Lib.hid ha2
      clear ha1 ha2
      go_wp2_with fail
      refine wp_region_listI [122, 123, 124, 125, 126, 127, 128, 129, 130, 131, 132, 133, 24, 25] [vV (macV a A1 c1 A2 c2), vV (.slice (some ⟨gw, ow, none⟩) ws.length cw), vV (.int .i64 (k : Int)), vV (.pointer (some ⟨gw, ow + k, none⟩)), vV (.slice AR row.length cR), vV (.bool a1), vV (macV b B1 d1 B2 d2), vV (.slice (some ⟨gw, ow, none⟩) ws.length cw), vV (.int .i64 (k : Int)), vV (.pointer (some ⟨gw, ow + k, none⟩)), vV (.slice AR row.length cR), vV (.bool a2), vV (.bool a1), vV (.bool a2)] (Frm (fun _ => False)) [] [(4, .pointer (some ⟨w.heap.size, 0, none⟩)), (5, .pointer (some ⟨w.heap.size + 1, 0, none⟩)), (3, .slice (some ⟨gw, ow, none⟩) ws.length cw), (23, .int .i64 (k : Int))] (by kernel_rfl) (by kernel_rfl) (by kernel_rfl) (fun _ _ _ => Frm.trans) ?_ (fun _ h => by cases h) (Frm.refl _ _).drew ?_ ?_ ?_
      · intro f hf v a' b' h F
        simp only [List.mem_cons, List.not_mem_nil, or_false] at hf
        rcases hf with rfl | rfl | rfl | rfl | rfl | rfl | rfl | rfl | rfl | rfl | rfl | rfl | rfl | rfl <;> exact h
      · intro z hz
        simp only [List.mem_cons, List.not_mem_nil, or_false] at hz
        rcases hz with rfl | rfl | rfl | rfl <;> exact ⟨by simp, rfl⟩
      · refine ⟨?_, ?_, ?_, ?_, ?_, ?_, ?_, ?_, ?_, ?_, ?_, ?_, ?_, ?_, trivial⟩
        · intro Q tm df V hR hu hd
          have u4 : tm[4]?.getD undef = .pointer (some ⟨w.heap.size, 0, none⟩) := hu (4, _) (by simp)
          have hb := hR.blk HBA.out id
          have y0 := hb.cell 0
          have y1 := hb.cell 1
          have y2 := hb.cell 2
          have y3 := hb.cell 3
          simp only [macC] at y0 y1 y2 y3
          clear hu hd
          go_simp
          exact ⟨_, rfl, rfl, Frm.refl _ V⟩
        · intro Q tm df V hR hu hd
          have u3 : tm[3]?.getD undef = .slice (some ⟨gw, ow, none⟩) ws.length cw := hu (3, _) (by simp)
          clear hu hd
          go_simp
          exact ⟨_, rfl, rfl, Frm.refl _ V⟩
        · intro Q tm df V hR hu hd
          have u23 : tm[23]?.getD undef = .int .i64 (k : Int) := hu (23, _) (by simp)
          clear hu hd
          go_simp
          exact ⟨_, rfl, rfl, Frm.refl _ V⟩
        · intro Q tm df V hR hu hd
          have e1 : tm[123]?.getD undef = .slice (some ⟨gw, ow, none⟩) ws.length cw := hd 1 (by simp [Region.binds])
          have e2 : tm[124]?.getD undef = .int .i64 (k : Int) := hd 2 (by simp [Region.binds])
          clear hu hd
          go_simp
          exact ⟨_, rfl, rfl, Frm.refl _ V⟩
        · intro Q tm df V hR hu hd
          have e3 : tm[125]?.getD undef = .pointer (some ⟨gw, ow + k, none⟩) := hd 3 (by simp [Region.binds])
          have y := hR.cell id d0
          clear hu hd
          go_simp
          exact ⟨_, rfl, rfl, Frm.refl _ V⟩
        · intro Q tm df V hR hu hd
          have e0 : tm[122]?.getD undef = macV a A1 c1 A2 c2 := hd 0 (by simp [Region.binds])
          have e4 : tm[126]?.getD undef = .slice AR row.length cR := hd 4 (by simp [Region.binds])
          have hcall := accepts_any (HM.out.keep0 (HFL.out.trans hR)) HS.out (HRW.out.keep (HFL.out.trans hR) fun _ _ => id) HRL.out
          rw [A1E.out] at hcall
          clear hu hd
          go_simp
          refine hcall.mono ?_
          rintro e w' ⟨rfl, f⟩
          exact ⟨_, rfl, rfl, f⟩
        · intro Q tm df V hR hu hd
          have u5 : tm[5]?.getD undef = .pointer (some ⟨w.heap.size + 1, 0, none⟩) := hu (5, _) (by simp)
          have hb := hR.blk HBB.out id
          have y0 := hb.cell 0
          have y1 := hb.cell 1
          have y2 := hb.cell 2
          have y3 := hb.cell 3
          simp only [macC] at y0 y1 y2 y3
          clear hu hd
          go_simp
          exact ⟨_, rfl, rfl, Frm.refl _ V⟩
        · intro Q tm df V hR hu hd
          have u3 : tm[3]?.getD undef = .slice (some ⟨gw, ow, none⟩) ws.length cw := hu (3, _) (by simp)
          clear hu hd
          go_simp
          exact ⟨_, rfl, rfl, Frm.refl _ V⟩
        · intro Q tm df V hR hu hd
          have u23 : tm[23]?.getD undef = .int .i64 (k : Int) := hu (23, _) (by simp)
          clear hu hd
          go_simp
          exact ⟨_, rfl, rfl, Frm.refl _ V⟩
        · intro Q tm df V hR hu hd
          have e7 : tm[129]?.getD undef = .slice (some ⟨gw, ow, none⟩) ws.length cw := hd 7 (by simp [Region.binds])
          have e8 : tm[130]?.getD undef = .int .i64 (k : Int) := hd 8 (by simp [Region.binds])
          clear hu hd
          go_simp
          exact ⟨_, rfl, rfl, Frm.refl _ V⟩
        · intro Q tm df V hR hu hd
          have e9 : tm[131]?.getD undef = .pointer (some ⟨gw, ow + k, none⟩) := hd 9 (by simp [Region.binds])
          have y := hR.cell id d0
          clear hu hd
          go_simp
          exact ⟨_, rfl, rfl, Frm.refl _ V⟩
        · intro Q tm df V hR hu hd
          have e6 : tm[128]?.getD undef = macV b B1 d1 B2 d2 := hd 6 (by simp [Region.binds])
          have e10 : tm[132]?.getD undef = .slice AR row.length cR := hd 10 (by simp [Region.binds])
          have hcall := accepts_any (HM'.out.keep0 (HFL.out.trans hR)) HS'.out (HRW.out.keep (HFL.out.trans hR) fun _ _ => id) HRL.out
          rw [A2E.out] at hcall
          clear hu hd
          go_simp
          refine hcall.mono ?_
          rintro e w' ⟨rfl, f⟩
          exact ⟨_, rfl, rfl, f⟩
        · intro Q tm df V hR hu hd
          have e5 : tm[127]?.getD undef = .bool a1 := hd 5 (by simp [Region.binds])
          clear hu hd
          go_simp
          exact ⟨_, rfl, rfl, Frm.refl _ V⟩
        · intro Q tm df V hR hu hd
          have e11 : tm[133]?.getD undef = .bool a2 := hd 11 (by simp [Region.binds])
          clear hu hd
          go_simp
          exact ⟨_, rfl, rfl, Frm.refl _ V⟩
      · intro vs V hR hf
        have v12 : vs 12 = .bool a1 := hf 12 (by decide)
        have v13 : vs 13 = .bool a2 := hf 13 (by decide)
        clear hf
        simp only [putAll, List.size_toArray, List.length_cons, List.length_nil, Nat.zero_add, Nat.reduceAdd, show List.range 14 = [0, 1, 2, 3, 4, 5, 6, 7, 8, 9, 10, 11, 12, 13] from rfl, List.foldl_cons, List.foldl_nil, List.getD_cons_zero, List.getD_cons_succ, List.setIfInBounds_toArray, List.set_cons_zero, List.set_cons_succ, v12, v13]
        have HF19 : Hid (Frm (fun _ => False) w12 V) := HF.out.trans hR
        have d0 := hR.cell id d0
        clear hR HFL HBA HBB
        have HFL : Hid (Frm (fun _ => False) w V) := HF12.out.trans HF19.out
        have HBX := Lib.hid (HF19.out.blk HBxb12.out id)
        have HBY := Lib.hid (HF19.out.blk HByb12.out id)
        have HMX := Lib.hid (HMX12.out.keep0 HF19.out)
        have HMY := Lib.hid (HMY12.out.keep0 HF19.out)
        have hb1 : (true != true) = false := rfl
        have hb2 : (false != false) = false := rfl
        have hb3 : (a2 != a2) = false := by simp
        go_wp2_with fail
        cases a1 with
        | true =>
          have XE : Hid (A.accepts x row = a2) := show _ = _ by rw [HAX.out, A1E.out, A2E.out]; rfl
          have YE : Hid (A.accepts y row = true) := show _ = _ by rw [HAY.out, A1E.out]; rfl
          refine wp_region_listS [134, 135, 136, 137, 138, 139, 140, 141, 142, 143, 144, 145, 146, 147, 148, 149, 150, 151, 152, 153, 154, 155, 156, 157] [vV (macV x C1 h1 C2 h2), vV (.slice (some ⟨gw, ow, none⟩) ws.length cw), vV (.int .i64 (k : Int)), vV (.pointer (some ⟨gw, ow + k, none⟩)), vV (.slice AR row.length cR), vV (.bool a2), vV (.bool true), vV (.bool true), vV (.bool a2), vV (.bool a2), vV (.bool false), vV (.bool false), vV (macV y D1 j1 D2 j2), vV (.slice (some ⟨gw, ow, none⟩) ws.length cw), vV (.int .i64 (k : Int)), vV (.pointer (some ⟨gw, ow + k, none⟩)), vV (.slice AR row.length cR), vV (.bool true), vV (.bool true), vV (.bool true), vV (undef), vV (.bool true), vV (.bool false), vV (.bool false)] (Frm (fun _ => False)) [(7, true), (11, false), (19, true)] [(15, .pointer (some ⟨xb, 0, none⟩)), (17, .pointer (some ⟨yb, 0, none⟩)), (3, .slice (some ⟨gw, ow, none⟩) ws.length cw), (23, .int .i64 (k : Int)), (24, .bool true), (25, .bool a2)] (by kernel_rfl) (by kernel_rfl) (by kernel_rfl) (fun _ _ _ => Frm.trans) ?_ ?_ (Frm.refl _ _).drew ?_ ?_ ?_
          · intro f hf v a' b' h F
            simp only [List.mem_cons, List.not_mem_nil, or_false] at hf
            rcases hf with rfl | rfl | rfl | rfl | rfl | rfl | rfl | rfl | rfl | rfl | rfl | rfl | rfl | rfl | rfl | rfl | rfl | rfl | rfl | rfl | rfl | rfl | rfl | rfl <;> exact h
          · intro g hg v V h
            simp only [List.mem_cons, List.not_mem_nil, or_false] at hg
            rcases hg with rfl | rfl | rfl <;> exact h
          · intro z hz
            simp only [List.mem_cons, List.not_mem_nil, or_false] at hz
            rcases hz with rfl | rfl | rfl | rfl | rfl | rfl <;> exact ⟨by simp, rfl⟩
          · refine ⟨?_, ?_, ?_, ?_, ?_, ?_, ?_, ?_, ?_, ?_, ?_, ?_, ?_, ?_, ?_, ?_, ?_, ?_, ?_, ?_, ?_, ?_, ?_, ?_, trivial⟩
            · refine ⟨fun _ => ?_, fun h => by simp [toldG] at h⟩
              intro Q tm df V hR hu hd
              have u15 : tm[15]?.getD undef = .pointer (some ⟨xb, 0, none⟩) := hu (15, _) (by simp)
              have hb := hR.blk HBX.out id
              have y0 := hb.cell 0
              have y1 := hb.cell 1
              have y2 := hb.cell 2
              have y3 := hb.cell 3
              clear hu hd
              go_simp
              exact ⟨_, rfl, rfl, Frm.refl _ V⟩
            · refine ⟨fun _ => ?_, fun h => by simp [toldG] at h⟩
              intro Q tm df V hR hu hd
              have u3 : tm[3]?.getD undef = .slice (some ⟨gw, ow, none⟩) ws.length cw := hu (3, _) (by simp)
              clear hu hd
              go_simp
              exact ⟨_, rfl, rfl, Frm.refl _ V⟩
            · refine ⟨fun _ => ?_, fun h => by simp [toldG] at h⟩
              intro Q tm df V hR hu hd
              have u23 : tm[23]?.getD undef = .int .i64 (k : Int) := hu (23, _) (by simp)
              clear hu hd
              go_simp
              exact ⟨_, rfl, rfl, Frm.refl _ V⟩
            · refine ⟨fun _ => ?_, fun h => by simp [toldG] at h⟩
              intro Q tm df V hR hu hd
              have e1 : tm[135]?.getD undef = .slice (some ⟨gw, ow, none⟩) ws.length cw := hd 1 (by simp [Region.binds])
              have e2 : tm[136]?.getD undef = .int .i64 (k : Int) := hd 2 (by simp [Region.binds])
              clear hu hd
              go_simp
              exact ⟨_, rfl, rfl, Frm.refl _ V⟩
            · refine ⟨fun _ => ?_, fun h => by simp [toldG] at h⟩
              intro Q tm df V hR hu hd
              have e3 : tm[137]?.getD undef = .pointer (some ⟨gw, ow + k, none⟩) := hd 3 (by simp [Region.binds])
              have y := hR.cell id d0
              clear hu hd
              go_simp
              exact ⟨_, rfl, rfl, Frm.refl _ V⟩
            · refine ⟨fun _ => ?_, fun h => by simp [toldG] at h⟩
              intro Q tm df V hR hu hd
              have e0 : tm[134]?.getD undef = macV x C1 h1 C2 h2 := hd 0 (by simp [Region.binds])
              have e4 : tm[138]?.getD undef = .slice AR row.length cR := hd 4 (by simp [Region.binds])
              have hcall := accepts_any (HMX.out.keep0 hR) HSX.out (HRW.out.keep (HFL.out.trans hR) fun _ _ => id) HRL.out
              rw [XE.out] at hcall
              clear hu hd
              go_simp
              refine hcall.mono ?_
              rintro e w' ⟨rfl, f⟩
              exact ⟨_, rfl, rfl, f⟩
            · refine ⟨fun _ => ?_, fun h => by simp [toldG] at h⟩
              intro Q tm df V hR hu hd
              have u24 : tm[24]?.getD undef = .bool true := hu (24, _) (by simp)
              clear hu hd
              go_simp
              exact ⟨_, rfl, rfl, Frm.refl _ V⟩
            · refine ⟨fun _ => ?_, fun h => by simp [toldG] at h⟩
              intro Q tm df V hR hu hd
              have e6 : tm[140]?.getD undef = .bool true := hd 6 (by simp [Region.binds])
              clear hu hd
              go_simp
              exact ⟨_, rfl, rfl, Frm.refl _ V⟩
            · refine ⟨fun _ => ?_, fun h => by simp [toldG] at h⟩
              intro Q tm df V hR hu hd
              have u25 : tm[25]?.getD undef = .bool a2 := hu (25, _) (by simp)
              clear hu hd
              go_simp
              exact ⟨_, rfl, rfl, Frm.refl _ V⟩
            · refine ⟨fun _ => ?_, fun h => by simp [toldG] at h⟩
              intro Q tm df V hR hu hd
              have e7 : tm[141]?.getD undef = .bool true := hd 7 (by simp [Region.binds])
              have e8 : tm[142]?.getD undef = .bool a2 := hd 8 (by simp [Region.binds])
              clear hu hd
              go_simp
              exact ⟨_, rfl, rfl, Frm.refl _ V⟩
            · refine ⟨fun _ => ?_, fun h => by simp [toldG] at h⟩
              intro Q tm df V hR hu hd
              have e5 : tm[139]?.getD undef = .bool a2 := hd 5 (by simp [Region.binds])
              have e9 : tm[143]?.getD undef = .bool a2 := hd 9 (by simp [Region.binds])
              clear hu hd
              go_simp
              exact ⟨_, rfl, rfl, Frm.refl _ V⟩
            · refine ⟨fun _ => ?_, fun h => by simp [toldG] at h⟩
              intro Q tm df V hR hu hd
              have e10 : tm[144]?.getD undef = .bool false := hd 10 (by simp [Region.binds])
              clear hu hd
              go_simp
              exact ⟨_, rfl, rfl, Frm.refl _ V⟩
            · refine ⟨fun _ => ?_, fun h => by simp [toldG] at h⟩
              intro Q tm df V hR hu hd
              have u17 : tm[17]?.getD undef = .pointer (some ⟨yb, 0, none⟩) := hu (17, _) (by simp)
              have hb := hR.blk HBY.out id
              have y0 := hb.cell 0
              have y1 := hb.cell 1
              have y2 := hb.cell 2
              have y3 := hb.cell 3
              clear hu hd
              go_simp
              exact ⟨_, rfl, rfl, Frm.refl _ V⟩
            · refine ⟨fun _ => ?_, fun h => by simp [toldG] at h⟩
              intro Q tm df V hR hu hd
              have u3 : tm[3]?.getD undef = .slice (some ⟨gw, ow, none⟩) ws.length cw := hu (3, _) (by simp)
              clear hu hd
              go_simp
              exact ⟨_, rfl, rfl, Frm.refl _ V⟩
            · refine ⟨fun _ => ?_, fun h => by simp [toldG] at h⟩
              intro Q tm df V hR hu hd
              have u23 : tm[23]?.getD undef = .int .i64 (k : Int) := hu (23, _) (by simp)
              clear hu hd
              go_simp
              exact ⟨_, rfl, rfl, Frm.refl _ V⟩
            · refine ⟨fun _ => ?_, fun h => by simp [toldG] at h⟩
              intro Q tm df V hR hu hd
              have e13 : tm[147]?.getD undef = .slice (some ⟨gw, ow, none⟩) ws.length cw := hd 13 (by simp [Region.binds])
              have e14 : tm[148]?.getD undef = .int .i64 (k : Int) := hd 14 (by simp [Region.binds])
              clear hu hd
              go_simp
              exact ⟨_, rfl, rfl, Frm.refl _ V⟩
            · refine ⟨fun _ => ?_, fun h => by simp [toldG] at h⟩
              intro Q tm df V hR hu hd
              have e15 : tm[149]?.getD undef = .pointer (some ⟨gw, ow + k, none⟩) := hd 15 (by simp [Region.binds])
              have y := hR.cell id d0
              clear hu hd
              go_simp
              exact ⟨_, rfl, rfl, Frm.refl _ V⟩
            · refine ⟨fun _ => ?_, fun h => by simp [toldG] at h⟩
              intro Q tm df V hR hu hd
              have e12 : tm[146]?.getD undef = macV y D1 j1 D2 j2 := hd 12 (by simp [Region.binds])
              have e16 : tm[150]?.getD undef = .slice AR row.length cR := hd 16 (by simp [Region.binds])
              have hcall := accepts_any (HMY.out.keep0 hR) HSY.out (HRW.out.keep (HFL.out.trans hR) fun _ _ => id) HRL.out
              rw [YE.out] at hcall
              clear hu hd
              go_simp
              refine hcall.mono ?_
              rintro e w' ⟨rfl, f⟩
              exact ⟨_, rfl, rfl, f⟩
            · refine ⟨fun _ => ?_, fun h => by simp [toldG] at h⟩
              intro Q tm df V hR hu hd
              have u24 : tm[24]?.getD undef = .bool true := hu (24, _) (by simp)
              clear hu hd
              go_simp
              exact ⟨_, rfl, rfl, Frm.refl _ V⟩
            · refine ⟨fun _ => ?_, fun h => by simp [toldG] at h⟩
              intro Q tm df V hR hu hd
              have e18 : tm[152]?.getD undef = .bool true := hd 18 (by simp [Region.binds])
              clear hu hd
              go_simp
              exact ⟨_, rfl, rfl, Frm.refl _ V⟩
            · exact ⟨fun h => by simp [toldG] at h, fun _ V _ => rfl⟩
            · refine ⟨fun _ => ?_, fun h => by simp [toldG] at h⟩
              intro Q tm df V hR hu hd
              have e19 : tm[153]?.getD undef = .bool true := hd 19 (by simp [Region.binds])
              clear hu hd
              go_simp
              exact ⟨_, rfl, rfl, Frm.refl _ V⟩
            · refine ⟨fun _ => ?_, fun h => by simp [toldG] at h⟩
              intro Q tm df V hR hu hd
              have e17 : tm[151]?.getD undef = .bool true := hd 17 (by simp [Region.binds])
              have e21 : tm[155]?.getD undef = .bool true := hd 21 (by simp [Region.binds])
              clear hu hd
              go_simp
              exact ⟨_, rfl, rfl, Frm.refl _ V⟩
            · refine ⟨fun _ => ?_, fun h => by simp [toldG] at h⟩
              intro Q tm df V hR hu hd
              have e11 : tm[145]?.getD undef = .bool false := hd 11 (by simp [Region.binds])
              have e22 : tm[156]?.getD undef = .bool false := hd 22 (by simp [Region.binds])
              clear hu hd
              go_simp
              exact ⟨_, rfl, rfl, Frm.refl _ V⟩
          · intro vs V hR hf
            have v23 : vs 23 = .bool false := hf 23 (by decide)
            clear hf
            simp only [putAll, List.size_toArray, List.length_cons, List.length_nil, Nat.zero_add, Nat.reduceAdd, show List.range 24 = [0, 1, 2, 3, 4, 5, 6, 7, 8, 9, 10, 11, 12, 13, 14, 15, 16, 17, 18, 19, 20, 21, 22, 23] from rfl, List.foldl_cons, List.foldl_nil, List.getD_cons_zero, List.getD_cons_succ, List.setIfInBounds_toArray, List.set_cons_zero, List.set_cons_succ, v23]
            have HF20 : Hid (Frm (fun _ => False) w12 V) := HF19.out.trans hR
            clear hR HBX HBY HMX HMY HF19 HF HFL
            go_wp2_with fail
            go_roundg (ws.length + 1 - (k + 1))
            case measure => omega
            case rel => exact ⟨k + 1, by omega, rfl, by go_num, HF20⟩
        | false =>
          have XE : Hid (A.accepts x row = false) := show _ = _ by rw [HAX.out, A1E.out]; rfl
          have YE : Hid (A.accepts y row = a2) := show _ = _ by rw [HAY.out, A1E.out, A2E.out]; rfl
          refine wp_region_listS [134, 135, 136, 137, 138, 139, 140, 141, 142, 143, 144, 145, 146, 147, 148, 149, 150, 151, 152, 153, 154, 155, 156, 157] [vV (macV x C1 h1 C2 h2), vV (.slice (some ⟨gw, ow, none⟩) ws.length cw), vV (.int .i64 (k : Int)), vV (.pointer (some ⟨gw, ow + k, none⟩)), vV (.slice AR row.length cR), vV (.bool false), vV (.bool false), vV (.bool false), vV (undef), vV (.bool false), vV (.bool false), vV (.bool false), vV (macV y D1 j1 D2 j2), vV (.slice (some ⟨gw, ow, none⟩) ws.length cw), vV (.int .i64 (k : Int)), vV (.pointer (some ⟨gw, ow + k, none⟩)), vV (.slice AR row.length cR), vV (.bool a2), vV (.bool false), vV (.bool false), vV (.bool a2), vV (.bool a2), vV (.bool false), vV (.bool false)] (Frm (fun _ => False)) [(7, false), (11, false), (19, false)] [(15, .pointer (some ⟨xb, 0, none⟩)), (17, .pointer (some ⟨yb, 0, none⟩)), (3, .slice (some ⟨gw, ow, none⟩) ws.length cw), (23, .int .i64 (k : Int)), (24, .bool false), (25, .bool a2)] (by kernel_rfl) (by kernel_rfl) (by kernel_rfl) (fun _ _ _ => Frm.trans) ?_ ?_ (Frm.refl _ _).drew ?_ ?_ ?_
          · intro f hf v a' b' h F
            simp only [List.mem_cons, List.not_mem_nil, or_false] at hf
            rcases hf with rfl | rfl | rfl | rfl | rfl | rfl | rfl | rfl | rfl | rfl | rfl | rfl | rfl | rfl | rfl | rfl | rfl | rfl | rfl | rfl | rfl | rfl | rfl | rfl <;> exact h
          · intro g hg v V h
            simp only [List.mem_cons, List.not_mem_nil, or_false] at hg
            rcases hg with rfl | rfl | rfl <;> exact h
          · intro z hz
            simp only [List.mem_cons, List.not_mem_nil, or_false] at hz
            rcases hz with rfl | rfl | rfl | rfl | rfl | rfl <;> exact ⟨by simp, rfl⟩
          · refine ⟨?_, ?_, ?_, ?_, ?_, ?_, ?_, ?_, ?_, ?_, ?_, ?_, ?_, ?_, ?_, ?_, ?_, ?_, ?_, ?_, ?_, ?_, ?_, ?_, trivial⟩
            · refine ⟨fun _ => ?_, fun h => by simp [toldG] at h⟩
              intro Q tm df V hR hu hd
              have u15 : tm[15]?.getD undef = .pointer (some ⟨xb, 0, none⟩) := hu (15, _) (by simp)
              have hb := hR.blk HBX.out id
              have y0 := hb.cell 0
              have y1 := hb.cell 1
              have y2 := hb.cell 2
              have y3 := hb.cell 3
              clear hu hd
              go_simp
              exact ⟨_, rfl, rfl, Frm.refl _ V⟩
            · refine ⟨fun _ => ?_, fun h => by simp [toldG] at h⟩
              intro Q tm df V hR hu hd
              have u3 : tm[3]?.getD undef = .slice (some ⟨gw, ow, none⟩) ws.length cw := hu (3, _) (by simp)
              clear hu hd
              go_simp
              exact ⟨_, rfl, rfl, Frm.refl _ V⟩
            · refine ⟨fun _ => ?_, fun h => by simp [toldG] at h⟩
              intro Q tm df V hR hu hd
              have u23 : tm[23]?.getD undef = .int .i64 (k : Int) := hu (23, _) (by simp)
              clear hu hd
              go_simp
              exact ⟨_, rfl, rfl, Frm.refl _ V⟩
            · refine ⟨fun _ => ?_, fun h => by simp [toldG] at h⟩
              intro Q tm df V hR hu hd
              have e1 : tm[135]?.getD undef = .slice (some ⟨gw, ow, none⟩) ws.length cw := hd 1 (by simp [Region.binds])
              have e2 : tm[136]?.getD undef = .int .i64 (k : Int) := hd 2 (by simp [Region.binds])
              clear hu hd
              go_simp
              exact ⟨_, rfl, rfl, Frm.refl _ V⟩
            · refine ⟨fun _ => ?_, fun h => by simp [toldG] at h⟩
              intro Q tm df V hR hu hd
              have e3 : tm[137]?.getD undef = .pointer (some ⟨gw, ow + k, none⟩) := hd 3 (by simp [Region.binds])
              have y := hR.cell id d0
              clear hu hd
              go_simp
              exact ⟨_, rfl, rfl, Frm.refl _ V⟩
            · refine ⟨fun _ => ?_, fun h => by simp [toldG] at h⟩
              intro Q tm df V hR hu hd
              have e0 : tm[134]?.getD undef = macV x C1 h1 C2 h2 := hd 0 (by simp [Region.binds])
              have e4 : tm[138]?.getD undef = .slice AR row.length cR := hd 4 (by simp [Region.binds])
              have hcall := accepts_any (HMX.out.keep0 hR) HSX.out (HRW.out.keep (HFL.out.trans hR) fun _ _ => id) HRL.out
              rw [XE.out] at hcall
              clear hu hd
              go_simp
              refine hcall.mono ?_
              rintro e w' ⟨rfl, f⟩
              exact ⟨_, rfl, rfl, f⟩
            · refine ⟨fun _ => ?_, fun h => by simp [toldG] at h⟩
              intro Q tm df V hR hu hd
              have u24 : tm[24]?.getD undef = .bool false := hu (24, _) (by simp)
              clear hu hd
              go_simp
              exact ⟨_, rfl, rfl, Frm.refl _ V⟩
            · refine ⟨fun _ => ?_, fun h => by simp [toldG] at h⟩
              intro Q tm df V hR hu hd
              have e6 : tm[140]?.getD undef = .bool false := hd 6 (by simp [Region.binds])
              clear hu hd
              go_simp
              exact ⟨_, rfl, rfl, Frm.refl _ V⟩
            · exact ⟨fun h => by simp [toldG] at h, fun _ V _ => rfl⟩
            · refine ⟨fun _ => ?_, fun h => by simp [toldG] at h⟩
              intro Q tm df V hR hu hd
              have e7 : tm[141]?.getD undef = .bool false := hd 7 (by simp [Region.binds])
              clear hu hd
              go_simp
              exact ⟨_, rfl, rfl, Frm.refl _ V⟩
            · refine ⟨fun _ => ?_, fun h => by simp [toldG] at h⟩
              intro Q tm df V hR hu hd
              have e5 : tm[139]?.getD undef = .bool false := hd 5 (by simp [Region.binds])
              have e9 : tm[143]?.getD undef = .bool false := hd 9 (by simp [Region.binds])
              clear hu hd
              go_simp
              exact ⟨_, rfl, rfl, Frm.refl _ V⟩
            · refine ⟨fun _ => ?_, fun h => by simp [toldG] at h⟩
              intro Q tm df V hR hu hd
              have e10 : tm[144]?.getD undef = .bool false := hd 10 (by simp [Region.binds])
              clear hu hd
              go_simp
              exact ⟨_, rfl, rfl, Frm.refl _ V⟩
            · refine ⟨fun _ => ?_, fun h => by simp [toldG] at h⟩
              intro Q tm df V hR hu hd
              have u17 : tm[17]?.getD undef = .pointer (some ⟨yb, 0, none⟩) := hu (17, _) (by simp)
              have hb := hR.blk HBY.out id
              have y0 := hb.cell 0
              have y1 := hb.cell 1
              have y2 := hb.cell 2
              have y3 := hb.cell 3
              clear hu hd
              go_simp
              exact ⟨_, rfl, rfl, Frm.refl _ V⟩
            · refine ⟨fun _ => ?_, fun h => by simp [toldG] at h⟩
              intro Q tm df V hR hu hd
              have u3 : tm[3]?.getD undef = .slice (some ⟨gw, ow, none⟩) ws.length cw := hu (3, _) (by simp)
              clear hu hd
              go_simp
              exact ⟨_, rfl, rfl, Frm.refl _ V⟩
            · refine ⟨fun _ => ?_, fun h => by simp [toldG] at h⟩
              intro Q tm df V hR hu hd
              have u23 : tm[23]?.getD undef = .int .i64 (k : Int) := hu (23, _) (by simp)
              clear hu hd
              go_simp
              exact ⟨_, rfl, rfl, Frm.refl _ V⟩
            · refine ⟨fun _ => ?_, fun h => by simp [toldG] at h⟩
              intro Q tm df V hR hu hd
              have e13 : tm[147]?.getD undef = .slice (some ⟨gw, ow, none⟩) ws.length cw := hd 13 (by simp [Region.binds])
              have e14 : tm[148]?.getD undef = .int .i64 (k : Int) := hd 14 (by simp [Region.binds])
              clear hu hd
              go_simp
              exact ⟨_, rfl, rfl, Frm.refl _ V⟩
            · refine ⟨fun _ => ?_, fun h => by simp [toldG] at h⟩
              intro Q tm df V hR hu hd
              have e15 : tm[149]?.getD undef = .pointer (some ⟨gw, ow + k, none⟩) := hd 15 (by simp [Region.binds])
              have y := hR.cell id d0
              clear hu hd
              go_simp
              exact ⟨_, rfl, rfl, Frm.refl _ V⟩
            · refine ⟨fun _ => ?_, fun h => by simp [toldG] at h⟩
              intro Q tm df V hR hu hd
              have e12 : tm[146]?.getD undef = macV y D1 j1 D2 j2 := hd 12 (by simp [Region.binds])
              have e16 : tm[150]?.getD undef = .slice AR row.length cR := hd 16 (by simp [Region.binds])
              have hcall := accepts_any (HMY.out.keep0 hR) HSY.out (HRW.out.keep (HFL.out.trans hR) fun _ _ => id) HRL.out
              rw [YE.out] at hcall
              clear hu hd
              go_simp
              refine hcall.mono ?_
              rintro e w' ⟨rfl, f⟩
              exact ⟨_, rfl, rfl, f⟩
            · refine ⟨fun _ => ?_, fun h => by simp [toldG] at h⟩
              intro Q tm df V hR hu hd
              have u24 : tm[24]?.getD undef = .bool false := hu (24, _) (by simp)
              clear hu hd
              go_simp
              exact ⟨_, rfl, rfl, Frm.refl _ V⟩
            · refine ⟨fun _ => ?_, fun h => by simp [toldG] at h⟩
              intro Q tm df V hR hu hd
              have e18 : tm[152]?.getD undef = .bool false := hd 18 (by simp [Region.binds])
              clear hu hd
              go_simp
              exact ⟨_, rfl, rfl, Frm.refl _ V⟩
            · refine ⟨fun _ => ?_, fun h => by simp [toldG] at h⟩
              intro Q tm df V hR hu hd
              have u25 : tm[25]?.getD undef = .bool a2 := hu (25, _) (by simp)
              clear hu hd
              go_simp
              exact ⟨_, rfl, rfl, Frm.refl _ V⟩
            · refine ⟨fun _ => ?_, fun h => by simp [toldG] at h⟩
              intro Q tm df V hR hu hd
              have e19 : tm[153]?.getD undef = .bool false := hd 19 (by simp [Region.binds])
              have e20 : tm[154]?.getD undef = .bool a2 := hd 20 (by simp [Region.binds])
              clear hu hd
              go_simp
              exact ⟨_, rfl, rfl, Frm.refl _ V⟩
            · refine ⟨fun _ => ?_, fun h => by simp [toldG] at h⟩
              intro Q tm df V hR hu hd
              have e17 : tm[151]?.getD undef = .bool a2 := hd 17 (by simp [Region.binds])
              have e21 : tm[155]?.getD undef = .bool a2 := hd 21 (by simp [Region.binds])
              clear hu hd
              go_simp
              exact ⟨_, rfl, rfl, Frm.refl _ V⟩
            · refine ⟨fun _ => ?_, fun h => by simp [toldG] at h⟩
              intro Q tm df V hR hu hd
              have e11 : tm[145]?.getD undef = .bool false := hd 11 (by simp [Region.binds])
              have e22 : tm[156]?.getD undef = .bool false := hd 22 (by simp [Region.binds])
              clear hu hd
              go_simp
              exact ⟨_, rfl, rfl, Frm.refl _ V⟩
          · intro vs V hR hf
            have v23 : vs 23 = .bool false := hf 23 (by decide)
            clear hf
            simp only [putAll, List.size_toArray, List.length_cons, List.length_nil, Nat.zero_add, Nat.reduceAdd, show List.range 24 = [0, 1, 2, 3, 4, 5, 6, 7, 8, 9, 10, 11, 12, 13, 14, 15, 16, 17, 18, 19, 20, 21, 22, 23] from rfl, List.foldl_cons, List.foldl_nil, List.getD_cons_zero, List.getD_cons_succ, List.setIfInBounds_toArray, List.set_cons_zero, List.set_cons_succ, v23]
            have HF20 : Hid (Frm (fun _ => False) w12 V) := HF19.out.trans hR
            clear hR HBX HBY HMX HMY HF19 HF HFL
            go_wp2_with fail
            go_roundg (ws.length + 1 - (k + 1))
            case measure => omega
            case rel => exact ⟨k + 1, by omega, rfl, by go_num, HF20⟩
    · have hlt' : ¬ (k : Int) < (ws.length : Int) := by omega
      have HF13 : Hid (Frm (fun _ => False) w wr) := HF12.out.trans HF.out
      go_wp2_with fail
      refine (awake_any _).mono ?_
      rintro _ wz ⟨rfl, fz⟩
      have HFZ := Lib.hid (HF13.out.trans fz)
      clear fz
      go_wp2_with fail
      go_ret
      exact ⟨rfl, HFZ.out⟩
end Go.Proofs.Ytldmjpnldgekaaa
end
section
namespace Go.Proofs.Ytldmjpnldgekaaa.CountsP
open Go.ChangeShapes Go.WideShapes Go.ChangeAt Go.RowKit
theorem own : ownKnob Try.prog.godebug = none := by kernel_rfl
theorem laidOut : laidOutB Try.prog = true := by kernel_rfl
theorem kept {w w' : World} (h : Frm (fun _ => False) w w') (may : MemPlace → Prop) : w.keptBut w' may := by
  refine ⟨h.3.1, h.3.2, fun i hi => ?_⟩
  rw [h.2 i hi id]
  split <;> simp_all
/-- An argument reads behind the call as it did. -/
theorem stays {H : Type} {enc : TypeId × Value → H} {t : TypeId} (hr : Try.prog.readableRec t = true) (hrow : t < Try.prog.types.size) {W W' : World} {v : Value} {d : DataW H} {ps : List MemPlace}
    (h : DataW.Trod enc Try.prog W 0 (fun _ => true) true t v d ps) (F : Frm (fun _ => False) W W') (hlt : ∀ x ∈ ps, x.block < W.heap.size) : DataW.Trod enc Try.prog W' 0 (fun b => decide (b < W.heap.size)) true t v d ps :=
  WideElems.Trod_stays laidOut hr hrow h (fun x hx => by
    have h1 := F.2 x.block (hlt x hx) id
    cases x with
    | cell b off => exact World.cell?_of_block (w := W) (w' := W') (a := ⟨b, off, none⟩) h1
    | map b => exact h1) fun x hx => by simpa using hlt x hx
set_option maxRecDepth 100000 in
theorem lifted (os : Os) (started : os.Started) (H : Type) (enc : TypeId × Value → H) :
    ReturnsInHanded {} Try.checked os 4 .any (Rows.autoCountsSpec.pre6 enc Try.prog Try.f4 Rows.autoCountsRow.domain false) (Rows.autoCountsSpec.post enc Try.prog Try.f4 false true false false) := by
  refine returnsInHanded_of_change_sized (C := Try.checked) own started (by kernel_rfl) Try.func4
    (ChangeSpec.witness6 (enc := enc) (C := Try.checked) false ⟨#[], #[.agg #[.int .i64 0, .int .i64 0, .slice none 0 0, .slice none 0 0], .agg #[.int .i64 0, .int .i64 0, .slice none 0 0, .slice none 0 0], .int .i64 0, .slice none 0 0], []⟩ 8 (by kernel_rfl) (by kernel_rfl) (by kernel_rfl) (by kernel_rfl)) ?_
  intro W base args ds gs before hval0 hW hcnd hsz0 _
  have hval : ∀ (j : Nat) t v, Try.f4.params[j]? = some t → args[j]? = some v → Value.okWide Try.prog W .any base t v := hval0
  have hW' := hW
  obtain ⟨p, q, hA0, hV, rfl, hfz, hnd⟩ := hW
  have hA : DataW.TrodAll enc Try.prog W 0 (fun _ => true) true Try.f4.params.toList args.toList ds p := hA0
  have hsz : (DataW.weightsEach Try.prog (Try.f4.params.toList ++ Rows.autoCountsSpec.plain.varTypes Try.prog) (ds ++ gs)).all (· ≤ reachBytes) = true := hsz0
  rw [Try.params4] at hA hval hsz
  obtain ⟨v0, vs0, d0, ds0, p0, q0, hargs, rfl, rfl, h0, r0⟩ := trodAll_cons hA
  obtain ⟨v1, vs1, d1, ds1, p1, q1, rfl, rfl, rfl, h1, r1⟩ := trodAll_cons r0
  obtain ⟨v2, vs2, d2, ds2, p2, q2, rfl, rfl, rfl, h2, r2⟩ := trodAll_cons r1
  obtain ⟨v3, vs3, d3, ds3, p3, q3, rfl, rfl, rfl, h3, r3⟩ := trodAll_cons r2
  obtain ⟨rfl, rfl, rfl⟩ := trodAll_nil r3
  obtain rfl : args = #[v0, v1, v2, v3] := by cases args; simp_all
  obtain ⟨rfl, rfl⟩ := trodVars_none hV
  clear hA0 hval0
  simp only [List.append_nil] at hW'
  have hlt : ∀ x ∈ p0 ++ (p1 ++ (p2 ++ p3)), x.block < W.heap.size := fun x hx => hW'.lt x (by simpa using hx)
  have light : ∀ (j : Nat) (t : TypeId) (d : DataW H), [25, 25, 3, 22][j]? = some t → [d0, d1, d2, d3][j]? = some d → Light t d := fun j t d ht hd n hn => by
    have := List.all_eq_true.1 hsz n (DataW.weights_mem_each (j := j) (t := t) (d := d) (by
      match j, ht with
      | 0, ht => exact ht
      | 1, ht => exact ht
      | 2, ht => exact ht
      | 3, ht => exact ht) (by
      match j, hd with
      | 0, hd => exact hd
      | 1, hd => exact hd
      | 2, hd => exact hd
      | 3, hd => exact hd) n hn)
    simpa using this
  obtain ⟨m, ma, sa, sf, sr⟩ := mach_light (hval 0 25 v0 rfl rfl) h0 (light 0 _ _ rfl rfl)
  obtain ⟨m', ma', sa', sf', sr'⟩ := mach_light (hval 1 25 v1 rfl rfl) h1 (light 1 _ _ rfl rfl)
  obtain ⟨n, rfl⟩ := okWide_int Try.underlying3 (hval 2 3 v2 rfl rfl)
  obtain ⟨l, hl, sl, sr2⟩ : ∃ l, Rows2 W (fun _ => True) v3 l ∧ l.length * 24 ≤ reachBytes ∧ ∀ r ∈ l, r.length * 8 ≤ reachBytes := by
    obtain ⟨A2, n2, c2, rfl⟩ := okWide_slice Try.underlying22 (hval 3 22 v3 rfl rfl)
    obtain ⟨f2, hf2⟩ := h3
    exact rows_light hf2 (light 3 _ _ rfl rfl)
  unfold reachBytes at sl sr2
  refine (counts_law ma ma' hl sa sa' sf sr ⟨by unfold maxLen; omega, fun r hr => by have := sr2 r hr; unfold maxLen; omega⟩).mono fun e W' ⟨he, F⟩ => ?_
  subst he
  exact ⟨_, rfl, _, _, _, _, _, _, hW', trodAll_cons_mk (shut_bool Try.underlying4 _) trodAll_mk0, trodAll_cons_mk (stays (by kernel_rfl) (of_decide_eq_true (by kernel_rfl)) h0 F fun x hx => hlt x (by simp [hx])) (trodAll_cons_mk (stays (by kernel_rfl) (of_decide_eq_true (by kernel_rfl)) h1 F fun x hx => hlt x (by simp [hx])) (trodAll_cons_mk (stays (by kernel_rfl) (of_decide_eq_true (by kernel_rfl)) h2 F fun x hx => hlt x (by simp [hx])) (trodAll_cons_mk (stays (by kernel_rfl) (of_decide_eq_true (by kernel_rfl)) h3 F fun x hx => hlt x (by simp [hx])) trodAll_mk0))), rfl, kept F _, fun h => by cases h⟩
theorem proved : Rows.AutoCountsSaid :=
  OpenClaim.holds_of_wide 4 Try.f4 rfl rfl rfl rfl rfl rfl rfl ⟨rfl, rfl, rfl, rfl, rfl⟩ rfl rfl rfl rfl rfl (by kernel_rfl) Try.func4 (by kernel_rfl)
    (of_decide_eq_true (by kernel_rfl)) (by unfold Func.isWrapper; first | (rw [if_pos (by decide +kernel)]; kernel_rfl) | (rw [if_neg (by decide +kernel)]; exact ⟨rfl, rfl⟩))
    (fun os started H enc _ => lifted os started H enc)
end Go.Proofs.Ytldmjpnldgekaaa.CountsP
namespace Go.Proofs.Ytldmjpnldgekaaa
/-- AutoCounts. -/
theorem autoCounts_holds : Rows.AutoCountsSaid := CountsP.proved
end Go.Proofs.Ytldmjpnldgekaaa
end
