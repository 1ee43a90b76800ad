/- The reference's Differ, walked. small. What comes in, as it lies in memory: ints, rows of ints, bools, pairs, machines. sameWord. sameWord at equal words. What the laws on two machines share: small machines, the least word's length, Differ and Relate case by case. AutoDiffers: the law's walk. What comes in, as it lies in memory, with the bounds that the reach gives. Contracts of the program's functions, with no condition beyond what each theorem states. -/
import Derived.Test.YtiekaicbjinbaaaC11
import Derived.Test.YtiekaicbjinbaaaC09
import Derived.Test.YtiekaicbjinbaaaC04
import Derived.Test.YtiekaicbjinbaaaC02
import Derived.Deep.Matrix
import Derived.Deep.SlicePairs
import Derived.Lib.SmallJoins
import Derived.WalkKit
import Derived.ProofKit
import Derived.OpenShut
import Derived.SizedLaws
section
namespace Go.Proofs.Ytiekaicbjinbaaa
open Go.RowKit
theorem small_bound {na nb x y : Nat} (hx : x ≤ na) (hy : y ≤ nb) (hN : (1 + na) * (1 + nb) ≤ 20000) : (1 + x) * (1 + y) ≤ 20000 := Nat.le_trans (Nat.mul_le_mul (by omega) (by omega)) hN
theorem own_one {w : World} {u : Value} {e : TypeId} : (w.alloc (.cells #[u] e)).ownsRow w.heap.size e 1 (.slice (some ⟨w.heap.size, 0, none⟩) 1 1) 1 [u] :=
  ⟨by simp, .inr ⟨w.heap.size, 1, #[u], rfl, Nat.le_refl _, heap_alloc_new w _, Nat.le_refl _, by decide, rfl, by simp⟩⟩
/-- A word in the heap, at the beginning of a block. -/
def WordAt (w : World) (u : Value) (acc : List Int) : Prop := ∃ g c, u = .slice (some ⟨g, 0, none⟩) acc.length c ∧ ∀ j (h : j < acc.length), w.cell? ⟨g, j, none⟩ = some (.int .i64 acc[j])
theorem WordAt.frm {w w' : World} {u : Value} {acc : List Int} (h : WordAt w u acc) (F : Frm (fun _ => False) w w') : WordAt w' u acc := by
  obtain ⟨g, c, e, h⟩ := h
  exact ⟨g, c, e, fun j hj => F.cell id (h j hj)⟩
theorem WordAt.own {w : World} {u : Value} {lo x : Nat} {l : Int} {acc : List Int} (h : w.ownsRow lo 3 1 u x (.int .i64 l :: acc.map (Value.int .i64))) (hx : x = acc.length + 1) : WordAt w u (l :: acc) := by
  subst hx
  obtain ⟨A0, c, rfl⟩ := own_form h
  rcases h.2 with ⟨_, hn⟩ | ⟨g, cap, cur, e, hb, _⟩
  · omega
  · injection e with e1 e2 e3
    subst e1
    refine ⟨g, c, rfl, fun j hj => ?_⟩
    have hc := @World.ownsRow.cells _ _ _ _ _ _ _ h g rfl j (.int .i64 (l :: acc)[j]) (by
      have e : (Value.int .i64 l :: acc.map (Value.int .i64)) = (l :: acc).map (Value.int .i64) := rfl
      rw [e, List.getElem?_map, List.getElem?_eq_getElem hj]
      rfl)
    rw [add_zero_off] at hc
    exact hc
theorem WordAt.ints {w : World} {u : Value} {acc : List Int} (h : WordAt w u acc) : Ints w (fun _ => True) u acc := by
  obtain ⟨g, c, e, h⟩ := h
  exact ⟨_, c, e, fun j hj => ⟨g, 0, rfl, trivial, by rw [Nat.zero_add]; exact h j hj⟩⟩
set_option maxRecDepth 100000 in
set_option maxHeartbeats 16000000 in
theorem rdiffer_any {w : World} {P Q : Nat → Prop} {v v' : Value} {a b : A.Mac} (h : MachAt w P v a) (h' : MachAt w Q v' b) (hs : Sized a) (hs' : Sized b) (hN : A.fit a b = 0 → (1 + a.next.length) * (1 + b.next.length) ≤ 20000) :
    Calls Try.prog 7 #[v, v'] w (DifPost w a b) := by
  obtain ⟨A1, c1, A2, c2, rfl⟩ := h.form
  obtain ⟨B1, d1, B2, d2, rfl⟩ := h'.form
  have HB0 : Hid (Bx w _ (macC a A1 c1 A2 c2) (macC b B1 d1 B2 d2)) := Bx.new w _ _
  have HM := Lib.hid h
  have HM' := Lib.hid h'
  have HSZ := Lib.hid hs
  have HSZ' := Lib.hid hs'
  have HNN := Lib.hid hN
  have e0 := HB0.out.ba.cell 0
  have e1 := HB0.out.ba.cell 1
  have e2 := HB0.out.ba.cell 2
  have e3 := HB0.out.ba.cell 3
  have g0 := HB0.out.bb.cell 0
  have g1 := HB0.out.bb.cell 1
  have g2 := HB0.out.bb.cell 2
  have g3 := HB0.out.bb.cell 3
  simp only [macC] at e0 e1 e2 e3 g0 g1 g2 g3
  clear h h' hs hs' hN
  go_enter Try.func7, Try.ntmps7
  go_wp2_with fail
  refine (rtwo_any (HM.out.keep0 HB0.out.fr) (HM'.out.keep0 HB0.out.fr) HSZ.out HSZ'.out).mono ?_
  rintro _ w1 ⟨rfl, f1⟩
  have HB1 := Lib.hid (HB0.out.call f1)
  clear f1 HB0 e0 e1 e2 e3 g0 g1 g2 g3
  by_cases hf : A.fit a b = 0
  case neg =>
    have hb : (A.fit a b != 0) = true := by rw [bne_iff_ne]; exact hf
    have HFI := Lib.hid hf
    clear hf
    go_wp2_with fail
    refine bodyPost_ret (v := .tuple #[.slice none 0 0, .bool false, .int .i64 (A.fit a b)]) (by simp [results, Try.results7, go_sem]) rfl ⟨HB1.out.fr, _, _, _, rfl, fun _ => ⟨rfl, rfl, rfl⟩, fun h => absurd h HFI.out, fun h => absurd h HFI.out⟩
  have HT := Lib.hid (A.fit_two hf)
  have HNB := Lib.hid (HNN.out hf)
  have HFI := Lib.hid hf
  have hb : (A.fit a b != 0) = false := by rw [hf]; rfl
  rw [hf]
  clear hf hb
  go_wp2_with fail
  obtain ⟨n1, hn1⟩ : ∃ n1, n1 = w1.heap.size := ⟨_, rfl⟩
  have HN1 := Lib.hid hn1
  have hb1 : w.heap.size < n1 := by rw [hn1]; exact HB1.out.ba.lt
  have hb2 : w.heap.size + 1 < n1 := by rw [hn1]; exact HB1.out.bb.lt
  have HMV : Hid (∀ V, Frm (fun x => n1 ≤ x) w1 V → MachAt V (fun b => b < n1) (.agg #[.int .i64 a.letters, .int .i64 a.start, .slice A1 a.next.length c1, .slice A2 a.fin.length c2]) a) := fun V F => by
    have h := (HM.out.keep0 HB1.out.fr).below
    rw [← hn1] at h
    exact h.keep F fun b h1 h2 => by omega
  have HMV' : Hid (∀ V, Frm (fun x => n1 ≤ x) w1 V → MachAt V (fun b => b < n1) (.agg #[.int .i64 b.letters, .int .i64 b.start, .slice B1 b.next.length d1, .slice B2 b.fin.length d2]) b) := fun V F => by
    have h := (HM'.out.keep0 HB1.out.fr).below
    rw [← hn1] at h
    exact h.keep F fun b h1 h2 => by omega
  clear hn1
  refine wp_region_inv [21, 22, 23, 24, 8, 9, 1000, 1001] (D4 a b (.agg #[.int .i64 a.letters, .int .i64 a.start, .slice A1 a.next.length c1, .slice A2 a.fin.length c2]) (.agg #[.int .i64 b.letters, .int .i64 b.start, .slice B1 b.next.length d1, .slice B2 b.fin.length d2]) n1 w1) [] [(2, .pointer (some ⟨w.heap.size, 0, none⟩)), (3, .pointer (some ⟨w.heap.size + 1, 0, none⟩))] (by kernel_rfl) (by kernel_rfl) (fun L L' vs vs' w hL hv h => h.cong hL hv) (fun _ h => by cases h) ⟨(Frm.refl _ w1).drew, (fun h => by cases h), (fun h => by cases h), (fun h => by cases h), (fun h => by cases h), (fun h => by cases h), (fun h => by cases h), (fun h => by cases h), (fun h => by cases h), (fun h => by cases h)⟩ ?_ ?_ ?_
  · intro x hx
    simp only [List.mem_cons, List.not_mem_nil, or_false] at hx
    rcases hx with rfl | rfl <;> exact ⟨by simp, rfl⟩
  · refine ⟨?_, ?_, ?_, ?_, ?_, ?_, ?_, ?_, trivial⟩
    · intro Q tm df V L hI hl hd hu
      have u1 : tm[2]?.getD undef = .pointer (some ⟨w.heap.size, 0, none⟩) := hu (2, _) (by simp)
      have hb := hI.1.blk HB1.out.ba (by omega)
      have y0 := hb.cell 0
      have y1 := hb.cell 1
      have y2 := hb.cell 2
      have y3 := hb.cell 3
      simp only [macC] at y0 y1 y2 y3
      have HI := Lib.hid hI
      clear hu hd hb hI
      go_simp
      exact ⟨_, rfl, HI.out.s0 rfl⟩
    · intro Q tm df V L hI hl hd hu
      have e0 : tm[21]?.getD undef = .agg #[.int .i64 a.letters, .int .i64 a.start, .slice A1 a.next.length c1, .slice A2 a.fin.length c2] := hI.2.1 (hd ⟨0, .data⟩ (by simp) rfl)
      have HI := Lib.hid hI
      clear hu hd hI
      go_simp
      refine (shrunk_any (HMV.out V HI.out.1) HT.out.fa HT.out.na HT.out.la).mono ?_
      rintro _ w' ⟨r, o, rfl, m, s, f⟩
      exact ⟨_, rfl, (HI.out.q f).s1 ⟨o, m.mono fun _ h => h.2, s⟩⟩
    · intro Q tm df V L hI hl hd hu
      have u1 : tm[3]?.getD undef = .pointer (some ⟨w.heap.size + 1, 0, none⟩) := hu (3, _) (by simp)
      have hb := hI.1.blk HB1.out.bb (by omega)
      have y0 := hb.cell 0
      have y1 := hb.cell 1
      have y2 := hb.cell 2
      have y3 := hb.cell 3
      simp only [macC] at y0 y1 y2 y3
      have HI := Lib.hid hI
      clear hu hd hb hI
      go_simp
      exact ⟨_, rfl, HI.out.s2 rfl⟩
    · intro Q tm df V L hI hl hd hu
      have e0 : tm[23]?.getD undef = .agg #[.int .i64 b.letters, .int .i64 b.start, .slice B1 b.next.length d1, .slice B2 b.fin.length d2] := hI.2.2.2.1 (hd ⟨2, .data⟩ (by simp) rfl)
      have HI := Lib.hid hI
      clear hu hd hI
      go_simp
      refine (shrunk_any (HMV'.out V HI.out.1) HT.out.fb HT.out.nb (by rw [← HT.out.ll]; exact HT.out.la)).mono ?_
      rintro _ w' ⟨r, o, rfl, m, s, f⟩
      exact ⟨_, rfl, (HI.out.q f).s3 ⟨o, m.mono fun _ h => h.2, s⟩⟩
    · intro Q tm df V L hI hl hd hu
      have HI := Lib.hid hI
      have HLS := Lib.hid hl
      clear hu hd hI hl
      go_simp
      exact ⟨_, rfl, HI.out.s4 HLS.out _ rfl (by have := HI.out.1.1; have := HN1.out; omega)⟩
    · intro Q tm df V L hI hl hd hu
      have HI := Lib.hid hI
      have HLS := Lib.hid hl
      clear hu hd hI hl
      go_simp
      exact ⟨_, rfl, HI.out.s5 HLS.out _ rfl (by have := HI.out.1.1; have := HN1.out; omega)⟩
    · intro Q tm df V L hI hl hd hu
      have l1 := hd ⟨1, .data⟩ (by simp) rfl
      have l4 := hd ⟨4, .data⟩ (by simp) rfl
      have l5 := hd ⟨5, .phase⟩ (by simp) rfl
      obtain ⟨k0, k1, k2, k3, k4, k5, k6, k7, k8, k9⟩ := id hI
      obtain ⟨o, m, so⟩ := k2 l1
      obtain ⟨g, c, e4, hg, hc, hb⟩ := k5 l4
      obtain ⟨An, cn, Ae, ce, ev⟩ := m.form
      have e0 : tm[22]?.getD undef = .agg #[.int .i64 o.letters, .int .i64 o.start, .slice An o.next.length cn, .slice Ae o.fin.length ce] := ev
      have e1 : tm[8]?.getD undef = .pointer (some ⟨g, 0, none⟩) := e4
      obtain ⟨c0, c1', c2', c3, rfl⟩ : ∃ k0 k1 k2 k3, c = #[k0, k1, k2, k3] := Go.Joins.array4 hc
      have y0 := hb.cell 0
      have y1 := hb.cell 1
      have y2 := hb.cell 2
      have y3 := hb.cell 3
      have z0 := hb.frozen 0
      have z1 := hb.frozen 1
      have z2 := hb.frozen 2
      have z3 := hb.frozen 3
      have hst := (hI.store hg hb (put4_blk (l := .int .i64 o.letters) (s := .int .i64 o.start) (n := .slice An o.next.length cn) (e := .slice Ae o.fin.length ce) hb) rfl put4_frm1 ⟨(fun h => by rw [hl] at h; cases h), fun _ e => k7 l4 l5 (e4.trans e.symm)⟩).s6 (v := undef) l4 l5 e4 ⟨_, _, put4_blk hb, by rw [← ev]; exact mach_nm m put4_frm1 fun b ⟨t, cs, hb', ht⟩ e => by subst e; exact ht (blk_type hb' hb)⟩ so
      have HST := Lib.hid hst
      clear hst hI hu hd hl k0 k1 k2 k3 k4 k5 k6 k7 k8 k9 m ev e4
      go_simp
      exact HST.out
    · intro Q tm df V L hI hl hd hu
      have l3 := hd ⟨3, .data⟩ (by simp) rfl
      have l5 := hd ⟨5, .data⟩ (by simp) rfl
      have l4 := hd ⟨4, .phase⟩ (by simp) rfl
      obtain ⟨k0, k1, k2, k3, k4, k5, k6, k7, k8, k9⟩ := id hI
      obtain ⟨o, m, so⟩ := k4 l3
      obtain ⟨g, c, e4, hg, hc, hb⟩ := k6 l5
      obtain ⟨An, cn, Ae, ce, ev⟩ := m.form
      have e0 : tm[24]?.getD undef = .agg #[.int .i64 o.letters, .int .i64 o.start, .slice An o.next.length cn, .slice Ae o.fin.length ce] := ev
      have e1 : tm[9]?.getD undef = .pointer (some ⟨g, 0, none⟩) := e4
      obtain ⟨c0, c1', c2', c3, rfl⟩ : ∃ k0 k1 k2 k3, c = #[k0, k1, k2, k3] := Go.Joins.array4 hc
      have y0 := hb.cell 0
      have y1 := hb.cell 1
      have y2 := hb.cell 2
      have y3 := hb.cell 3
      have z0 := hb.frozen 0
      have z1 := hb.frozen 1
      have z2 := hb.frozen 2
      have z3 := hb.frozen 3
      have hst := (hI.store hg hb (put4_blk (l := .int .i64 o.letters) (s := .int .i64 o.start) (n := .slice An o.next.length cn) (e := .slice Ae o.fin.length ce) hb) rfl put4_frm1 ⟨fun _ e => k7 l4 l5 (e.trans e4.symm), (fun h => by rw [hl] at h; cases h)⟩).s7 (v := undef) l4 l5 e4 ⟨_, _, put4_blk hb, by rw [← ev]; exact mach_nm m put4_frm1 fun b ⟨t, cs, hb', ht⟩ e => by subst e; exact ht (blk_type hb' hb)⟩ so
      have HST := Lib.hid hst
      clear hst hI hu hd hl k0 k1 k2 k3 k4 k5 k6 k7 k8 k9 m ev e4
      go_simp
      exact HST.out
  · intro vs V hI
    obtain ⟨hR, -, -, -, -, -, -, hne, k8, k9⟩ := hI
    obtain ⟨-, -, gx, ox, ex, mx, sx⟩ := k8 rfl
    obtain ⟨-, -, gy, oy, ey, my, sy⟩ := k9 rfl
    clear k8 k9
    simp only [putAll, List.size_toArray, List.length_cons, List.length_nil, Nat.zero_add, Nat.reduceAdd, show List.range 8 = [0, 1, 2, 3, 4, 5, 6, 7] from rfl, List.foldl_cons, List.foldl_nil, List.getD_cons_zero, List.getD_cons_succ, List.setIfInBounds_toArray, List.set_cons_zero, List.set_cons_succ, ex, ey]
    obtain ⟨nx, evx, hbx, hmx⟩ := mx
    obtain ⟨ny, evy, hby, hmy⟩ := my
    obtain ⟨XN, xn, XE, xe, e⟩ := hmx.form
    simp only [Value.agg.injEq, Array.mk.injEq, List.cons.injEq, and_true, true_and] at e
    obtain ⟨rfl, rfl⟩ := e
    obtain ⟨YN, yn, YE, ye, e⟩ := hmy.form
    simp only [Value.agg.injEq, Array.mk.injEq, List.cons.injEq, and_true, true_and] at e
    obtain ⟨rfl, rfl⟩ := e
    have HX := Lib.hid hbx
    have HY := Lib.hid hby
    have HMX := Lib.hid hmx.below
    have HMY := Lib.hid hmy.below
    have HSX := Lib.hid sx
    have HSY := Lib.hid sy
    have HFV : Hid (Frm (fun _ => False) w V) := ((HB1.out.fr.mono fun _ _ h => h.elim).trans hR).mono fun x hx h => by omega
    obtain ⟨fx, lx, Rx, simx⟩ := sx.fits HT.out.fa
    obtain ⟨fy, ly, Ry, simy⟩ := sy.fits HT.out.fb
    have HXY : Hid (A.Two ox oy) := ⟨fx, fy, by rw [sx.ll, sy.ll, HT.out.ll], by rw [sx.ll]; exact HT.out.la, Nat.le_trans lx HT.out.na, Nat.le_trans ly HT.out.nb⟩
    have HSIMX : Hid (∃ R, A.Sim a ox R) := ⟨_, simx⟩
    have HSIMY : Hid (∃ R, A.Sim b oy R) := ⟨_, simy⟩
    have HBO : Hid ((1 + ox.next.length) * (1 + oy.next.length) ≤ 20000) := small_bound lx ly HNB.out
    have x0 := hbx.cell 0
    have x1 := hbx.cell 1
    have x2 := hbx.cell 2
    have x3 := hbx.cell 3
    have y0 := hby.cell 0
    have y1 := hby.cell 1
    have y2 := hby.cell 2
    have y3 := hby.cell 3
    clear hne hbx hby hmx hmy sx sy hR ex ey HMV HMV' HB1 fx fy simx simy lx ly
    go_wp2_with fail
    clear x0 x1 x2 x3 y0 y1 y2 y3
    refine (walked_any HMX.out HMY.out HXY.out 1073741824 HBO.out (by have h := HBO.out; omega) (by decide)).mono ?_
    rintro _ w3 ⟨r, ws, W, rfl, hwv, hwt, hnd, f3⟩
    obtain ⟨pv, fv, lv, rfl, hp, hfr, hle⟩ := hwv
    obtain ⟨AP, cp, rfl, hpp⟩ := hp
    obtain ⟨AF, cf, rfl, hff⟩ := hfr
    obtain ⟨AL, cl, rfl, hll⟩ := hle
    have HPP : Hid (∀ i (hi : i < ws.length), ∃ g o, AP = some ⟨g, o, none⟩ ∧ w3.cell? ⟨g, o + i * 2, none⟩ = some (.int .i64 ws[i].p.1) ∧ w3.cell? ⟨g, o + i * 2 + 1, none⟩ = some (.int .i64 ws[i].p.2)) := fun i hi => by
      obtain ⟨g, o, e, _, h1, h2⟩ := hpp i (by rw [List.length_map]; exact hi)
      exact ⟨g, o, e, by simpa using h1, by simpa using h2⟩
    have HFF : Hid (∀ i (hi : i < ws.length), ∃ g o, AF = some ⟨g, o, none⟩ ∧ w3.cell? ⟨g, o + i, none⟩ = some (.int .i64 ws[i].before)) := fun i hi => by
      obtain ⟨g, o, e, _, h1⟩ := hff i (by rw [List.length_map]; exact hi)
      exact ⟨g, o, e, by simpa using h1⟩
    have HLL : Hid (∀ i (hi : i < ws.length), ∃ g o, AL = some ⟨g, o, none⟩ ∧ w3.cell? ⟨g, o + i, none⟩ = some (.int .i64 ws[i].letter)) := fun i hi => by
      obtain ⟨g, o, e, _, h1⟩ := hll i (by rw [List.length_map]; exact hi)
      exact ⟨g, o, e, by simpa using h1⟩
    have HWT := Lib.hid hwt
    have hlen : ws.length ≤ 20000 := Nat.le_trans (hwt.len HXY.out hnd.1) HBO.out
    obtain ⟨M, hM⟩ : ∃ M, M = ws.length := ⟨_, rfl⟩
    have HMM := Lib.hid hM
    have HX3 := Lib.hid (f3.blk HX.out id)
    have HY3 := Lib.hid (f3.blk HY.out id)
    have HF3 : Hid (Frm (fun _ => False) w w3) := HFV.out.trans f3
    have HMX3 := Lib.hid (HMX.out.keep0 f3)
    have HMY3 := Lib.hid (HMY.out.keep0 f3)
    rw [List.length_map, List.length_map, List.length_map, ← hM]
    rw [← hM] at hlen
    clear hpp hff hll hwt hnd hM f3 HX HY HMX HMY HFV
    go_wp2_with fail
    have HGW : Hid (Blk (w3.alloc (.cells #[.slice AP M cp, .slice AF M cf, .slice AL M cl] 51)) w3.heap.size 51 #[.slice AP M cp, .slice AF M cf, .slice AL M cl]) := Blk.new w3 _ _
    have F34 : Frm (fun _ => False) w3 (w3.alloc (.cells #[.slice AP M cp, .slice AF M cf, .slice AL M cl] 51)) := (Frm.refl _ w3).alloc _
    have HF34 := Lib.hid F34
    obtain ⟨gw, hgw⟩ : ∃ gw, gw = w3.heap.size := ⟨_, rfl⟩
    rw [← hgw] at HGW
    rw [← hgw]
    generalize w3.alloc (.cells #[.slice AP M cp, .slice AF M cf, .slice AL M cl] 51) = w4 at *
    clear F34 hgw
    go_loopg [11] (M + 1) (fun n u11 wr => ∃ i : Nat, i ≤ M ∧ n = M + 1 - i ∧ u11 = .int .i64 (i : Int) ∧ Hid (∀ j (h : j < ws.length), j < i → A.agree ox oy ws[j].p = true) ∧ Hid (Frm (fun _ => False) w4 wr))
    case atStart => exact ⟨0, Nat.zero_le _, rfl, rfl, fun j h hj => absurd hj (Nat.not_lt_zero j), Frm.refl _ _⟩
    case round =>
      obtain ⟨i, hi, rfl, rfl, HAG, HFR⟩ := hrel
      have HGWr := Lib.hid (HFR.out.blk HGW.out id)
      have b0 := HGWr.out.cell 0
      by_cases hlt : i < M
      · have hlt' : (i : Int) < (M : Int) := by omega
        have hiw : i < ws.length := by rw [← HMM.out]; exact hlt
        obtain ⟨g0, o0, rfl, e1, e2⟩ := HPP.out i hiw
        obtain ⟨⟨p1, p2⟩, hp⟩ : ∃ q, q = ws[i].p := ⟨_, rfl⟩
        have HP := Lib.hid hp
        rw [← hp] at e1 e2
        dsimp only at e1 e2
        replace e1 := HFR.out.cell id (HF34.out.cell id e1)
        replace e2 := HFR.out.cell id (HF34.out.cell id e2)
        have hin : A.InP ox oy (p1, p2) := by
          rw [hp, HWT.out.pr i hiw]
          exact HXY.out.run (HWT.out.ok i hiw) ⟨HXY.out.fa.start, HXY.out.fb.start⟩
        have HIN := Lib.hid hin
        clear hp hin
        go_wp2_with fail
        have HG : Hid (Blk (wr.alloc (.cells #[.int .i64 p1, .int .i64 p2] 40)) wr.heap.size 40 #[.int .i64 p1, .int .i64 p2]) := Blk.new wr _ _
        have HFA : Hid (Frm (fun _ => False) w4 (wr.alloc (.cells #[.int .i64 p1, .int .i64 p2] 40))) := HFR.out.alloc _
        obtain ⟨gp, hgp⟩ : ∃ gp, gp = wr.heap.size := ⟨_, rfl⟩
        rw [← hgp] at HG
        rw [← hgp]
        generalize wr.alloc (.cells #[.int .i64 p1, .int .i64 p2] 40) = wa at *
        clear b0 e1 e2 hgp HFR HGWr
        have HF3a : Hid (Frm (fun _ => False) w3 wa) := HF34.out.trans HFA.out
        have HX4 := Lib.hid (HF3a.out.blk HX3.out id)
        have HY4 := Lib.hid (HF3a.out.blk HY3.out id)
        have HMX4 := Lib.hid (HMX3.out.keep0 HF3a.out)
        have HMY4 := Lib.hid (HMY3.out.keep0 HF3a.out)
        refine wp_region_list [40, 41, 42, 43, 44, 45, 46, 47, 48] [vV (.agg #[.int .i64 ox.letters, .int .i64 ox.start, .slice XN ox.next.length xn, .slice XE ox.fin.length xe]), vV (.pointer (some ⟨gp, 0, none⟩)), vV (.int .i64 p1), vV (.bool (A.ends ox p1)), vV (.agg #[.int .i64 oy.letters, .int .i64 oy.start, .slice YN oy.next.length yn, .slice YE oy.fin.length ye]), vV (.pointer (some ⟨gp, 1, none⟩)), vV (.int .i64 p2), vV (.bool (A.ends oy p2)), vV (.bool (A.ends ox p1 != A.ends oy p2))] (Frm (fun _ => False)) [] [(8, .pointer (some ⟨gx, 0, none⟩)), (9, .pointer (some ⟨gy, 0, none⟩)), (12, .pointer (some ⟨gp, 0, none⟩))] (by kernel_rfl) (by kernel_rfl) (fun _ _ _ => Frm.trans) ?_ (fun _ h => by cases h) (Frm.refl _ _).drew ?_ ?_ ?_
        · intro f hf v w w' h F
          simp only [List.mem_cons, List.not_mem_nil, or_false] at hf
          rcases hf with rfl | rfl | rfl | rfl | rfl | rfl | rfl | rfl | rfl <;> exact h
        · intro x hx
          simp only [List.mem_cons, List.not_mem_nil, or_false] at hx
          rcases hx with rfl | rfl | rfl <;> exact ⟨by simp, rfl⟩
        · refine ⟨?_, ?_, ?_, ?_, ?_, ?_, ?_, ?_, ?_, trivial⟩
          · intro Q tm df V hR hu hd
            have u1 : tm[8]?.getD undef = .pointer (some ⟨gx, 0, none⟩) := hu (8, _) (by simp)
            have hb := hR.blk HX4.out id
            have y0 := hb.cell 0
            have y1 := hb.cell 1
            have y2 := hb.cell 2
            have y3 := hb.cell 3
            clear hu hd hb
            go_simp
            exact ⟨_, rfl, rfl, Frm.refl _ V⟩
          · intro Q tm df V hR hu hd
            have u1 : tm[12]?.getD undef = .pointer (some ⟨gp, 0, none⟩) := hu (12, _) (by simp)
            clear hu hd
            go_simp
            exact ⟨_, rfl, rfl, Frm.refl _ V⟩
          · intro Q tm df V hR hu hd
            have e0 : tm[41]?.getD undef = .pointer (some ⟨gp, 0, none⟩) := hd 1 (by simp)
            have y := (hR.blk HG.out id).cell 0
            clear hu hd
            go_simp
            exact ⟨_, rfl, rfl, Frm.refl _ V⟩
          · intro Q tm df V hR hu hd
            have e0 : tm[40]?.getD undef = .agg #[.int .i64 ox.letters, .int .i64 ox.start, .slice XN ox.next.length xn, .slice XE ox.fin.length xe] := hd 0 (by simp)
            have e1 : tm[42]?.getD undef = .int .i64 p1 := hd 2 (by simp)
            clear hu hd
            go_simp
            refine (rends_any (HMX4.out.keep0 hR) HXY.out.fa p1 HIN.out.1).mono ?_
            rintro e w' ⟨rfl, f⟩
            exact ⟨_, rfl, rfl, f⟩
          · intro Q tm df V hR hu hd
            have u1 : tm[9]?.getD undef = .pointer (some ⟨gy, 0, none⟩) := hu (9, _) (by simp)
            have hb := hR.blk HY4.out id
            have y0 := hb.cell 0
            have y1 := hb.cell 1
            have y2 := hb.cell 2
            have y3 := hb.cell 3
            clear hu hd hb
            go_simp
            exact ⟨_, rfl, rfl, Frm.refl _ V⟩
          · intro Q tm df V hR hu hd
            have u1 : tm[12]?.getD undef = .pointer (some ⟨gp, 0, none⟩) := hu (12, _) (by simp)
            clear hu hd
            go_simp
            exact ⟨_, rfl, rfl, Frm.refl _ V⟩
          · intro Q tm df V hR hu hd
            have e0 : tm[45]?.getD undef = .pointer (some ⟨gp, 1, none⟩) := hd 5 (by simp)
            have y := (hR.blk HG.out id).cell 1
            clear hu hd
            go_simp
            exact ⟨_, rfl, rfl, Frm.refl _ V⟩
          · intro Q tm df V hR hu hd
            have e0 : tm[44]?.getD undef = .agg #[.int .i64 oy.letters, .int .i64 oy.start, .slice YN oy.next.length yn, .slice YE oy.fin.length ye] := hd 4 (by simp)
            have e1 : tm[46]?.getD undef = .int .i64 p2 := hd 6 (by simp)
            clear hu hd
            go_simp
            refine (rends_any (HMY4.out.keep0 hR) HXY.out.fb p2 HIN.out.2).mono ?_
            rintro e w' ⟨rfl, f⟩
            exact ⟨_, rfl, rfl, f⟩
          · intro Q tm df V hR hu hd
            have e0 : tm[43]?.getD undef = .bool (A.ends ox p1) := hd 3 (by simp)
            have e1 : tm[47]?.getD undef = .bool (A.ends oy p2) := hd 7 (by simp)
            clear hu hd
            go_simp
            exact ⟨_, rfl, rfl, Frm.refl _ V⟩
        · intro vs V hR hf
          have e8 : vs 8 = .bool (A.ends ox p1 != A.ends oy p2) := hf 8 (by decide)
          clear hf
          simp only [putAll, List.size_toArray, List.length_cons, List.length_nil, Nat.zero_add, Nat.reduceAdd, show List.range 9 = [0, 1, 2, 3, 4, 5, 6, 7, 8] from rfl, List.foldl_cons, List.foldl_nil, List.getD_cons_zero, List.getD_cons_succ, List.setIfInBounds_toArray, List.set_cons_zero, List.set_cons_succ, e8]
          have HFV2 : Hid (Frm (fun _ => False) w4 V) := HFA.out.trans hR
          have HGV := Lib.hid (hR.blk HG.out id)
          have HXV := Lib.hid (hR.blk HX4.out id)
          have HMXV := Lib.hid (HMX4.out.keep0 hR)
          clear hR e8 HFA HG HX4 HY4 HMX4 HMY4 HF3a
          by_cases hag : A.ends ox p1 = A.ends oy p2
          · have hb : (A.ends ox p1 != A.ends oy p2) = false := by rw [hag]; simp
            have HAG2 : Hid (∀ j (h : j < ws.length), j < i + 1 → A.agree ox oy ws[j].p = true) := fun j h hj => by
              by_cases e : j < i
              · exact HAG.out j h e
              · obtain rfl : j = i := by omega
                rw [← HP.out]
                show (A.ends ox p1 == A.ends oy p2) = true
                rw [hag]
                simp
            rw [hb]
            clear hag hb
            go_wp2_with fail
            go_roundg (M + 1 - (i + 1))
            case measure => omega
            case rel => exact ⟨i + 1, by omega, rfl, by go_num, HAG2, HFV2⟩
          · have hb : (A.ends ox p1 != A.ends oy p2) = true := by rw [bne_iff_ne]; exact hag
            have HDI : Hid (A.agree ox oy ws[i].p = false) := by
              rw [← HP.out]
              show (A.ends ox p1 == A.ends oy p2) = false
              rw [beq_eq_false_iff_ne]
              exact hag
            rw [hb]
            clear hag hb
            go_wp2_with fail
            have HW0 : Hid (WordAt (V.alloc (.cells #[] 3)) (.slice (some ⟨V.heap.size, 0, none⟩) 0 0) []) := ⟨_, _, rfl, fun j hj => absurd hj (Nat.not_lt_zero j)⟩
            have HFV3 : Hid (Frm (fun _ => False) V (V.alloc (.cells #[] 3))) := (Frm.refl _ V).alloc _
            go_loopg [13, 14] (i + 1) (fun n u13 u14 wr => ∃ (k : Nat) (acc : List Int), k < M ∧ n = k + 1 ∧ u14 = .int .i64 (k : Int) ∧ Hid (W k ++ acc = W i) ∧ Hid (acc.length + k ≤ i) ∧ Hid (WordAt wr u13 acc) ∧ Hid (Frm (fun _ => False) V wr))
            case atStart => exact ⟨i, [], hlt, rfl, rfl, List.append_nil _, by show _ ≤ _; simp, HW0, HFV3⟩
            case round =>
              clear HW0 HFV3
              obtain ⟨k, acc, hk, rfl, rfl, HACC, HAL, HWA, HFR⟩ := hrel
              have hkw : k < ws.length := by rw [← HMM.out]; exact hk
              have hk' : (k : Int) < (M : Int) := by omega
              have HG4 := Lib.hid ((HFV2.out.trans HFR.out).blk HGW.out id)
              have b1 := HG4.out.cell 1
              obtain ⟨gf, of, rfl, cF⟩ := HFF.out k hkw
              have d1 := HFR.out.cell id (HFV2.out.cell id (HF34.out.cell id cF))
              clear cF
              rcases HWT.out.back hkw with ⟨hneg, hnil⟩ | ⟨m, hm, hmk, hWk⟩
              · have HRES : Hid (acc = W i) := by
                  have h := HACC.out
                  rw [hnil] at h
                  exact h
                generalize ws[k].before = x at *
                have b0 := (HFR.out.blk HGV.out id).cell 0
                have hx := HFR.out.blk HXV.out id
                have x0 := hx.cell 0
                have x1 := hx.cell 1
                have x2 := hx.cell 2
                have x3 := hx.cell 3
                have hng : ¬ 0 ≤ x := by omega
                clear hx hnil
                go_wp2_with fail
                clear d1 b0 b1 x0 x1 x2 x3
                refine (rends_any (HMXV.out.keep0 HFR.out) HXY.out.fa p1 HIN.out.1).mono ?_
                rintro _ w9 ⟨rfl, f9⟩
                have HLE : Hid (A.Least0 a b (W i)) := by
                  obtain ⟨R1, s1⟩ := HSIMX.out
                  obtain ⟨R2, s2⟩ := HSIMY.out
                  exact (s1.least s2 HT.out.ll (W i)).2 (HWT.out.first hiw HDI.out fun j' h' hj => HAG.out j' h' hj)
                have HEN : Hid (A.ends ox p1 = A.ends a (A.runP a b (a.start, b.start) (W i)).1) := by
                  obtain ⟨R1, s1⟩ := HSIMX.out
                  have h1 := HWT.out.pr i hiw
                  rw [← HP.out, A.runP_run] at h1
                  have h2 := s1.en _ _ (s1.run (W i) _ _ HLE.out.1.1 s1.st)
                  rw [A.runP_run]
                  have h3 : p1 = A.runS ox ox.start (W i) := congrArg Prod.fst h1
                  show _ = _
                  rw [h3]
                  exact h2.symm
                have HF9 : Hid (Frm (fun _ => False) w w9) := (((HF3.out.trans HF34.out).trans HFV2.out).trans HFR.out).trans f9
                have HW9 := Lib.hid (HWA.out.frm f9)
                obtain ⟨g, c, rfl, -⟩ := HWA.out
                clear f9
                go_wp2_with fail
                refine bodyPost_ret (v := .tuple #[.slice (some ⟨g, 0, none⟩) acc.length c, .bool (A.ends ox p1), .int .i64 0]) (by simp [results, Try.results7, go_sem]) rfl ⟨HF9.out, _, _, _, rfl, fun h => absurd HFI.out h, fun _ hn => absurd ⟨W i, HLE.out.1⟩ hn, fun _ l' hl' => ?_⟩
                obtain rfl := A.least_uniq HLE.out hl'
                refine ⟨rfl, HEN.out, ?_⟩
                rw [← HRES.out]
                exact HW9.out.ints
              · obtain ⟨gl, ol, rfl, cL⟩ := HLL.out k hkw
                have d2 := HFR.out.cell id (HFV2.out.cell id (HF34.out.cell id cL))
                have b2 := HG4.out.cell 2
                obtain ⟨g, c, rfl, hcs⟩ := HWA.out
                obtain ⟨le, hle⟩ : ∃ le, le = ws[k].letter := ⟨_, rfl⟩
                have HACC2 : Hid (W m ++ (le :: acc) = W i) := by
                  show _ = _
                  rw [← HACC.out, hWk, hle, List.append_assoc]
                  rfl
                rw [← hle] at d2
                rw [hm] at d1
                have hcl : acc.length ≤ 20000 := by have := HAL.out; omega
                have HOW : Hid ((wr.alloc (.cells #[.int .i64 le] 3)).ownsRow wr.heap.size 3 1 (.slice (some ⟨wr.heap.size, 0, none⟩) 1 1) 1 [.int .i64 le]) := own_one
                have HNW : Hid (∀ j u, (acc.map (Value.int .i64))[j]? = some u → (wr.alloc (.cells #[.int .i64 le] 3)).cell? ((⟨g, 0, none⟩ : Addr).add j) = some u) := fun j u hu => by
                  rw [add_zero_off]
                  obtain ⟨hj, e⟩ : ∃ h : j < acc.length, Value.int .i64 acc[j] = u := by
                    rw [List.getElem?_map] at hu
                    by_cases hj : j < acc.length
                    · rw [List.getElem?_eq_getElem hj] at hu
                      exact ⟨hj, by simpa using hu⟩
                    · rw [List.getElem?_eq_none (by omega)] at hu
                      cases hu
                  rw [← e]
                  exact ((Frm.refl (fun _ => False) wr).alloc _).cell id (hcs j hj)
                have HON : Hid (∀ u ∈ acc.map (Value.int .i64), u.oneCell' = true) := fun u hu => by
                  obtain ⟨x, _, rfl⟩ := List.mem_map.1 hu
                  rfl
                have HMXL : Hid (1 + acc.length ≤ maxLen) := by show _ ≤ _; unfold maxLen; omega
                have HBY : Hid ((1 + acc.length) * 8 ≤ 140737488355328) := by show _ ≤ _; omega
                have HBA : Hid (wr.heap.size ≤ (wr.alloc (.cells #[.int .i64 le] 3)).heap.size) := by show _ ≤ _; simp
                have HLN : Hid ((acc.map (Value.int .i64)).length = acc.length * 1) := by show _ = _; simp
                obtain ⟨i0, hi0, hz0, hz1, hz2⟩ := info_parts info_int
                have HMK := Lib.hid hmk
                have hge : (0 : Int) ≤ (m : Int) := by omega
                clear hcs hle hm hWk cL
                go_wp2_with (at_builtin; refine wpList_append_own _ rfl _ _ 28 rfl wr.heap.size 3 i0 (.int .i64 0) 1 8 Try.underlying28 hi0 hz0 hz1 hz2 rfl (by decide) _ _ _ rfl HOW.out ⟨g, 0, none⟩ acc.length c (acc.map (Value.int .i64)) rfl HLN.out HNW.out HON.out HMXL.out HBY.out HBA.out ?_)
                intro v' w8 hown hgrow _
                have HW8 : Hid (WordAt w8 v' (le :: acc)) := WordAt.own (x := 1 + acc.length) hown (by omega)
                have f8 : Frm (fun _ => False) wr w8 := ((Frm.refl (fun _ => False) wr).alloc _).grown hgrow fun g hg hlt => by
                  have hg' : some wr.heap.size = some g := hg
                  injection hg' with hg'
                  omega
                have HFR8 : Hid (Frm (fun _ => False) V w8) := HFR.out.trans f8
                have c1 := f8.cell id d1
                have c2 := (f8.blk HG4.out id).cell 1
                have HAL2 : Hid ((le :: acc).length + m ≤ i) := by have := HAL.out; have := HMK.out; show _ ≤ _; simp; omega
                clear hown hgrow f8 d1 d2 b1 b2 HOW HNW HBA
                go_wp2_with fail
                go_roundg (m + 1)
                case measure => have := HMK.out; omega
                case rel => exact ⟨m, le :: acc, by have := HMK.out; omega, rfl, rfl, HACC2, HAL2, HW8, HFR8⟩
      · have hlt' : ¬ (i : Int) < (M : Int) := by omega
        obtain rfl : M = i := by omega
        have hno : ¬ ∃ l, A.Dist a b l := by
          obtain ⟨R1, s1⟩ := HSIMX.out
          obtain ⟨R2, s2⟩ := HSIMY.out
          rintro ⟨l, hl⟩
          exact HWT.out.none (fun j h => HAG.out j h (by rw [HMM.out]; exact h)) ⟨l, (s1.dist s2 HT.out.ll l).1 hl⟩
        have HNO := Lib.hid hno
        have HFF2 : Hid (Frm (fun _ => False) w wr) := (HF3.out.trans HF34.out).trans HFR.out
        clear hno
        go_wp2_with fail
        refine bodyPost_ret (v := .tuple #[.slice none 0 0, .bool false, .int .i64 7]) (by simp [results, Try.results7, go_sem]) rfl ⟨HFF2.out, _, _, _, rfl, fun h => absurd HFI.out h, fun _ _ => ⟨rfl, rfl, rfl⟩, fun _ l hl => absurd ⟨l, hl.1⟩ HNO.out⟩
end Go.Proofs.Ytiekaicbjinbaaa
end
section
namespace Go.Proofs.Ytiekaicbjinbaaa
open Go.RowKit
namespace A
def small (m : Mac) : Bool := decide (m.next.length ≤ 30) && decide (m.fin.length ≤ 40) && decide (m.letters ≤ 8)
end A
set_option maxRecDepth 100000 in
set_option maxHeartbeats 4000000 in
theorem small_any {w : World} {P : Nat → Prop} {v : Value} {m : A.Mac} (h : MachAt w P v m) (hs : Sized m) : Calls Try.prog 5 #[v] w fun e w' => e = .returned (.bool (A.small m)) ∧ Frm (fun _ => False) w w' := by
  obtain ⟨A1, c1, A2, c2, rfl⟩ := h.form
  obtain ⟨s1, s2, _⟩ := hs
  obtain ⟨lt, st, nx, fn⟩ := m
  simp only at *
  unfold maxLen at s1 s2
  have bx := Blk.new w 25 #[.int .i64 lt, .int .i64 st, .slice A1 nx.length c1, .slice A2 fn.length c2]
  have x0 := bx.cell 0
  have x1 := bx.cell 1
  have x2 := bx.cell 2
  have x3 := bx.cell 3
  have F0 : Hid (Frm (fun _ => False) w (w.alloc (.cells #[.int .i64 lt, .int .i64 st, .slice A1 nx.length c1, .slice A2 fn.length c2] 25))) := (Frm.refl _ w).alloc _
  clear bx h
  have HX : Hid (A.small ⟨lt, st, nx, fn⟩ = (decide (nx.length ≤ 30) && decide (fn.length ≤ 40) && decide (lt ≤ 8))) := rfl
  by_cases a1 : nx.length ≤ 30
  · by_cases a2 : fn.length ≤ 40
    · by_cases a3 : lt ≤ 8
      · go_enter Try.func5, Try.ntmps5
        go_wp2_with fail
        go_ret
        exact ⟨ret_bool (by rw [HX.out]; simp [a1, a2, a3]), F0.out⟩
      · go_enter Try.func5, Try.ntmps5
        go_wp2_with fail
        go_ret
        exact ⟨ret_bool (by rw [HX.out]; simp [a1, a2, a3]), F0.out⟩
    · go_enter Try.func5, Try.ntmps5
      go_wp2_with fail
      go_ret
      exact ⟨ret_bool (by rw [HX.out]; simp [a1, a2]), F0.out⟩
  · go_enter Try.func5, Try.ntmps5
    go_wp2_with fail
    go_ret
    exact ⟨ret_bool (by rw [HX.out]; simp [a1]), F0.out⟩
end Go.Proofs.Ytiekaicbjinbaaa
end
section
namespace Go.Proofs.Ytiekaicbjinbaaa
open Go.ChangeShapes Go.WideShapes Go.ChangeAt Go.RowKit Go.Deep Go.Joins
theorem cellsR_ints : Try.prog.cellsOf 28 = 1 := by kernel_rfl
theorem cellsR_int : Try.prog.cellsOf 3 = 1 := by kernel_rfl
theorem cellsR_bool : Try.prog.cellsOf 4 = 1 := by kernel_rfl
theorem cellsR_pair : Try.prog.cellsOf 40 = 2 := by kernel_rfl
theorem cellsR_mach : Try.prog.cellsOf 25 = 4 := by kernel_rfl
theorem addr_any {g o : Nat} (k : Nat) : (⟨g, o, none⟩ : Addr).add k = ⟨g, o + k, none⟩ := by
  unfold Addr.add
  split
  · subst_vars; simp
  · rfl
theorem at_spot {w : World} {a : Addr} {v : Value} (h : w.cell? (a.add 0) = some v) : ∃ g o, a = ⟨g, o, none⟩ := by
  have : (a.add 0) = a := by simp [Addr.add]
  rw [this] at h
  exact ⟨a.block, a.off, by have := World.cell?_spot h; cases a; simp_all⟩
section
variable {H : Type} {enc : TypeId × Value → H} {W : World} {held : Bool} {n : Nat} {v : Value} {y : DataW H × List MemPlace}
theorem ints_of {base : Nat} (h : DataW.trod enc Try.prog W base (fun _ => true) held n 28 [v] = some y) : ∃ l, Ints W (fun _ => True) v l ∧ l.length ≤ maxLen := by
  rcases open_ints Try.underlying28 Try.underlying3 cellsR_int h with ⟨hc, _⟩ | ⟨a, len, cap, zs, hc, _, hl, hm, hz, _, hcell, _⟩
  · injection hc with hc
    subst hc
    exact ⟨[], ⟨none, 0, rfl, fun k hk => absurd hk (by simp)⟩, by simp⟩
  · injection hc with hc
    subst hc
    simp only [if_true] at hz
    have hlen : (zs.take len).length = len := by rw [List.length_take]; omega
    refine ⟨zs.take len, ⟨some a, cap, by rw [hlen], fun k hk => ?_⟩, by omega⟩
    rw [hlen] at hk
    obtain ⟨g, o, rfl⟩ := at_spot (hcell 0 (by omega))
    refine ⟨g, o, rfl, trivial, ?_⟩
    have := hcell k (by omega)
    rw [addr_any] at this
    rw [this]
    simp [show k < zs.length by omega]
theorem bools_of {base : Nat} (h : DataW.trod enc Try.prog W base (fun _ => true) held n 23 [v] = some y) : ∃ l, Bools W (fun _ => True) v l ∧ l.length ≤ maxLen := by
  rcases open_slice1 Try.underlying23 cellsR_bool h with ⟨hc, _⟩ | ⟨a, len, cap, m, q, V, D, Pl, hc, _, hl, hm, hmm, _, hx⟩
  · injection hc with hc
    subst hc
    exact ⟨[], ⟨none, 0, rfl, fun k hk => absurd hk (by simp)⟩, by simp⟩
  · injection hc with hc
    subst hc
    simp only [if_true] at hmm
    have each : ∀ i, ∃ b : Bool, i < m → V i = .bool b := fun i => by
      by_cases hi : i < m
      · obtain ⟨b, hb, _⟩ := DataW.trod_bool Try.underlying4 (hx i hi).2
        exact ⟨b, fun _ => by injection hb⟩
      · exact ⟨false, fun h => absurd h hi⟩
    obtain ⟨B, hB⟩ := Classical.axiomOfChoice each
    refine ⟨(List.range len).map B, ⟨some a, cap, by simp, fun k hk => ?_⟩, by simp; omega⟩
    have hk' : k < len := by simpa using hk
    obtain ⟨g, o, rfl⟩ := at_spot (hx 0 (by omega)).1
    refine ⟨g, o, rfl, trivial, ?_⟩
    have := (hx k (by omega)).1
    rw [addr_any] at this
    rw [this, hB k (by omega)]
    simp
theorem rows_of {base : Nat} (h : DataW.trod enc Try.prog W base (fun _ => true) held n 22 [v] = some y) : ∃ l, Rows2 W (fun _ => True) v l ∧ l.length ≤ maxLen ∧ ∀ r ∈ l, r.length ≤ maxLen := by
  rcases open_int_rows Try.underlying22 Try.underlying28 Try.underlying3 cellsR_ints cellsR_int h with ⟨hc, _⟩ | ⟨a, len, cap, A, L, C, Z, hc, _, hl, hm, _, hx⟩
  · injection hc with hc
    subst hc
    exact ⟨[], ⟨none, 0, rfl, fun k hk => absurd hk (by simp)⟩, by simp, fun _ h => by cases h⟩
  · injection hc with hc
    subst hc
    have hlr : ∀ r, r < cap → ((Z r).take (L r)).length = L r := fun r hr => by
      obtain ⟨_, h1, _, h2, _⟩ := hx r hr
      rw [List.length_take]
      omega
    refine ⟨(List.range len).map fun r => (Z r).take (L r), ⟨some a, cap, by simp, fun k hk => ?_⟩, by simp; omega, fun r hr => ?_⟩
    · have hk' : k < len := by simpa using hk
      obtain ⟨g, o, rfl⟩ := at_spot (hx 0 (by omega)).1
      obtain ⟨h0, h1, h2, h3, _, h5, h6⟩ := hx k (by omega)
      rw [addr_any] at h0
      refine ⟨g, o, _, rfl, trivial, h0, A k, C k, ?_, fun c hc => ?_⟩
      · simp only [List.getElem_map, List.getElem_range]
        rw [hlr k (by omega)]
      · simp only [List.getElem_map, List.getElem_range] at hc
        rw [hlr k (by omega)] at hc
        rcases hA : A k with _ | a'
        · have := h5 hA; omega
        · obtain ⟨_, h7⟩ := h6 a' hA
          obtain ⟨g', o', rfl⟩ := at_spot (h7 0 (by omega))
          have := h7 c (by omega)
          rw [addr_any] at this
          refine ⟨g', o', rfl, trivial, ?_⟩
          rw [this]
          simp [show c < (Z k).length by omega]
    · obtain ⟨i, hi, rfl⟩ := List.mem_map.1 hr
      have hi' := List.mem_range.1 hi
      rw [hlr i (by omega)]
      obtain ⟨_, h1, h2, _⟩ := hx i (by omega)
      omega
theorem pairs_of {base : Nat} (h : DataW.trod enc Try.prog W base (fun _ => true) held n 35 [v] = some y) : ∃ l, Prs2 W (fun _ => True) v l ∧ l.length ≤ maxLen := by
  rcases open_slice_pairs Try.underlying35 Try.underlying40 cellsR_pair rfl rfl cellsR_int cellsR_int h with ⟨hc, _⟩ | ⟨a, len, cap, m, q, V0, V1, D0, D1, P0, P1, hc, _, hl, hm, hmm, _, hx⟩
  · injection hc with hc
    subst hc
    exact ⟨[], ⟨none, 0, rfl, fun k hk => absurd hk (by simp)⟩, by simp⟩
  · injection hc with hc
    subst hc
    simp only [if_true] at hmm
    have each : ∀ i, ∃ p : A.Pr, i < m → V0 i = .int .i64 p.1 ∧ V1 i = .int .i64 p.2 := fun i => by
      by_cases hi : i < m
      · obtain ⟨x, hx0, _⟩ := DataW.trod_int Try.underlying3 (hx i hi).2.2.1
        obtain ⟨x', hx1, _⟩ := DataW.trod_int Try.underlying3 (hx i hi).2.2.2
        exact ⟨(x, x'), fun _ => ⟨by injection hx0, by injection hx1⟩⟩
      · exact ⟨(0, 0), fun h => absurd h hi⟩
    obtain ⟨B, hB⟩ := Classical.axiomOfChoice each
    refine ⟨(List.range len).map B, ⟨some a, cap, by simp, fun k hk => ?_⟩, by simp; omega⟩
    have hk' : k < len := by simpa using hk
    obtain ⟨g, o, rfl⟩ := at_spot (by have := (hx 0 (by omega)).1; rwa [Nat.zero_mul] at this)
    obtain ⟨h0, h1, _⟩ := hx k (by omega)
    rw [addr_any] at h0 h1
    refine ⟨g, o, rfl, trivial, ?_, ?_⟩
    · rw [h0, (hB k (by omega)).1]; simp
    · rw [Nat.add_assoc, h1, (hB k (by omega)).2]; simp
set_option maxRecDepth 100000 in
theorem mach_of {base b0 : Nat} {r : Reach} {d : DataW H} {p : List MemPlace} (hv : Value.okWide Try.prog W r b0 25 v) (h : DataW.Trod enc Try.prog W base (fun _ => true) held 25 v d p) : ∃ m, MachAt W (fun _ => True) v m ∧ Sized m ∧ (Lit.int .i64 m.letters).wf = true ∧ (Lit.int .i64 m.start).wf = true := by
  obtain ⟨v0, v1, v2, v3, y0, y1, y2, y3, q, rfl, _, _, h0, h1, h2, h3⟩ := open_agg4 Try.underlying25 (by kernel_rfl) cellsR_mach hv h
  obtain ⟨x0, e0, _, wx0⟩ := DataW.trod_int Try.underlying3 h0
  obtain ⟨x1, e1, _, wx1⟩ := DataW.trod_int Try.underlying3 h1
  obtain ⟨l2, m2, s2, t2⟩ := rows_of h2
  obtain ⟨l3, m3, s3⟩ := bools_of h3
  injection e0 with e0
  injection e1 with e1
  subst e0 e1
  exact ⟨⟨x0, x1, l2, l3⟩, ⟨v2, v3, rfl, m2, m3⟩, ⟨s2, s3, t2⟩, wx0, wx1⟩
end
end Go.Proofs.Ytiekaicbjinbaaa
end
section
namespace Go.Proofs.Ytiekaicbjinbaaa
open Go.RowKit
theorem dummy52 : True := trivial
end Go.Proofs.Ytiekaicbjinbaaa
end
section
namespace Go.Proofs.Ytiekaicbjinbaaa
open Go.RowKit
set_option maxRecDepth 100000 in
set_option maxHeartbeats 4000000 in
theorem sameWord_same {w : World} {P Q : Nat → Prop} {v v' : Value} {l : List Int} (h : Ints w P v l) (h' : Ints w Q v' l) (hl : l.length ≤ maxLen) : Calls Try.prog 10 #[v, v'] w fun e w' => e = .returned (.bool true) ∧ Frm (fun _ => False) w w' := by
  obtain ⟨A1, c1, rfl, h1⟩ := h
  obtain ⟨A2, c2, rfl, h2⟩ := h'
  have H1 := Lib.hid h1
  have H2 := Lib.hid h2
  clear h1 h2
  unfold maxLen at hl
  go_enter Try.func10, Try.ntmps10
  go_wp2_with fail
  go_loopg [5] (l.length + 1) (fun n i wr => ∃ k : Nat, k ≤ l.length ∧ n = l.length + 1 - k ∧ i = .int .i64 (k : Int) ∧ Hid (Frm (fun _ => False) w wr))
  case atStart => exact ⟨0, Nat.zero_le _, rfl, rfl, Frm.refl _ _⟩
  case round =>
    obtain ⟨k, hk, rfl, rfl, HF⟩ := hrel
    by_cases hlt : k < l.length
    · have hlt' : (k : Int) < (l.length : Int) := by omega
      obtain ⟨g1, o1, rfl, _, hc1⟩ := H1.out k hlt
      obtain ⟨g2, o2, rfl, _, hc2⟩ := H2.out k hlt
      have d1 := HF.out.cell id hc1
      have d2 := HF.out.cell id hc2
      clear hc1 hc2
      generalize l[k] = x at *
      go_wp2_with fail
      go_quiet (fail)
      go_wp2_with fail
      go_roundg (l.length + 1 - (k + 1))
      case measure => omega
      case rel => exact ⟨k + 1, by omega, rfl, by go_num, HF.out⟩
    · have hlt' : ¬ (k : Int) < (l.length : Int) := by omega
      go_wp2_with fail
      go_ret
      exact ⟨rfl, HF.out⟩
end Go.Proofs.Ytiekaicbjinbaaa
end
section
namespace Go.Proofs.Ytiekaicbjinbaaa
open Go.RowKit
namespace A
theorem Base.len {a b : Mac} {ts : List Tr} {W : Nat → List Int} (h : Base a b ts W) : ∀ i, i < ts.length → (W i).length ≤ i := by
  intro i
  induction i using Nat.strongRecOn with
  | _ i ih =>
    intro hi
    by_cases e : i = 0
    · rw [e, h.zero]; simp
    · obtain ⟨m, _, h2, h3⟩ := h.bk i hi (by omega)
      have := ih m h2 (by omega)
      rw [h3]
      simp
      omega
/-- The least word that tells two machines apart is short. -/
theorem least_len {a b : Mac} (h2 : Two a b) {l : List Int} (hl : Least0 a b l) : l.length ≤ 2 + a.next.length + b.next.length := by
  have hst : InP a b (a.start, b.start) := ⟨h2.fa.start, h2.fb.start⟩
  obtain ⟨f, hf⟩ : ∃ f, f = 3 + a.next.length + b.next.length := ⟨_, rfl⟩
  by_cases hag : agree a b (a.start, b.start) = true
  · have hlen : (upTo (1 + a.next.length + b.next.length) (1 + a.next.length + b.next.length)).length = 1 + a.next.length + b.next.length := by simp [upTo]
    obtain ⟨j1, y, d1, d2, ⟨J1, r1, d3, d4⟩, _⟩ := joinO_jo (f := f) (jo0 a.next.length (1 + a.next.length + b.next.length)) hlen (fun _ h => by cases h) hst (by omega)
    have hT : Tra a b [⟨(a.start, b.start), 0, 0⟩] fun _ => [] := by
      refine ⟨by simp, rfl, fun i hi => ?_, fun i _ k hk => by simp at hk, fun i hi => ?_, fun i j hij hj => by simp at hj; omega, fun i hi h0 => by simp at hi; omega⟩
      · have : i = 0 := by simpa using hi
        subst this
        rfl
      · have : i = 0 := by simpa using hi
        subst this
        exact hag
    rcases outer_spec h2 (f := f) f 0 j1 [⟨(a.start, b.start), 0, 0⟩] (fun _ => []) J1 r1 hT (by simp) (fun i hi h0 => by simp at hi; omega) (fun i j _ _ h => by omega) d3 (by omega) (by omega) (by simp) (by omega) with ⟨_, e2⟩ | ⟨ts', l', q, W', e1, e2, e3, e4, e5, e6, e7⟩
    · exact absurd ⟨l, hl.1⟩ e2
    · rw [least_uniq hl e2, ← e6]
      have := e4.len (ts'.length - 1) (by omega)
      omega
  · have h0 : Dist a b [] := ⟨(fun k hk => by cases hk), by simpa [runP] using hag⟩
    rcases l with _ | ⟨k, l⟩
    · simp
    · exact absurd (.inl (by simp)) (hl.2 [] h0)
theorem fit_cases {a b : Mac} (h : fit a b ≠ 0) : (fit a b = 1 ∧ fit b a = 1) ∨ (fit a b = 4 ∧ fit b a = 4) := by
  unfold fit at h ⊢
  by_cases hv : valid a = 0 ∧ valid b = 0
  · rw [if_pos hv] at h ⊢
    rw [if_pos (show valid b = 0 ∧ valid a = 0 from ⟨hv.2, hv.1⟩)]
    by_cases hl : a.letters = b.letters
    · rw [if_pos hl] at h; exact absurd rfl h
    · rw [if_neg hl, if_neg (Ne.symm hl)]; exact .inr ⟨rfl, rfl⟩
  · rw [if_neg hv, if_neg (show ¬ (valid b = 0 ∧ valid a = 0) from fun h' => hv ⟨h'.2, h'.1⟩)]; exact .inl ⟨rfl, rfl⟩
theorem fit_swap {a b : Mac} (h : fit a b = 0) : fit b a = 0 := by
  unfold fit at h ⊢
  by_cases hv : valid a = 0 ∧ valid b = 0
  · rw [if_pos hv] at h
    rw [if_pos (show valid b = 0 ∧ valid a = 0 from ⟨hv.2, hv.1⟩)]
    by_cases hl : a.letters = b.letters
    · rw [if_pos hl.symm]
    · rw [if_neg hl] at h; cases h
  · rw [if_neg hv] at h; cases h
theorem fit_valid {a b : Mac} (h : fit a b = 0) : valid a = 0 ∧ valid b = 0 := by
  unfold fit at h
  split at h
  · assumption
  · cases h
theorem dist_swap {a b : Mac} (hl : a.letters = b.letters) {w : List Int} (h : Dist a b w) : Dist b a w := by
  unfold Dist OkW at h ⊢
  rw [runP_run] at h ⊢
  rw [← hl]
  simp only [agree] at h ⊢
  rw [Bool.beq_comm]
  exact h
theorem small_len {m : Mac} (h : small m = true) : m.next.length ≤ 30 := by
  unfold small at h
  simp at h
  exact h.1.1
theorem small_room {a b : Mac} (h : small a = true) (h' : small b = true) : (1 + a.next.length) * (1 + b.next.length) ≤ 20000 := by
  have h1 := small_len h
  have h2 := small_len h'
  have : (1 + a.next.length) * (1 + b.next.length) ≤ 31 * 31 := Nat.mul_le_mul (by omega) (by omega)
  omega
end A
theorem differ_no {w : World} {P Q : Nat → Prop} {v v' : Value} {a b : A.Mac} {c : Int} (h : MachAt w P v a) (h' : MachAt w Q v' b) (hs : Sized a) (hs' : Sized b) (hf : A.fit a b = c) (hc : c ≠ 0) : Calls Try.prog 8 #[v, v'] w fun e w' => e = .returned (.tuple #[.slice none 0 0, .bool false, .int .i64 c]) ∧ Frm (fun _ => False) w w' :=
  (differ_all h h' hs hs').mono fun e w' ⟨F, u, fi, er, he, h1, _, _⟩ => by
    obtain ⟨rfl, rfl, rfl⟩ := h1 (by rw [hf]; exact hc)
    rw [hf] at he
    exact ⟨he, F⟩
theorem differ_none {w : World} {P Q : Nat → Prop} {v v' : Value} {a b : A.Mac} (h : MachAt w P v a) (h' : MachAt w Q v' b) (hs : Sized a) (hs' : Sized b) (hf : A.fit a b = 0) (hd : ¬ ∃ l, A.Dist a b l) : Calls Try.prog 8 #[v, v'] w fun e w' => e = .returned (.tuple #[.slice none 0 0, .bool false, .int .i64 7]) ∧ Frm (fun _ => False) w w' :=
  (differ_all h h' hs hs').mono fun e w' ⟨F, u, fi, er, he, _, h2, _⟩ => by
    obtain ⟨rfl, rfl, rfl⟩ := h2 hf hd
    exact ⟨he, F⟩
theorem differ_some {w : World} {P Q : Nat → Prop} {v v' : Value} {a b : A.Mac} {l : List Int} (h : MachAt w P v a) (h' : MachAt w Q v' b) (hs : Sized a) (hs' : Sized b) (hf : A.fit a b = 0) (hl : A.Least0 a b l) : Calls Try.prog 8 #[v, v'] w fun e w' => ∃ u, e = .returned (.tuple #[u, .bool (A.ends a (A.runP a b (a.start, b.start) l).1), .int .i64 0]) ∧ Ints w' (fun _ => True) u l ∧ Frm (fun _ => False) w w' :=
  (differ_all h h' hs hs').mono fun e w' ⟨F, u, fi, er, he, _, _, h3⟩ => by
    obtain ⟨rfl, rfl, hi⟩ := h3 hf l hl
    exact ⟨u, he, hi, F⟩
theorem relate_some {w : World} {P Q : Nat → Prop} {v v' : Value} {a b : A.Mac} {l : List Int} (h : MachAt w P v a) (h' : MachAt w Q v' b) (hs : Sized a) (hs' : Sized b) (hN : (1 + a.next.length) * (1 + b.next.length) ≤ 20000) (hf : A.fit a b = 0) (hl : A.Least0 a b l) : Calls Try.prog 13 #[v, v'] w fun e w' => ∃ u, e = .returned (.tuple #[u, .int .i64 8]) ∧ Frm (fun _ => False) w w' :=
  (relate_all h h' hs hs' fun _ => hN).mono fun e w' ⟨F, u, er, he, _, h2, _⟩ => by
    obtain rfl := h2 hf ⟨l, hl.1⟩
    exact ⟨u, he, F⟩
theorem relate_none {w : World} {P Q : Nat → Prop} {v v' : Value} {a b : A.Mac} (h : MachAt w P v a) (h' : MachAt w Q v' b) (hs : Sized a) (hs' : Sized b) (hN : (1 + a.next.length) * (1 + b.next.length) ≤ 20000) (hf : A.fit a b = 0) (hd : ¬ ∃ l, A.Dist a b l) : Calls Try.prog 13 #[v, v'] w fun e w' => ∃ u l, e = .returned (.tuple #[u, .int .i64 0]) ∧ Prs2 w' (fun _ => True) u l ∧ A.check a b l = 0 ∧ l.length ≤ 20000 ∧ Frm (fun _ => False) w w' :=
  (relate_all h h' hs hs' fun _ => hN).mono fun e w' ⟨F, u, er, he, _, _, h3⟩ => by
    obtain ⟨rfl, l, h4, h5, h6⟩ := h3 hf hd
    exact ⟨u, l, he, h4, h5, h6, F⟩
theorem ints_nil (w : World) (P : Nat → Prop) : Ints w P (.slice none 0 0) [] := ⟨none, 0, rfl, fun k hk => absurd hk (by simp)⟩
end Go.Proofs.Ytiekaicbjinbaaa
end
section
namespace Go.Proofs.Ytiekaicbjinbaaa
open Go.RowKit
/-- What Differ hands back is one thing, whoever tells it. -/
theorem dif_uni (a b : A.Mac) : ∃ (l : List Int) (fb : Bool) (c : Int), l.length ≤ maxLen ∧ ∀ w e w', DifPost w a b e w' → ∃ u, e = .returned (.tuple #[u, .bool fb, .int .i64 c]) ∧ Ints w' (fun _ => True) u l ∧ Frm (fun _ => False) w w' := by
  by_cases hf : A.fit a b = 0
  case neg => exact ⟨[], false, A.fit a b, Nat.zero_le _, fun w e w' ⟨F, u, fi, er, he, h1, _, _⟩ => by
    obtain ⟨rfl, rfl, rfl⟩ := h1 hf
    exact ⟨_, he, ints_nil _ _, F⟩⟩
  have ht := A.fit_two hf
  have hna := ht.na
  have hnb := ht.nb
  by_cases hd : ∃ l, A.Dist a b l
  · obtain ⟨l, hl⟩ := A.least_dist hd
    have := A.least_len ht hl
    exact ⟨l, A.ends a (A.runP a b (a.start, b.start) l).1, 0, by unfold maxLen; omega, fun w e w' ⟨F, u, fi, er, he, _, _, h3⟩ => by
      obtain ⟨rfl, rfl, hi⟩ := h3 hf l hl
      exact ⟨_, he, hi, F⟩⟩
  · exact ⟨[], false, 7, Nat.zero_le _, fun w e w' ⟨F, u, fi, er, he, _, h2, _⟩ => by
      obtain ⟨rfl, rfl, rfl⟩ := h2 hf hd
      exact ⟨_, he, ints_nil _ _, F⟩⟩
set_option maxRecDepth 100000 in
set_option maxHeartbeats 16000000 in
theorem differs_law {w : World} {P Q : Nat → Prop} {va vb : Value} {a b : A.Mac} (ha : MachAt w P va a) (hb : MachAt w Q vb b) (sa : Sized a) (sb : Sized b) (fa : a.fin.length ≤ 140737488355328) (ra : ∀ row ∈ a.next, row.length * 8 ≤ 140737488355328) (fb : b.fin.length ≤ 140737488355328) (rb : ∀ row ∈ b.next, row.length * 8 ≤ 140737488355328) :
    Calls Try.prog 3 #[va, vb] w fun e w' => e = .returned (.bool true) ∧ Frm (fun _ => False) w w' := by
  obtain ⟨A1, c1, A2, c2, rfl⟩ := ha.form
  obtain ⟨B1, d1, B2, d2, rfl⟩ := hb.form
  have HF0 : Hid (Bx w _ (macC a A1 c1 A2 c2) (macC b B1 d1 B2 d2)) := Bx.new w _ _
  have HM := Lib.hid ha
  have HM' := Lib.hid hb
  have HS := Lib.hid sa
  have HS' := Lib.hid sb
  have HCA := Lib.hid fa
  have HCB := Lib.hid fb
  have HRA := Lib.hid ra
  have HRB := Lib.hid rb
  clear ha hb sa sb fa ra fb rb
  have e0 := HF0.out.ba.cell 0
  have e1 := HF0.out.ba.cell 1
  have e2 := HF0.out.ba.cell 2
  have e3 := HF0.out.ba.cell 3
  have g0 := HF0.out.bb.cell 0
  have g1 := HF0.out.bb.cell 1
  have g2 := HF0.out.bb.cell 2
  have g3 := HF0.out.bb.cell 3
  simp only [macC] at e0 e1 e2 e3 g0 g1 g2 g3
  go_enter Try.func3, Try.ntmps3
  go_wp2_with fail
  clear e0 e1 e2 e3 g0 g1 g2 g3
  refine (small_any (HM.out.keep0 HF0.out.fr) HS.out).mono ?_
  rintro _ w1 ⟨rfl, f1⟩
  have HF1 := Lib.hid (HF0.out.call f1)
  clear f1 HF0
  by_cases hsa : A.small a = true
  case neg =>
    rw [show A.small a = false by simpa using hsa]
    clear hsa
    go_wp2_with fail
    refine (awake_any _).mono ?_
    rintro _ w2 ⟨rfl, f2⟩
    have HF2 := Lib.hid (HF1.out.call f2)
    clear f2 HF1
    go_wp2_with fail
    go_ret
    exact ⟨rfl, HF2.out.fr⟩
  rw [hsa]
  have e0 := HF1.out.ba.cell 0
  have e1 := HF1.out.ba.cell 1
  have e2 := HF1.out.ba.cell 2
  have e3 := HF1.out.ba.cell 3
  have g0 := HF1.out.bb.cell 0
  have g1 := HF1.out.bb.cell 1
  have g2 := HF1.out.bb.cell 2
  have g3 := HF1.out.bb.cell 3
  simp only [macC] at e0 e1 e2 e3 g0 g1 g2 g3
  go_wp2_with fail
  clear e0 e1 e2 e3 g0 g1 g2 g3
  refine (small_any (HM'.out.keep0 HF1.out.fr) HS'.out).mono ?_
  rintro _ w2 ⟨rfl, f2⟩
  have HF2 := Lib.hid (HF1.out.call f2)
  clear f2 HF1
  by_cases hsb : A.small b = true
  case neg =>
    rw [show A.small b = false by simpa using hsb]
    clear hsa hsb
    go_wp2_with fail
    refine (awake_any _).mono ?_
    rintro _ w3 ⟨rfl, f3⟩
    have HF3 := Lib.hid (HF2.out.call f3)
    clear f3 HF2
    go_wp2_with fail
    go_ret
    exact ⟨rfl, HF3.out.fr⟩
  rw [hsb]
  have HRM := Lib.hid (A.small_room hsa hsb)
  have HLA : Hid (a.next.length ≤ 8000) := show _ ≤ _ by have := A.small_len hsa; omega
  have HLB : Hid (b.next.length ≤ 8000) := show _ ≤ _ by have := A.small_len hsb; omega
  obtain ⟨l, fb, c, hll, huni⟩ := dif_uni a b
  have HU := Lib.hid huni
  have HLL := Lib.hid hll
  clear hsa hsb huni hll
  have e0 := HF2.out.ba.cell 0
  have e1 := HF2.out.ba.cell 1
  have e2 := HF2.out.ba.cell 2
  have e3 := HF2.out.ba.cell 3
  have g0 := HF2.out.bb.cell 0
  have g1 := HF2.out.bb.cell 1
  have g2 := HF2.out.bb.cell 2
  have g3 := HF2.out.bb.cell 3
  simp only [macC] at e0 e1 e2 e3 g0 g1 g2 g3
  go_wp2_with fail
  clear e0 e1 e2 e3 g0 g1 g2 g3
  refine ((rdiffer_any (HM.out.keep0 HF2.out.fr) (HM'.out.keep0 HF2.out.fr) HS.out HS'.out fun _ => HRM.out).mono (HU.out _)).mono ?_
  rintro _ w3 ⟨u, rfl, hu, f3⟩
  have HF3 := Lib.hid (HF2.out.call f3)
  have HI := Lib.hid hu
  clear f3 HF2 hu
  go_wp2_with fail
  refine wp_region_listI [28, 29, 30, 31, 32, 27, 33, 34, 35, 8, 9, 10] [vV (.agg #[.int .i64 a.letters, .int .i64 a.start, .slice A1 a.next.length c1, .slice A2 a.fin.length c2]), fun v w' => MachAt w' (fun b => w3.heap.size ≤ b) v a, vV (.agg #[.int .i64 b.letters, .int .i64 b.start, .slice B1 b.next.length d1, .slice B2 b.fin.length d2]), fun v w' => MachAt w' (fun b => w3.heap.size ≤ b) v b, fun v w' => ∃ u, v = .tuple #[u, .bool fb, .int .i64 c] ∧ Ints w' (fun _ => True) u l, fun v w' => ∃ u, v = .tuple #[u, .bool fb, .int .i64 c] ∧ Ints w' (fun _ => True) u l, fun v w' => Ints w' (fun _ => True) v l, vV (.bool fb), vV (.int .i64 c), fun v w' => Ints w' (fun _ => True) v l, vV (.bool fb), vV (.int .i64 c)] (Frm (fun _ => False)) [] [(2, .pointer (some ⟨w.heap.size, 0, none⟩)), (3, .pointer (some ⟨w.heap.size + 1, 0, none⟩))] (by kernel_rfl) (by kernel_rfl) (by kernel_rfl) (fun _ _ _ => Frm.trans) ?_ (fun _ h => by cases h) (Frm.refl _ _).drew ?_ ?_ ?_
  · intro f hf v w w' h F
    simp only [List.mem_cons, List.not_mem_nil, or_false] at hf
    rcases hf with rfl | rfl | rfl | rfl | rfl | rfl | rfl | rfl | rfl | rfl | rfl | rfl
    · exact h
    · exact MachAt.keep0 h F
    · exact h
    · exact MachAt.keep0 h F
    · obtain ⟨u, e, hi⟩ := h
      exact ⟨u, e, hi.keep F fun _ _ => id⟩
    · obtain ⟨u, e, hi⟩ := h
      exact ⟨u, e, hi.keep F fun _ _ => id⟩
    · exact Ints.keep h F fun _ _ => id
    · exact h
    · exact h
    · exact Ints.keep h F fun _ _ => id
    · exact h
    · exact h
  · intro x hx
    simp only [List.mem_cons, List.not_mem_nil, or_false] at hx
    rcases hx with rfl | rfl <;> exact ⟨by simp, rfl⟩
  · refine ⟨?_, ?_, ?_, ?_, ?_, ?_, ?_, ?_, ?_, ?_, ?_, ?_, trivial⟩
    · intro Q tm df V hR hu hd
      have u1 : tm[2]?.getD undef = .pointer (some ⟨w.heap.size, 0, none⟩) := hu (2, _) (by simp)
      have hb := hR.blk HF3.out.ba id
      have y0 := hb.cell 0
      have y1 := hb.cell 1
      have y2 := hb.cell 2
      have y3 := hb.cell 3
      simp only [macC] at y0 y1 y2 y3
      clear hu hd hb
      go_simp
      exact ⟨_, rfl, rfl, Frm.refl _ V⟩
    · intro Q tm df V hR hu hd
      have e0 : tm[28]?.getD undef = .agg #[.int .i64 a.letters, .int .i64 a.start, .slice A1 a.next.length c1, .slice A2 a.fin.length c2] := hd 0 (by simp [Region.binds])
      clear hu hd
      go_simp
      refine (copy_any (HM.out.keep0 (HF3.out.fr.trans hR)) HLA.out HCA.out HRA.out).mono ?_
      rintro e w' ⟨r, rfl, m, f⟩
      exact ⟨_, rfl, m.mono fun x hx => Nat.le_trans hR.1 hx, f⟩
    · intro Q tm df V hR hu hd
      have u1 : tm[3]?.getD undef = .pointer (some ⟨w.heap.size + 1, 0, none⟩) := hu (3, _) (by simp)
      have hb := hR.blk HF3.out.bb id
      have y0 := hb.cell 0
      have y1 := hb.cell 1
      have y2 := hb.cell 2
      have y3 := hb.cell 3
      simp only [macC] at y0 y1 y2 y3
      clear hu hd hb
      go_simp
      exact ⟨_, rfl, rfl, Frm.refl _ V⟩
    · intro Q tm df V hR hu hd
      have e0 : tm[30]?.getD undef = .agg #[.int .i64 b.letters, .int .i64 b.start, .slice B1 b.next.length d1, .slice B2 b.fin.length d2] := hd 2 (by simp [Region.binds])
      clear hu hd
      go_simp
      refine (copy_any (HM'.out.keep0 (HF3.out.fr.trans hR)) HLB.out HCB.out HRB.out).mono ?_
      rintro e w' ⟨r, rfl, m, f⟩
      exact ⟨_, rfl, m.mono fun x hx => Nat.le_trans hR.1 hx, f⟩
    · intro Q tm df V hR hu hd
      have m1 : MachAt V (fun b => w3.heap.size ≤ b) (tm[29]?.getD undef) a := hd 1 (by simp [Region.binds])
      have m2 : MachAt V (fun b => w3.heap.size ≤ b) (tm[31]?.getD undef) b := hd 3 (by simp [Region.binds])
      have HM1 := Lib.hid m1
      have HM2 := Lib.hid m2
      clear hu hd m1 m2
      go_simp
      refine ((differ_all HM1.out HM2.out HS.out HS'.out).mono (HU.out _)).mono ?_
      rintro e w' ⟨u, rfl, hi, f⟩
      exact ⟨_, rfl, ⟨u, rfl, hi⟩, f⟩
    · intro Q tm df V hR hu hd
      obtain ⟨u, e0, hi⟩ : ∃ u, (tm[32]?.getD undef) = .tuple #[u, .bool fb, .int .i64 c] ∧ Ints V (fun _ => True) u l := hd 4 (by simp [Region.binds])
      have HI1 := Lib.hid hi
      clear hu hd hi
      go_simp
      exact ⟨_, rfl, ⟨u, rfl, HI1.out⟩, Frm.refl _ V⟩
    · intro Q tm df V hR hu hd
      obtain ⟨u, e0, hi⟩ : ∃ u, (tm[27]?.getD undef) = .tuple #[u, .bool fb, .int .i64 c] ∧ Ints V (fun _ => True) u l := hd 5 (by simp [Region.binds])
      have HI1 := Lib.hid hi
      clear hu hd hi
      go_simp
      exact ⟨_, rfl, HI1.out, Frm.refl _ V⟩
    · intro Q tm df V hR hu hd
      obtain ⟨u, e0, hi⟩ : ∃ u, (tm[27]?.getD undef) = .tuple #[u, .bool fb, .int .i64 c] ∧ Ints V (fun _ => True) u l := hd 5 (by simp [Region.binds])
      clear hu hd hi
      go_simp
      exact ⟨_, rfl, rfl, Frm.refl _ V⟩
    · intro Q tm df V hR hu hd
      obtain ⟨u, e0, hi⟩ : ∃ u, (tm[27]?.getD undef) = .tuple #[u, .bool fb, .int .i64 c] ∧ Ints V (fun _ => True) u l := hd 5 (by simp [Region.binds])
      clear hu hd hi
      go_simp
      exact ⟨_, rfl, rfl, Frm.refl _ V⟩
    · intro Q tm df V hR hu hd
      have hi : Ints V (fun _ => True) (tm[33]?.getD undef) l := hd 6 (by simp [Region.binds])
      have HI1 := Lib.hid hi
      clear hu hd hi
      go_simp
      exact ⟨_, rfl, HI1.out, Frm.refl _ V⟩
    · intro Q tm df V hR hu hd
      have e0 : tm[34]?.getD undef = .bool fb := hd 7 (by simp [Region.binds])
      clear hu hd
      go_simp
      exact ⟨_, rfl, rfl, Frm.refl _ V⟩
    · intro Q tm df V hR hu hd
      have e0 : tm[35]?.getD undef = .int .i64 c := hd 8 (by simp [Region.binds])
      clear hu hd
      go_simp
      exact ⟨_, rfl, rfl, Frm.refl _ V⟩
  · intro vs V hR hf
    have h8 : Ints V (fun _ => True) (vs 9) l := hf 9 (by decide)
    have e9 : vs 10 = .bool fb := hf 10 (by decide)
    have e10 : vs 11 = .int .i64 c := hf 11 (by decide)
    clear hf
    simp only [putAll, List.size_toArray, List.length_cons, List.length_nil, Nat.zero_add, Nat.reduceAdd, show List.range 12 = [0, 1, 2, 3, 4, 5, 6, 7, 8, 9, 10, 11] from rfl, List.foldl_cons, List.foldl_nil, List.getD_cons_zero, List.getD_cons_succ, List.setIfInBounds_toArray, List.set_cons_zero, List.set_cons_succ, e9, e10]
    have H8 := Lib.hid h8
    have HI2 := Lib.hid (HI.out.keep hR fun _ _ => id)
    have HF4 : Hid (Frm (fun _ => False) w V) := HF3.out.fr.trans hR
    clear h8 e9 e10 hR HF3 HI
    have hcc : (c == c) = true := by simp
    have hfb : (fb == fb) = true := by simp
    go_wp2_with fail
    refine (sameWord_same H8.out HI2.out HLL.out).mono ?_
    rintro _ w5 ⟨rfl, f5⟩
    have HF5 := Lib.hid (HF4.out.trans f5)
    clear f5
    go_wp2_with fail
    refine (awake_any _).mono ?_
    rintro _ w6 ⟨rfl, f6⟩
    have HF6 := Lib.hid (HF5.out.trans f6)
    clear f6
    go_wp2_with fail
    go_ret
    exact ⟨rfl, HF6.out⟩
end Go.Proofs.Ytiekaicbjinbaaa
end
section
namespace Go.Proofs.Ytiekaicbjinbaaa
open Go.ChangeShapes Go.WideShapes Go.ChangeAt Go.RowKit Go.Deep Go.Joins
theorem bytes_ints : Try.prog.bytesOf 28 = 24 := by kernel_rfl
theorem bytes_int : Try.prog.bytesOf 3 = 8 := by kernel_rfl
theorem bytes_bool : Try.prog.bytesOf 4 = 1 := by kernel_rfl
theorem weightsAll_mem {H : Type} {P : Program} {e : TypeId} : ∀ {l : List (DataW H)} {d : DataW H} {n : Nat}, d ∈ l → n ∈ d.weights P e → n ∈ DataW.weightsAll P e l
  | [], _, _, h, _ => by cases h
  | a :: l, d, n, h, hn => by
    simp only [DataW.weightsAll, List.mem_append]
    rcases List.mem_cons.1 h with rfl | h
    · exact .inl hn
    · exact .inr (weightsAll_mem h hn)
/-- What a datum weighs is within the reach. -/
def Light {H : Type} (t : TypeId) (d : DataW H) : Prop := ∀ n ∈ d.weights Try.prog t, n ≤ reachBytes
theorem Light.slice {H : Type} {t e : TypeId} {es sp : List (DataW H)} (h : Light t (.slice es sp)) (ht : Try.prog.underlying t = some (.slice e)) : (es.length + sp.length) * Try.prog.bytesOf e ≤ reachBytes ∧ ∀ d ∈ es, Light e d := by
  refine ⟨h _ (by simp [DataW.weights, ht]), fun d hd n hn => h n ?_⟩
  simp only [DataW.weights, ht, List.mem_cons, List.mem_append]
  exact .inr (.inl (weightsAll_mem hd hn))
section
variable {H : Type} {enc : TypeId × Value → H} {W : World} {held : Bool} {n : Nat} {v : Value} {y : DataW H × List MemPlace}
theorem ints_light {base : Nat} (h : DataW.trod enc Try.prog W base (fun _ => true) held n 28 [v] = some y) (hw : Light 28 y.1) : ∃ l, Ints W (fun _ => True) v l ∧ l.length * 8 ≤ reachBytes := by
  rcases open_ints Try.underlying28 Try.underlying3 cellsR_int h with ⟨hc, _⟩ | ⟨a, len, cap, zs, hc, _, hl, hm, hz, hy, hcell, _⟩
  · injection hc with hc
    subst hc
    exact ⟨[], ⟨none, 0, rfl, fun k hk => absurd hk (by simp)⟩, by simp⟩
  · injection hc with hc
    subst hc
    simp only [if_true] at hz
    rw [hy] at hw
    have hwt := (hw.slice Try.underlying28).1
    rw [bytes_int] at hwt
    simp only [lits, List.length_map, List.length_take, List.length_drop] at hwt
    have hlen : (zs.take len).length = len := by rw [List.length_take]; omega
    refine ⟨zs.take len, ⟨some a, cap, by rw [hlen], fun k hk => ?_⟩, by rw [hlen]; omega⟩
    rw [hlen] at hk
    obtain ⟨g, o, rfl⟩ := at_spot (hcell 0 (by omega))
    refine ⟨g, o, rfl, trivial, ?_⟩
    have := hcell k (by omega)
    rw [addr_any] at this
    rw [this]
    simp [show k < zs.length by omega]
theorem bools_light {base : Nat} (h : DataW.trod enc Try.prog W base (fun _ => true) held n 23 [v] = some y) (hw : Light 23 y.1) : ∃ l, Bools W (fun _ => True) v l ∧ l.length ≤ reachBytes := by
  rcases open_slice1 Try.underlying23 cellsR_bool h with ⟨hc, _⟩ | ⟨a, len, cap, m, q, V, D, Pl, hc, _, hl, hm, hmm, hy, hx⟩
  · injection hc with hc
    subst hc
    exact ⟨[], ⟨none, 0, rfl, fun k hk => absurd hk (by simp)⟩, by simp⟩
  · injection hc with hc
    subst hc
    simp only [if_true] at hmm
    rw [hy] at hw
    have hwt := (hw.slice Try.underlying23).1
    rw [bytes_bool] at hwt
    simp only [List.length_map, List.length_range] at hwt
    have each : ∀ i, ∃ b : Bool, i < m → V i = .bool b := fun i => by
      by_cases hi : i < m
      · obtain ⟨b, hb, _⟩ := DataW.trod_bool Try.underlying4 (hx i hi).2
        exact ⟨b, fun _ => by injection hb⟩
      · exact ⟨false, fun h => absurd h hi⟩
    obtain ⟨B, hB⟩ := Classical.axiomOfChoice each
    refine ⟨(List.range len).map B, ⟨some a, cap, by simp, fun k hk => ?_⟩, by simp; omega⟩
    have hk' : k < len := by simpa using hk
    obtain ⟨g, o, rfl⟩ := at_spot (hx 0 (by omega)).1
    refine ⟨g, o, rfl, trivial, ?_⟩
    have := (hx k (by omega)).1
    rw [addr_any] at this
    rw [this, hB k (by omega)]
    simp
theorem rows_light {base : Nat} (h : DataW.trod enc Try.prog W base (fun _ => true) held n 22 [v] = some y) (hw : Light 22 y.1) : ∃ l, Rows2 W (fun _ => True) v l ∧ l.length * 24 ≤ reachBytes ∧ ∀ r ∈ l, r.length * 8 ≤ reachBytes := by
  rcases open_int_rows Try.underlying22 Try.underlying28 Try.underlying3 cellsR_ints cellsR_int h with ⟨hc, _⟩ | ⟨a, len, cap, A, L, C, Z, hc, _, hl, hm, hy, hx⟩
  · injection hc with hc
    subst hc
    exact ⟨[], ⟨none, 0, rfl, fun k hk => absurd hk (by simp)⟩, by simp, fun _ h => by cases h⟩
  · injection hc with hc
    subst hc
    rw [hy] at hw
    obtain ⟨hwt, hwr⟩ := hw.slice Try.underlying22
    rw [bytes_ints] at hwt
    simp only [List.length_map, List.length_range] at hwt
    have hlr : ∀ r, r < cap → ((Z r).take (L r)).length = L r := fun r hr => by
      obtain ⟨_, h1, _, h2, _⟩ := hx r hr
      rw [List.length_take]
      omega
    refine ⟨(List.range len).map fun r => (Z r).take (L r), ⟨some a, cap, by simp, fun k hk => ?_⟩, by simp; omega, fun r hr => ?_⟩
    · have hk' : k < len := by simpa using hk
      obtain ⟨g, o, rfl⟩ := at_spot (hx 0 (by omega)).1
      obtain ⟨h0, h1, h2, h3, _, h5, h6⟩ := hx k (by omega)
      rw [addr_any] at h0
      refine ⟨g, o, _, rfl, trivial, h0, A k, C k, ?_, fun c hc => ?_⟩
      · simp only [List.getElem_map, List.getElem_range]
        rw [hlr k (by omega)]
      · simp only [List.getElem_map, List.getElem_range] at hc
        rw [hlr k (by omega)] at hc
        rcases hA : A k with _ | a'
        · have := h5 hA; omega
        · obtain ⟨_, h7⟩ := h6 a' hA
          obtain ⟨g', o', rfl⟩ := at_spot (h7 0 (by omega))
          have := h7 c (by omega)
          rw [addr_any] at this
          refine ⟨g', o', rfl, trivial, ?_⟩
          rw [this]
          simp [show c < (Z k).length by omega]
    · obtain ⟨i, hi, rfl⟩ := List.mem_map.1 hr
      have hi' := List.mem_range.1 hi
      rw [hlr i (by omega)]
      obtain ⟨_, h1, h2, h3, _, h5, _⟩ := hx i (by omega)
      have hli := hwr _ (List.mem_map.2 ⟨i, List.mem_range.2 hi', rfl⟩)
      rcases hA : A i with _ | a'
      · have := h5 hA
        have e0 : L i = 0 := by omega
        rw [e0]
        exact Nat.zero_le _
      · rw [hA] at hli
        have := (Light.slice hli Try.underlying28).1
        rw [bytes_int] at this
        simp only [lits, List.length_map, List.length_take, List.length_drop] at this
        omega
set_option maxRecDepth 100000 in
theorem mach_light {base b0 : Nat} {r : Reach} {d : DataW H} {p : List MemPlace} (hv : Value.okWide Try.prog W r b0 25 v) (h : DataW.Trod enc Try.prog W base (fun _ => true) held 25 v d p) (hw : Light 25 d) : ∃ m, MachAt W (fun _ => True) v m ∧ Sized m ∧ m.fin.length ≤ 140737488355328 ∧ ∀ row ∈ m.next, row.length * 8 ≤ 140737488355328 := by
  obtain ⟨v0, v1, v2, v3, y0, y1, y2, y3, q, rfl, rfl, _, h0, h1, h2, h3⟩ := open_agg4 Try.underlying25 (by kernel_rfl) cellsR_mach hv h
  have hf : ∀ (j : Nat) (t : TypeId) (d : DataW H), [3, 3, 22, 23][j]? = some t → [y0.1, y1.1, y2.1, y3.1][j]? = some d → Light t d := fun j t d ht hd n hn => hw n (by
    simp only [DataW.weights, Try.underlying25]
    exact DataW.weights_mem_each (j := j) ht hd n hn)
  obtain ⟨x0, e0, _, wx0⟩ := DataW.trod_int Try.underlying3 h0
  obtain ⟨x1, e1, _, wx1⟩ := DataW.trod_int Try.underlying3 h1
  obtain ⟨l2, m2, s2, t2⟩ := rows_light h2 (hf 2 _ _ rfl rfl)
  obtain ⟨l3, m3, s3⟩ := bools_light h3 (hf 3 _ _ rfl rfl)
  injection e0 with e0
  injection e1 with e1
  subst e0 e1
  unfold reachBytes at s2 s3 t2
  exact ⟨⟨x0, x1, l2, l3⟩, ⟨v2, v3, rfl, m2, m3⟩, ⟨show l2.length ≤ maxLen by unfold maxLen; omega, show l3.length ≤ maxLen by unfold maxLen; omega, fun row hr => by have := t2 row hr; unfold maxLen; omega⟩, show l3.length ≤ 140737488355328 by omega, fun row hr => by have := t2 row hr; omega⟩
end
end Go.Proofs.Ytiekaicbjinbaaa
end
