/- least. Relate, where two machines are the same and few pairs are found. Plain facts of the search for pairs: it finds just the pairs that words lead to, and, sorted, they are a relation that shows that two machines are the same. Plain: the walk of two machines comes to its end. The reference's classes. The reference's found. The reference's none. Least. Contracts of the program's functions, with no condition beyond what each theorem states. -/
import Derived.Test.YtiekaicbjinbaaaC07
import Derived.Deep.RegionHeld3
import Derived.Test.YtiekaicbjinbaaaC05
import Derived.Test.YtiekaicbjinbaaaC04
import Derived.Test.YtiekaicbjinbaaaC03
import Derived.Test.YtiekaicbjinbaaaC02
section
namespace Go.Proofs.Ytiekaicbjinbaaa
open Go.RowKit
namespace A
/-- The ways into the states are few, and come from states. -/
def waysOk (m : Mac) : Bool := decide ((arrive m).length = m.next.length) && (arrive m).all fun l => decide (l.length ≤ 30000000) && l.all fun a => decide (0 ≤ a.1) && decide (a.1 < (m.next.length : Int))
/-- Whether a found class stands for a state. -/
def endOk (m : Mac) (d : Pd) (c : Int) : Bool := decide (0 ≤ c) && decide (c < (d.beg.length : Int)) && decide (0 ≤ d.beg.getD c.toNat 0) && decide (d.beg.getD c.toNat 0 < (d.row.length : Int)) && decide (0 ≤ d.row.getD (d.beg.getD c.toNat 0).toNat 0) && decide (d.row.getD (d.beg.getD c.toNat 0).toNat 0 < (m.fin.length : Int))
def endOf (m : Mac) (d : Pd) (c : Int) : Bool := m.fin.getD (d.row.getD (d.beg.getD c.toNat 0).toNat 0).toNat false
def startOk (m : Mac) (d : Pd) : Bool := decide (m.start < (d.cls.length : Int)) && decide (-1000000 ≤ d.cls.getD m.start.toNat 0) && decide (d.cls.getD m.start.toNat 0 ≤ 1000000) && decide (d.beg.length ≤ 1000000)
def leastO (f : Nat) (m : Mac) : Option Mac :=
  if waysOk m then match livO (arrive m) f 0 m.fin (trues m.fin m.next.length) with
  | none => none
  | some al => if m.start = -1 then some ⟨m.letters, -1, [], []⟩ else if al.getD m.start.toNat false then match classesO f m (arrive m) al with
    | none => none
    | some d => if startOk m d then match searchO (nxt m d) f (d.cls.getD m.start.toNat 0) (-1) m.letters.toNat d.beg.length with
      | none => none
      | some (ts, rows) => if ts.all (endOk m d) && decide (ts.length ≤ 1000001) then some ⟨m.letters, 0, rows, ts.map (endOf m d)⟩ else none
      else none
    else some ⟨m.letters, -1, [], []⟩
  else none
theorem waysOk.len {m : Mac} (h : waysOk m = true) : (arrive m).length = m.next.length := by
  simp only [waysOk, Bool.and_eq_true, decide_eq_true_eq] at h
  exact h.1
theorem waysOk.short {m : Mac} (h : waysOk m = true) : Short (arrive m) 30000000 := fun i => by
  simp only [waysOk, Bool.and_eq_true, decide_eq_true_eq, List.all_eq_true] at h
  rcases Nat.lt_or_ge i (arrive m).length with hi | hi
  · rw [show (arrive m).getD i [] = (arrive m)[i] by simp [hi]]
    exact (h.2 _ (List.getElem_mem hi)).1
  · rw [show (arrive m).getD i [] = [] by simp [hi]]
    exact Nat.zero_le _
theorem waysOk.from_ {m : Mac} (h : waysOk m = true) : FromIn (arrive m) m.next.length := fun i a ha => by
  simp only [waysOk, Bool.and_eq_true, decide_eq_true_eq, List.all_eq_true] at h
  rcases Nat.lt_or_ge i (arrive m).length with hi | hi
  · rw [show (arrive m).getD i [] = (arrive m)[i] by simp [hi]] at ha
    exact (h.2 _ (List.getElem_mem hi)).2 a ha
  · rw [show (arrive m).getD i [] = [] by simp [hi]] at ha
    cases ha
end A
theorem cell_lt {w : World} {g i : Nat} {v : Value} (h : w.cell? ⟨g, i, none⟩ = some v) : g < w.heap.size := by
  rcases Nat.lt_or_ge g w.heap.size with hl | hl
  · exact hl
  · simp [World.cell?, Array.getElem?_eq_none hl] at h
theorem Rows2.lt {w : World} {P : Nat → Prop} {v : Value} {l : List (List Int)} (h : Rows2 w P v l) : Rows2 w (fun b => P b ∧ b < w.heap.size) v l := by
  obtain ⟨A0, c, e, h⟩ := h
  refine ⟨A0, c, e, fun k hk => ?_⟩
  obtain ⟨g, o, rv, h1, h2, h3, A1, c1, e1, h4⟩ := h k hk
  refine ⟨g, o, rv, h1, ⟨h2, cell_lt h3⟩, h3, A1, c1, e1, fun j hj => ?_⟩
  obtain ⟨g', o', a1, a2, a3⟩ := h4 j hj
  exact ⟨g', o', a1, ⟨a2, cell_lt a3⟩, a3⟩
namespace A
/-- The ends of the first k found classes. -/
def endsTo (m : Mac) (d : Pd) (ts : List Int) (k : Nat) : List Bool := (ts.take k).map (endOf m d) ++ List.replicate (ts.length - k) false
theorem endsTo_len (m : Mac) (d : Pd) (ts : List Int) {k : Nat} (hk : k ≤ ts.length) : (endsTo m d ts k).length = ts.length := by simp [endsTo]; omega
theorem endsTo_zero (m : Mac) (d : Pd) (ts : List Int) : endsTo m d ts 0 = List.replicate ts.length false := by simp [endsTo]
theorem endsTo_all (m : Mac) (d : Pd) (ts : List Int) : endsTo m d ts ts.length = ts.map (endOf m d) := by simp [endsTo]
theorem endsTo_succ (m : Mac) (d : Pd) (ts : List Int) {k : Nat} (hk : k < ts.length) : (endsTo m d ts k).set k (endOf m d (ts.getD k 0)) = endsTo m d ts (k + 1) := by
  unfold endsTo
  rw [List.set_append_right _ _ (by simp; omega), show ts.length - k = (ts.length - (k + 1)) + 1 by omega, List.replicate_succ]
  have e : k - ((ts.take k).map (endOf m d)).length = 0 := by simp; omega
  rw [e, List.set_cons_zero, List.take_add_one, List.map_append]
  simp [hk]
end A
/-- What a round of the ends keeps: all but the ends' row. -/
def Lq (wr w' : World) (eb k : Nat) : Prop := Frm (fun b => b = eb) wr w' ∧ ∃ l : List Bool, k < l.length ∧ Blk w' eb 4 (boolCs l)
theorem Lq.call {wr w1 w2 : World} {eb k : Nat} (h : Lq wr w1 eb k) (F : Frm (fun _ => False) w1 w2) : Lq wr w2 eb k := by
  obtain ⟨h1, l, h2, h3⟩ := h
  exact ⟨h1.trans (F.mono fun _ _ h => h.elim), l, h2, F.blk h3 id⟩
theorem Lq.put {wr w1 : World} {eb k : Nat} (h : Lq wr w1 eb k) (b : Bool) : Lq wr (w1.setCell ⟨eb, k, none⟩ (.bool b)) eb k := by
  obtain ⟨h1, l, h2, h3⟩ := h
  refine ⟨h1.trans ((Frm.refl (fun b => b = eb) w1).set_ (p := ⟨eb, k, none⟩) (fun _ => rfl) _), l.set k b, by simpa using h2, ?_⟩
  rw [← boolCs_set]
  exact h3.set_ k _
theorem Lq.six {wr w1 : World} {eb k g3 i3 g5 i5 g6 i6 : Nat} {v3 v5 v6 : Value} (x3 : wr.cell? ⟨g3, i3, none⟩ = some v3) (n3 : g3 ≠ eb) (x5 : wr.cell? ⟨g5, i5, none⟩ = some v5) (n5 : g5 ≠ eb) (x6 : wr.cell? ⟨g6, i6, none⟩ = some v6) (n6 : g6 ≠ eb) (h : Lq wr w1 eb k) : w1.cell? ⟨g3, i3, none⟩ = some v3 ∧ w1.cell? ⟨g5, i5, none⟩ = some v5 ∧ w1.cell? ⟨g6, i6, none⟩ = some v6 ∧ w1.cell? ⟨eb, k, none⟩ = some (held w1 ⟨eb, k, none⟩) ∧ w1.frozen? ⟨eb, k, none⟩ = false ∧ Lq wr w1 eb k := by
  have h' := h
  obtain ⟨h1, l, h2, h3⟩ := h
  have e : w1.cell? ⟨eb, k, none⟩ = some (.bool (l.getD k false)) := by rw [h3.cell k, boolCs_getD h2]
  exact ⟨h1.cell n3 x3, h1.cell n5 x5, h1.cell n6 x6, by rw [held, e]; rfl, h3.frozen k, h'⟩
def put4 (w : World) (b : Nat) (l s n e : Value) : World := (((w.setCell ⟨b, 0, none⟩ l).setCell ⟨b, 1, none⟩ s).setCell ⟨b, 2, none⟩ n).setCell ⟨b, 3, none⟩ e
theorem put4_blk {w : World} {b : Nat} {t : TypeId} {c0 c1 c2 c3 l s n e : Value} (h : Blk w b t #[c0, c1, c2, c3]) : Blk (put4 w b l s n e) b t #[l, s, n, e] := (((h.set_ 0 l).set_ 1 s).set_ 2 n).set_ 3 e
theorem put4_frm {w w2 : World} {b : Nat} {l s n e : Value} (h : Frm (fun _ => False) w w2) (hb : w.heap.size ≤ b) : Frm (fun _ => False) w (put4 w2 b l s n e) :=
  (((h.set_ (p := ⟨b, 0, none⟩) (fun h => absurd h (by simp; omega)) l).set_ (p := ⟨b, 1, none⟩) (fun h => absurd h (by simp; omega)) s).set_ (p := ⟨b, 2, none⟩) (fun h => absurd h (by simp; omega)) n).set_ (p := ⟨b, 3, none⟩) (fun h => absurd h (by simp; omega)) e
theorem put4_frm1 {w : World} {b : Nat} {l s n e : Value} : Frm (fun x => x = b) w (put4 w b l s n e) :=
  ((((Frm.refl (fun x => x = b) w).set_ (p := ⟨b, 0, none⟩) (fun _ => rfl) l).set_ (p := ⟨b, 1, none⟩) (fun _ => rfl) s).set_ (p := ⟨b, 2, none⟩) (fun _ => rfl) n).set_ (p := ⟨b, 3, none⟩) (fun _ => rfl) e
set_option maxRecDepth 100000 in
set_option maxHeartbeats 16000000 in
theorem least_any {w : World} {P : Nat → Prop} {v : Value} {m m2 : A.Mac} {f : Nat} (h : MachAt w P v m) (hf : A.Fits m) (hn : m.next.length ≤ 100000) (hl3 : m.letters ≤ 300) (hfl : f ≤ 100000) (hr : A.leastO f m = some m2) :
    Calls Try.prog 39 #[v] w fun e w' => ∃ r, e = .returned r ∧ MachAt w' (fun b => w.heap.size ≤ b) r m2 ∧ Frm (fun _ => False) w w' := by
  obtain ⟨A1, c1, A2, c2, rfl⟩ := h.form
  unfold A.leastO at hr
  split at hr
  case isFalse => cases hr
  rename_i hways
  split at hr
  · cases hr
  rename_i al hliv
  have HW := Lib.hid hways
  have HLV := Lib.hid hliv
  have HRS := Lib.hid hr
  have HFI := Lib.hid hf
  have hs1 : -1 ≤ m.start := hf.start.1
  have hs2 : m.start < (m.next.length : Int) := hf.start.2
  have HLT := Lib.hid hf.letters
  have HB0 : Hid (Blk ((w.alloc (.cells #[.int .i64 m.letters, .int .i64 m.start, .slice A1 m.next.length c1, .slice A2 m.fin.length c2] 25)).alloc (.cells #[.int .i64 0, .int .i64 0, .slice none 0 0, .slice none 0 0] 25)) w.heap.size 25 #[.int .i64 m.letters, .int .i64 m.start, .slice A1 m.next.length c1, .slice A2 m.fin.length c2]) := (Blk.new w _ _).alloc _
  have HR0 : Hid (Blk ((w.alloc (.cells #[.int .i64 m.letters, .int .i64 m.start, .slice A1 m.next.length c1, .slice A2 m.fin.length c2] 25)).alloc (.cells #[.int .i64 0, .int .i64 0, .slice none 0 0, .slice none 0 0] 25)) (w.heap.size + 1) 25 #[.int .i64 0, .int .i64 0, .slice none 0 0, .slice none 0 0]) := blk_at (by simp)
  have F0 : Frm (fun _ => False) w ((w.alloc (.cells #[.int .i64 m.letters, .int .i64 m.start, .slice A1 m.next.length c1, .slice A2 m.fin.length c2] 25)).alloc (.cells #[.int .i64 0, .int .i64 0, .slice none 0 0, .slice none 0 0] 25)) := ((Frm.refl _ w).alloc _).alloc _
  have HM := Lib.hid (h.keep0 F0)
  have HF0 := Lib.hid F0
  clear F0 hf h hways hliv hr
  go_enter Try.func39, Try.ntmps39
  go_wp2_with fail
  refine (arrivals_any HM.out HFI.out hn hl3).mono ?_
  rintro _ w1 ⟨ob, rfl, p1, f1⟩
  have HAR := Lib.hid p1
  have HB1 := Lib.hid (f1.blk HB0.out id)
  have HR1 := Lib.hid (f1.blk HR0.out id)
  have HM1 := Lib.hid (HM.out.keep0 f1)
  have HF1 := Lib.hid (HF0.out.trans f1)
  have HS0 : Hid (w.heap.size + 2 ≤ w1.heap.size) := show _ ≤ _ by have := f1.1; simpa using this
  clear p1 f1 HB0 HR0 HM HF0
  have x0 := HB1.out.cell 0
  have x1 := HB1.out.cell 1
  have x2 := HB1.out.cell 2
  have x3 := HB1.out.cell 3
  go_wp2_with fail
  refine (living_any HM1.out HFI.out hn HAR.out (A.waysOk.len HW.out) (A.waysOk.short HW.out) (A.waysOk.from_ HW.out) HLV.out hfl).mono ?_
  rintro _ w2 ⟨ga, rfl, hga, b2, hal, f2⟩
  have HAR2 := Lib.hid (Rws.frm HAR.out f2 fun _ _ _ => id)
  have HAL := Lib.hid b2
  have HALL := Lib.hid hal
  have HB2 := Lib.hid (f2.blk HB1.out id)
  have HR2 := Lib.hid (f2.blk HR1.out id)
  have HM2 := Lib.hid (HM1.out.keep0 f2)
  have HF2 := Lib.hid (HF1.out.trans f2)
  have HS2 : Hid (w.heap.size + 2 ≤ w2.heap.size) := show _ ≤ _ by have := f2.1; have := HS0.out; omega
  clear x0 x1 x2 x3 b2 f2 hga hal HAR HB1 HR1 HM1 HF1 HS0
  have hrs := HRS.out
  have x0 := HB2.out.cell 0
  have x1 := HB2.out.cell 1
  have r0 := HR2.out.cell 0
  have r1 := HR2.out.cell 1
  have r2 := HR2.out.cell 2
  have r3 := HR2.out.cell 3
  have q0 := HR2.out.frozen 0
  have q1 := HR2.out.frozen 1
  have q2 := HR2.out.frozen 2
  have q3 := HR2.out.frozen 3
  by_cases hst : m.start = -1
  · rw [if_pos hst] at hrs
    injection hrs with hrs
    subst hrs
    clear hs1 hs2
    rw [hst] at x1
    go_wp2_with fail
    refine bodyPost_ret (w := put4 w2 (w.heap.size + 1) (.int .i64 m.letters) (.int .i64 (-1)) (.slice none 0 0) (.slice none 0 0)) (v := .agg #[.int .i64 m.letters, .int .i64 (-1), .slice none 0 0, .slice none 0 0]) ?_ rfl ⟨_, rfl, ⟨_, _, rfl, ⟨none, 0, rfl, fun k hk => absurd hk (Nat.not_lt_zero _)⟩, ⟨none, 0, rfl, fun k hk => absurd hk (Nat.not_lt_zero _)⟩⟩, put4_frm HF2.out (by omega)⟩
    have h4 := put4_blk (l := .int .i64 m.letters) (s := .int .i64 (-1)) (n := .slice none 0 0) (e := .slice none 0 0) HR2.out
    generalize put4 w2 (w.heap.size + 1) (.int .i64 m.letters) (.int .i64 (-1)) (.slice none 0 0) (.slice none 0 0) = w4 at *
    have y0 := h4.cell 0
    have y1 := h4.cell 1
    have y2 := h4.cell 2
    have y3 := h4.cell 3
    simp [results, Try.results39, go_sem, y0, y1, y2, y3]
  · rw [if_neg hst] at hrs
    obtain ⟨s, hs⟩ : ∃ s : Nat, m.start = (s : Int) := ⟨m.start.toNat, by omega⟩
    rw [hs, Int.toNat_natCast] at hrs
    rw [hs] at x1 hs2
    have hal := HALL.out
    have z0 := HAL.out.cell s
    rw [boolCs_getD (by omega)] at z0
    clear hs1 hst
    cases hb : al.getD s false with
    | false =>
      rw [hb] at hrs z0
      rw [if_neg (by decide)] at hrs
      injection hrs with hrs
      subst hrs
      clear hal hb
      go_wp2_with fail
      refine bodyPost_ret (w := put4 w2 (w.heap.size + 1) (.int .i64 m.letters) (.int .i64 (-1)) (.slice none 0 0) (.slice none 0 0)) (v := .agg #[.int .i64 m.letters, .int .i64 (-1), .slice none 0 0, .slice none 0 0]) ?_ rfl ⟨_, rfl, ⟨_, _, rfl, ⟨none, 0, rfl, fun k hk => absurd hk (Nat.not_lt_zero _)⟩, ⟨none, 0, rfl, fun k hk => absurd hk (Nat.not_lt_zero _)⟩⟩, put4_frm HF2.out (by omega)⟩
      have h4 := put4_blk (l := .int .i64 m.letters) (s := .int .i64 (-1)) (n := .slice none 0 0) (e := .slice none 0 0) HR2.out
      generalize put4 w2 (w.heap.size + 1) (.int .i64 m.letters) (.int .i64 (-1)) (.slice none 0 0) (.slice none 0 0) = w4 at *
      have y0 := h4.cell 0
      have y1 := h4.cell 1
      have y2 := h4.cell 2
      have y3 := h4.cell 3
      simp [results, Try.results39, go_sem, y0, y1, y2, y3]
    | true =>
      rw [hb] at hrs z0
      rw [if_pos rfl] at hrs
      split at hrs
      · cases hrs
      rename_i d hcls
      split at hrs
      case isFalse => cases hrs
      rename_i hso
      split at hrs
      · cases hrs
      rename_i ts rows hsr
      split at hrs
      case isFalse => cases hrs
      rename_i hends
      simp only [Bool.and_eq_true, decide_eq_true_eq] at hends
      obtain ⟨hends, htl⟩ := hends
      injection hrs with hrs
      subst hrs
      have HCLS := Lib.hid hcls
      have HSO := Lib.hid hso
      have HSR := Lib.hid hsr
      have HEN := Lib.hid hends
      have HTL := Lib.hid htl
      clear htl
      have HHS := Lib.hid hs
      have x2 := HB2.out.cell 2
      have x3 := HB2.out.cell 3
      clear hcls hso hsr hends hal hb
      go_wp2_with fail
      have hcl := classes_any HM2.out HFI.out hn hl3 HAR2.out (A.waysOk.len HW.out) HAL.out HALL.out HCLS.out
      rw [HHS.out] at hcl
      refine hcl.mono ?_
      clear hcl
      rintro _ w3 ⟨pb, rfl, p3, f3⟩
      have HP3 := Lib.hid p3
      have HB3 := Lib.hid (f3.blk HB2.out id)
      have HR3 := Lib.hid (f3.blk HR2.out id)
      have HM3 := Lib.hid (HM2.out.keep0 f3)
      have HF3 := Lib.hid (HF2.out.trans f3)
      have HS3 : Hid (w2.heap.size ≤ w3.heap.size) := f3.1
      clear x0 x1 x2 x3 r0 r1 r2 r3 q0 q1 q2 q3 z0 p3 f3 HAR2 HAL HALL HB2 HR2 HM2 HF2
      go_wp2_with fail
      obtain ⟨cb, hcb⟩ : ∃ cb, cb = w3.heap.size := ⟨_, rfl⟩
      obtain ⟨L, hL⟩ : ∃ L : Nat, m.letters = (L : Int) := ⟨m.letters.toNat, by have := HLT.out; omega⟩
      obtain ⟨wb, hwb⟩ : ∃ wb, wb = w3.alloc (.cells #[.pointer (some ⟨pb, 0, none⟩)] 96) := ⟨_, rfl⟩
      have Fb : Frm (fun _ => False) w3 wb := by rw [hwb]; exact (Frm.refl _ w3).alloc _
      have k5 : wb.cell? ⟨cb, 0, none⟩ = some (.pointer (some ⟨pb, 0, none⟩)) := by rw [hwb, hcb]; exact (Blk.new w3 _ _).cell 0
      have HB4 := Lib.hid (Fb.blk HB3.out id)
      have HR4 := Lib.hid (Fb.blk HR3.out id)
      have HM4 := Lib.hid (HM3.out.keep0 Fb)
      have HP4 := Lib.hid (HP3.out.frm Fb fun _ _ _ => id)
      have HF4 := Lib.hid (HF3.out.trans Fb)
      have HS4 : Hid (w.heap.size + 2 ≤ wb.heap.size) := show _ ≤ _ by have := Fb.1; have := HS3.out; have := HS2.out; omega
      have x0 := HB4.out.cell 0
      have x1 := HB4.out.cell 1
      rw [show (#[Value.int .i64 m.letters, .int .i64 m.start, .slice A1 m.next.length c1, .slice A2 m.fin.length c2] : Array Value)[0]? = some (.int .i64 m.letters) from rfl, hL] at x0
      rw [show (#[Value.int .i64 m.letters, .int .i64 m.start, .slice A1 m.next.length c1, .slice A2 m.fin.length c2] : Array Value)[1]? = some (.int .i64 m.start) from rfl, HHS.out] at x1
      have hso := HSO.out
      simp only [A.startOk, Bool.and_eq_true, decide_eq_true_eq, HHS.out, Int.toNat_natCast] at hso
      obtain ⟨⟨⟨so1, so2⟩, so3⟩, so4⟩ := hso
      obtain ⟨vf, hv⟩ := HP4.out
      obtain ⟨g2, z2, e2, k2, _, l2, _⟩ := hv.at_ (i := 2) (j := s) (by decide) (show s < d.cls.length by omega)
      obtain ⟨A3, z3, e3, k3, _⟩ := hv.slot (i := 3) (by decide)
      rw [show (d.f 3).length = d.beg.length from rfl] at k3
      rw [show (d.f 2).length = d.cls.length from rfl] at k2
      rw [show (d.f 2).getD s 0 = d.cls.getD s 0 from rfl] at l2
      have HNX : Hid (∀ W', Frm (fun _ => False) wb W' → ∀ (x k y : Int) (W : World), A.nxt m d x k = some y → Frm (fun _ => False) W' W → okI y ∧ Calls Try.prog 61 #[.int .i64 x, .int .i64 k, .pointer (some ⟨w.heap.size, 0, none⟩), .pointer (some ⟨cb, 0, none⟩)] W fun e w' => e = .returned (.int .i64 y) ∧ Frm (fun _ => False) W w') := fun W' hW' x k y W hy hW => by
        have hF := hW'.trans hW
        obtain ⟨h1, h2⟩ := least1_q (HM4.out.keep0 hF) (hF.blk HB4.out id) (hF.cell id k5) (HP4.out.frm hF fun _ _ _ => id) hy
        exact ⟨h1, h2.mono fun e w' ⟨a, n, b⟩ => ⟨a, by rw [b]; exact (Frm.refl _ W).drewN n⟩⟩
      have HOK1 : Hid (okI (d.cls.getD s 0)) := okI_small so2 so3
      have HOK2 : Hid (okI (-1)) := okI_small (by decide) (by decide)
      have HSR2 : Hid (A.searchO (A.nxt m d) f (d.cls.getD s 0) (-1) L d.beg.length = some (ts, rows)) := by
        have := HSR.out
        rw [hL, Int.toNat_natCast] at this
        exact this
      have so1' : (s : Int) < (d.cls.length : Int) := by have := so1; omega
      have HL := Lib.hid hL
      have HSO4 : Hid (d.beg.length ≤ 1000000) := so4
      have HLL : Hid (L ≤ 300) := show _ ≤ _ by omega
      rw [← hcb, ← hwb]
      clear so1 so2 so3 so4 hv e2 e3 hwb Fb HB3 HR3 HM3 HP3 HF3 HS3 hL hcb HSR
      generalize d.cls.getD s 0 = st at *
      go_region_held3 (fun w' => w'.cell? ⟨w.heap.size, 0, none⟩ = some (.int .i64 (L : Int)) ∧ w'.cell? ⟨w.heap.size, 1, none⟩ = some (.int .i64 (s : Int)) ∧ w'.cell? ⟨cb, 0, none⟩ = some (.pointer (some ⟨pb, 0, none⟩)) ∧ w'.cell? ⟨pb, 2, none⟩ = some (.slice (some ⟨g2, 0, none⟩) d.cls.length z2) ∧ w'.cell? ⟨pb, 3, none⟩ = some (.slice A3 d.beg.length z3) ∧ w'.cell? ⟨g2, s, none⟩ = some (.int .i64 st) ∧ Frm (fun _ => False) wb w')
        (first | exact ⟨x0, x1, k5, k2, k3, l2, Frm.refl _ _⟩ | exact ⟨x0, x1, k5, k2, k3, l2, (Frm.refl _ _).drew⟩ | (go_split_ands; exact ⟨Frm.cell (by assumption) id (by assumption), Frm.cell (by assumption) id (by assumption), Frm.cell (by assumption) id (by assumption), Frm.cell (by assumption) id (by assumption), Frm.cell (by assumption) id (by assumption), Frm.cell (by assumption) id (by assumption), Frm.trans (by assumption) (by assumption)⟩))
        (first | (go_at_call 60; obtain ⟨-, -, -, -, -, -, hFx⟩ := ‹_ ∧ _ ∧ _ ∧ _ ∧ _ ∧ _ ∧ Frm (fun _ => False) wb _›; refine (searchI_any (HNX.out _ hFx) HOK1.out HOK2.out HLL.out (by omega) (by have := HSO4.out; omega) HSR2.out).mono ?_; clear hFx; rintro e w5 ⟨uT, uR, rfl, o5, r5, f5⟩))
      have F5 : Frm (fun _ => False) wb w5 := f5
      have HB5 := Lib.hid (F5.blk HB4.out id)
      have HR5 := Lib.hid (F5.blk HR4.out id)
      have HM5 := Lib.hid (HM4.out.keep0 F5)
      have HP5 := Lib.hid (HP4.out.frm F5 fun _ _ _ => id)
      have HF5 := Lib.hid (HF4.out.trans F5)
      have HS5 : Hid (w.heap.size + 2 ≤ w5.heap.size) := show _ ≤ _ by have := F5.1; have := HS4.out; omega
      have HK5 : Hid (w5.cell? ⟨cb, 0, none⟩ = some (.pointer (some ⟨pb, 0, none⟩))) := F5.cell id k5
      have HO5 : Hid (OwnInts w5 wb.heap.size uT ts) := o5
      have HRO5 : Hid (Rows2 w5 (fun b => wb.heap.size ≤ b ∧ b < w5.heap.size) uR rows) := r5.lt
      obtain ⟨AT, cT, rfl⟩ := own_form HO5.out
      clear x0 x1 k5 k2 k3 l2 o5 r5 f5 F5 HB4 HR4 HM4 HP4 HF4 HNX HOK1 HOK2 HSR2
      clear ‹_ ∧ _ ∧ _ ∧ _ ∧ _ ∧ _ ∧ Frm (fun _ => False) wb _›
      have htl := HTL.out
      have hmk := run_make_row' (P := Try.prog) 23 4 (.bool false) 1 Try.underlying23 info_bool rfl .i64 .i64 ts.length (by omega) (by omega)
      clear htl
      go_wp2_with fail
      obtain ⟨eb, heb⟩ : ∃ eb, eb = w5.heap.size := ⟨_, rfl⟩
      obtain ⟨w6, hw6⟩ : ∃ w6, w6 = w5.alloc (.cells (madeCells #[.bool false] ts.length) 4) := ⟨_, rfl⟩
      have F6 : Frm (fun b => b = eb) w5 w6 := by rw [hw6]; exact (Frm.refl _ w5).alloc _
      have HEB0 : Hid (Blk w6 eb 4 (boolCs (A.endsTo m d ts 0))) := by
        rw [hw6, heb, A.endsTo_zero, ← boolCs_made]; exact Blk.new w5 _ _
      have HF6 : Hid (Frm (fun b => b = eb) w5 w6) := F6
      have HEB : Hid (eb = w5.heap.size) := heb
      rw [← heb, ← hw6]
      clear heb hw6 F6 hmk
      go_loopg [61] (ts.length + 1) (fun n i wr => ∃ k : Nat, k ≤ ts.length ∧ n = ts.length + 1 - k ∧ i = .int .i64 (k : Int) ∧ Hid (Blk wr eb 4 (boolCs (A.endsTo m d ts k))) ∧ Hid (Frm (fun b => b = eb) w5 wr))
      case atStart => exact ⟨0, Nat.zero_le _, rfl, rfl, HEB0, HF6⟩
      case round =>
        clear HEB0 HF6
        obtain ⟨k, hk, rfl, rfl, HE, HF⟩ := hrel
        by_cases hlt : k < ts.length
        · have hlt' : (k : Int) < (ts.length : Int) := by omega
          obtain ⟨g7, rfl, hg7, l7⟩ := OwnInts.at_ (HO5.out) hlt
          have hg7' : g7 ≠ eb := by have := cell_lt l7; have := HEB.out; omega
          have l8 := HF.out.cell hg7' l7
          have hen := List.all_eq_true.1 HEN.out (ts.getD k 0) (by simp [List.getD, hlt])
          have HSET := Lib.hid (A.endsTo_succ m d ts hlt)
          simp only [A.endOk, Bool.and_eq_true, decide_eq_true_eq] at hen
          obtain ⟨⟨⟨⟨⟨n1, n2⟩, n3⟩, n4⟩, n5⟩, n6⟩ := hen
          unfold A.endOf at HSET
          generalize ts.getD k 0 = c0 at *
          obtain ⟨c, rfl⟩ : ∃ q : Nat, c0 = (q : Int) := ⟨c0.toNat, by omega⟩
          rw [Int.toNat_natCast] at n3 n4 n5 n6 HSET
          obtain ⟨b, hb⟩ : ∃ q : Nat, d.beg.getD c 0 = (q : Int) := ⟨(d.beg.getD c 0).toNat, by omega⟩
          rw [hb, Int.toNat_natCast] at n5 n6 HSET
          rw [hb] at n4
          obtain ⟨sk, hsk⟩ : ∃ q : Nat, d.row.getD b 0 = (q : Int) := ⟨(d.row.getD b 0).toNat, by omega⟩
          rw [hsk, Int.toNat_natCast] at HSET
          rw [hsk] at n6
          have hskl : sk < m.fin.length := by omega
          obtain ⟨g6, o6, rfl, l6⟩ := HM5.out.fin_at hskl
          have hg6 : g6 ≠ eb := by have := cell_lt l6; have := HEB.out; omega
          have l6' := HF.out.cell hg6 l6
          rw [show m.fin.getD sk false = m.fin[sk] by simp [hskl]] at HSET
          generalize m.fin[sk] = bo at *
          have hbx : w.heap.size ≠ eb := by have := HEB.out; have := HS5.out; omega
          have x3 := HF.out.cell hbx (HB5.out.cell 3)
          have hcb : cb ≠ eb := by have := cell_lt HK5.out; have := HEB.out; omega
          have k5 := HF.out.cell hcb HK5.out
          have HPW : Hid (Pt wr (fun b => w2.heap.size ≤ b ∧ b < w5.heap.size) pb d) := (HP5.out.mono fun b hb hs => ⟨hs, hb⟩).frm HF.out fun b _ h e => by have := HEB.out; omega
          have HONE : Hid (∀ W, Frm (fun b => b = eb) wr W → Calls Try.prog 62 #[.pointer (some ⟨pb, 0, none⟩), .int .i64 (c : Int)] W fun e w' => e = .returned (.int .i64 (sk : Int)) ∧ Frm (fun _ => False) W w') := fun W hW => by
            have := one_any (HPW.out.frm hW fun b _ h e => by have := HEB.out; omega) (k := c) (b := b) (by omega) hb (by omega)
            rw [hsk] at this
            exact this
          have hsk' : (sk : Int) < (m.fin.length : Int) := by omega
          have hel := A.endsTo_len m d ts hk
          have e1 := HE.out.cell k
          rw [boolCs_getD (by omega)] at e1
          have e2 := HE.out.frozen k
          have x3' : wr.cell? ⟨w.heap.size, 3, none⟩ = some (.slice (some ⟨g6, o6, none⟩) m.fin.length c2) := x3
          have HLX : Hid (∀ w', Lq wr w' eb k → _) := fun w' h => Lq.six x3' hbx k5 hcb l6' hg6 h
          have l0 : Lq wr wr eb k := ⟨Frm.refl _ _, _, by omega, HE.out⟩
          have HKL : Hid (k < (A.endsTo m d ts k).length) := show _ < _ by omega
          clear n1 n2 n3 n4 n5 n6 hb hsk l6 l7 hg7 hg7' hg6 hbx hcb hskl hel e1 e2 x3
          go_wp2_with fail
          go_region_held3 (fun w' => w'.cell? ⟨w.heap.size, 3, none⟩ = some (.slice (some ⟨g6, o6, none⟩) m.fin.length c2) ∧ w'.cell? ⟨cb, 0, none⟩ = some (.pointer (some ⟨pb, 0, none⟩)) ∧ w'.cell? ⟨g6, o6 + sk, none⟩ = some (.bool bo) ∧ w'.cell? ⟨eb, k, none⟩ = some (held w' ⟨eb, k, none⟩) ∧ w'.frozen? ⟨eb, k, none⟩ = false ∧ Lq wr w' eb k)
            (first | exact HLX.out _ l0 | exact HLX.out _ (l0.call (Frm.refl _ _).drew) | exact HLX.out _ (by assumption) | exact HLX.out _ (Lq.put (by assumption) _))
            (first | (go_at_call 62; obtain ⟨-, -, -, -, -, hLx⟩ := ‹_ ∧ _ ∧ _ ∧ _ ∧ _ ∧ Lq wr _ eb k›; refine (HONE.out _ hLx.1).mono ?_; rintro e w7 ⟨rfl, f7⟩; have hL7 := hLx.call f7))
          have HE7 : Hid (Blk (w7.setCell ⟨eb, k, none⟩ (.bool bo)) eb 4 (boolCs (A.endsTo m d ts (k + 1)))) := show Blk _ _ _ _ by
            have h7 : Blk w7 eb 4 (boolCs (A.endsTo m d ts k)) := Frm.blk f7 HE.out.drew id
            have := h7.set_ k (.bool bo)
            rw [boolCs_set, HSET.out] at this
            exact this
          have HF7 : Hid (Frm (fun b => b = eb) w5 (w7.setCell ⟨eb, k, none⟩ (.bool bo))) := (HF.out.trans (f7.mono fun _ _ h => h.elim)).set_ (p := ⟨eb, k, none⟩) (fun _ => rfl) _
          have hkb : (k : Int) + 1 ≤ 1000001 := by have := HTL.out; omega
          clear l0 hLx hL7 f7 HLX x3' k5 l6' l8
          clear ‹_ ∧ _ ∧ _ ∧ _ ∧ _ ∧ Lq wr _ eb k›
          go_wp2_with fail
          go_roundg (ts.length + 1 - (k + 1))
          case measure => omega
          case rel => exact ⟨k + 1, by omega, rfl, (by have := HTL.out; go_num), HE7, HF7⟩
        · have hkk : k = ts.length := by omega
          subst hkk
          have hlt' : ¬ (ts.length : Int) < (ts.length : Int) := by omega
          have hbx : w.heap.size ≠ eb := by have := HEB.out; have := HS5.out; omega
          have hrx : w.heap.size + 1 ≠ eb := by have := HEB.out; have := HS5.out; omega
          have x0 := HF.out.cell hbx (HB5.out.cell 0)
          have x0' : wr.cell? ⟨w.heap.size, 0, none⟩ = some (.int .i64 m.letters) := x0
          have HRX := Lib.hid (HF.out.blk HR5.out hrx)
          have r0 := HRX.out.cell 0
          have r1 := HRX.out.cell 1
          have r2 := HRX.out.cell 2
          have r3 := HRX.out.cell 3
          have q0 := HRX.out.frozen 0
          have q1 := HRX.out.frozen 1
          have q2 := HRX.out.frozen 2
          have q3 := HRX.out.frozen 3
          have HEE : Hid (Blk wr eb 4 (boolCs (ts.map (A.endOf m d)))) := show Blk _ _ _ _ by rw [← A.endsTo_all]; exact HE.out
          obtain ⟨AR, cR, rfl, hRR⟩ := HRO5.out
          have HRR := Lib.hid hRR
          clear x0 hlt hk HE hRR
          go_wp2_with fail
          have h4 := put4_blk (l := .int .i64 m.letters) (s := .int .i64 0) (n := .slice AR rows.length cR) (e := .slice (some ⟨eb, 0, none⟩) ts.length ts.length) HRX.out
          have h5 := put4_frm1 (w := wr) (b := w.heap.size + 1) (l := .int .i64 m.letters) (s := .int .i64 0) (n := .slice AR rows.length cR) (e := .slice (some ⟨eb, 0, none⟩) ts.length ts.length)
          refine bodyPost_ret (w := put4 wr (w.heap.size + 1) (.int .i64 m.letters) (.int .i64 0) (.slice AR rows.length cR) (.slice (some ⟨eb, 0, none⟩) ts.length ts.length)) (v := .agg #[.int .i64 m.letters, .int .i64 0, .slice AR rows.length cR, .slice (some ⟨eb, 0, none⟩) ts.length ts.length]) ?_ rfl ⟨_, rfl, ⟨_, _, rfl, ?_, ?_⟩, ?_⟩
          · generalize put4 wr (w.heap.size + 1) (.int .i64 m.letters) (.int .i64 0) (.slice AR rows.length cR) (.slice (some ⟨eb, 0, none⟩) ts.length ts.length) = w4 at *
            have y0 := h4.cell 0
            have y1 := h4.cell 1
            have y2 := h4.cell 2
            have y3 := h4.cell 3
            simp [results, Try.results39, go_sem, y0, y1, y2, y3]
          · have hk := (HRO5.out.keep HF.out fun b hb e => by have := HEB.out; omega).keep h5 fun b hb e => by have := HS4.out; omega
            obtain ⟨A9, c9, e9, h9⟩ := hk
            refine ⟨A9, c9, e9, fun k hk => ?_⟩
            obtain ⟨g, o, rv, a1, a2, a3, A8, c8, e8, h8⟩ := h9 k hk
            refine ⟨g, o, rv, a1, (by have := a2.1; have := HS4.out; omega), a3, A8, c8, e8, fun j hj => ?_⟩
            obtain ⟨g', o', b1, b2, b3⟩ := h8 j hj
            exact ⟨g', o', b1, (by have := b2.1; have := HS4.out; omega), b3⟩
          · have hb := h5.blk HEE.out (Ne.symm hrx)
            refine ⟨some ⟨eb, 0, none⟩, ts.length, by simp, fun k hk => ⟨eb, 0, rfl, (by have := HEB.out; have := HS5.out; omega), ?_⟩⟩
            rw [Nat.zero_add, hb.cell k, boolCs_getD hk]
            have hk2 : k < (ts.map (A.endOf m d)).length := hk
            congr 2
            show (ts.map (A.endOf m d)).getD k false = (ts.map (A.endOf m d))[k]
            generalize ts.map (A.endOf m d) = l at *
            simp [hk2]
          · have := (HF5.out.mono (E' := fun b => b = eb) fun _ _ h => h.elim).trans HF.out
            refine put4_frm (this.mono fun b hb e => ?_) (by omega)
            have := HEB.out
            have := HS5.out
            omega
end Go.Proofs.Ytiekaicbjinbaaa
end
section
namespace Go.Proofs.Ytiekaicbjinbaaa
open Go.RowKit
namespace A
/-- What a letter leads a pair to; none where it isn't one of the machines'. -/
def nxtP (a b : Mac) (p : Pr) (k : Int) : Option Pr := if -1 ≤ p.1 ∧ p.1 < a.next.length ∧ -1 ≤ p.2 ∧ p.2 < b.next.length ∧ 0 ≤ k ∧ k < a.letters then some (leadP a b p k) else none
end A
theorem okP_small {p : A.Pr} (h : BPr p) : okP p := ⟨okI_small (by have := h.1; omega) (by have := h.2.1; omega), okI_small (by have := h.2.2.1; omega) (by have := h.2.2.2; omega)⟩
theorem BPr.of_in {a b : A.Mac} {p : A.Pr} (ht : A.Two a b) (h : A.InP a b p) : BPr p := by
  obtain ⟨⟨h1, h2⟩, h3, h4⟩ := h
  have := ht.na
  have := ht.nb
  exact ⟨h1, by omega, h3, by omega⟩
theorem leadP_in {a b : A.Mac} {p : A.Pr} {k : Int} (ht : A.Two a b) (h : A.InP a b p) (h0 : 0 ≤ k) (hk : k < a.letters) : A.InP a b (A.leadP a b p k) := ⟨ht.fa.lead h.1 h0 hk, ht.fb.lead h.2 h0 (by have := ht.ll; omega)⟩
theorem own_base_ {w : World} {base base' n : Nat} {e : TypeId} {sz : Nat} {v : Value} {xs : List Value} (h : w.ownsRow base e sz v n xs) (hb : base' ≤ base) : w.ownsRow base' e sz v n xs := by
  refine ⟨h.1, ?_⟩
  rcases h.2 with h2 | ⟨g, cap, cur, e, h3, h4⟩
  · exact .inl h2
  · exact .inr ⟨g, cap, cur, e, Nat.le_trans hb h3, h4⟩
theorem own_some {w : World} {base n : Nat} {e : TypeId} {sz : Nat} {v : Value} {xs : List Value} (h : w.ownsRow base e sz v n xs) (hn : 0 < n) : ∃ g cap, v = .slice (some ⟨g, 0, none⟩) n cap ∧ base ≤ g := by
  rcases h.2 with ⟨_, h0⟩ | ⟨g, cap, cur, e, h3, h4⟩
  · omega
  · exact ⟨g, cap, e, h3⟩
set_option maxRecDepth 100000 in
set_option maxHeartbeats 8000000 in
theorem relate_yes {w : World} {P Q : Nat → Prop} {v v' : Value} {a b : A.Mac} {f : Nat} {zs : List DP} {rows : List (List Int)} (h : MachAt w P v a) (h' : MachAt w Q v' b) (hs : Sized a) (hs' : Sized b) (hfit : A.fit a b = 0) (ht : A.Two a b) (he : A.diffO f a b = some none) (hf : f ≤ 100000) (hst : a.start ≠ -1) (hsr : A.searchO (A.nxtP a b) f (a.start, b.start) (-1, -1) a.letters.toNat 20000 = some (zs.map (·.1), rows)) (hz : zs.length ≤ 4) (hz0 : 0 < zs.length) :
    Calls Try.prog 13 #[v, v'] w fun e w' => ∃ u, ∃ zs' : List DP, e = .returned (.tuple #[u, .int .i64 0]) ∧ zs'.Perm zs ∧ zs'.Pairwise (fun x y => ltOf cfP y x = false) ∧ w'.ownsRow w.heap.size 40 2 u zs.length (zs'.flatMap encP) ∧ Frm (fun _ => False) w w' := by
  obtain ⟨A1, c1, A2, c2, rfl⟩ := h.form
  obtain ⟨B1, d1, B2, d2, rfl⟩ := h'.form
  have HB0 : Hid (Bx w _ (macC a A1 c1 A2 c2) (macC b B1 d1 B2 d2)) := Bx.new w _ _
  have HM := Lib.hid h
  have HM' := Lib.hid h'
  have HSZ := Lib.hid hs
  have HSZ' := Lib.hid hs'
  have HE := Lib.hid he
  have HT := Lib.hid ht
  have HFIT := Lib.hid hfit
  have HST := Lib.hid hst
  have HSR := Lib.hid hsr
  have HZ := Lib.hid hz
  have HZ0 := Lib.hid hz0
  have e0 := HB0.out.ba.cell 0
  have e1 := HB0.out.ba.cell 1
  have e2 := HB0.out.ba.cell 2
  have e3 := HB0.out.ba.cell 3
  have g0 := HB0.out.bb.cell 0
  have g1 := HB0.out.bb.cell 1
  have g2 := HB0.out.bb.cell 2
  have g3 := HB0.out.bb.cell 3
  simp only [macC] at e0 e1 e2 e3 g0 g1 g2 g3
  clear h h' hs hs' he ht hfit hst hsr hz hz0
  go_enter Try.func13, Try.ntmps13
  go_wp2_with fail
  refine (fit_any (HM.out.keep0 HB0.out.fr) (HM'.out.keep0 HB0.out.fr) HSZ.out HSZ'.out).mono ?_
  rintro _ w1 ⟨rfl, f1⟩
  have HB1 := Lib.hid (HB0.out.call f1)
  rw [HFIT.out]
  clear e0 e1 e2 e3 g0 g1 g2 g3 f1 HB0
  have e0 := HB1.out.ba.cell 0
  have e1 := HB1.out.ba.cell 1
  have e2 := HB1.out.ba.cell 2
  have e3 := HB1.out.ba.cell 3
  have g0 := HB1.out.bb.cell 0
  have g1 := HB1.out.bb.cell 1
  have g2 := HB1.out.bb.cell 2
  have g3 := HB1.out.bb.cell 3
  simp only [macC] at e0 e1 e2 e3 g0 g1 g2 g3
  go_wp2_with fail
  refine (diff_any (HM.out.keep0 HB1.out.fr) (HM'.out.keep0 HB1.out.fr) HT.out HE.out hf).mono ?_
  rintro _ w2 ⟨rfl, f2⟩
  have HB2 := Lib.hid (HB1.out.call f2)
  clear e0 e1 e2 e3 g0 g1 g2 g3 f2 HB1
  have HB3 := Lib.hid (HB2.out.call ((Frm.refl _ w2).alloc (.cells #[.int .i64 0, .int .i64 0] 40)))
  have e0 := HB3.out.ba.cell 0
  have e1 := HB3.out.ba.cell 1
  have e2 := HB3.out.ba.cell 2
  have e3 := HB3.out.ba.cell 3
  have g0 := HB3.out.bb.cell 0
  have g1 := HB3.out.bb.cell 1
  have g2 := HB3.out.bb.cell 2
  have g3 := HB3.out.bb.cell 3
  simp only [macC] at e0 e1 e2 e3 g0 g1 g2 g3
  simp only [pairV]
  go_wp2_with fail
  refine (starts_any (HM.out.keep0 HB3.out.fr) (HM'.out.keep0 HB3.out.fr)).mono ?_
  rintro _ w3 ⟨rfl, f3⟩
  have HB4 := Lib.hid (HB3.out.call f3)
  clear e0 e1 e2 e3 g0 g1 g2 g3 f3 HB2 HB3
  simp only [pairV]
  go_wp2_with fail
  refine (nowhere_any w3).mono ?_
  rintro _ w4 ⟨rfl, f4⟩
  have HB5 := Lib.hid (HB4.out.call f4)
  clear f4 HB4
  have e0 := HB5.out.ba.cell 0
  have e1 := HB5.out.ba.cell 1
  have e2 := HB5.out.ba.cell 2
  have e3 := HB5.out.ba.cell 3
  have g0 := HB5.out.bb.cell 0
  have g1 := HB5.out.bb.cell 1
  have g2 := HB5.out.bb.cell 2
  have g3 := HB5.out.bb.cell 3
  simp only [macC] at e0 e1 e2 e3 g0 g1 g2 g3
  have hne : ¬ a.start = -1 := HST.out
  simp only [pairV]
  go_wp2_with fail
  clear hne
  obtain ⟨L, hL⟩ : ∃ L : Nat, a.letters = (L : Int) := ⟨a.letters.toNat, by have := HT.out.fa.letters; omega⟩
  have HL := Lib.hid hL
  have HINS : Hid (A.InP a b (a.start, b.start)) := ⟨HT.out.fa.start, HT.out.fb.start⟩
  have HOK1 : Hid (okP (a.start, b.start)) := okP_small (BPr.of_in HT.out HINS.out)
  have HOK2 : Hid (okP (-1, -1)) := okP_small (by unfold BPr; decide)
  have HSR2 : Hid (A.searchO (A.nxtP a b) f (a.start, b.start) (-1, -1) L 20000 = some (zs.map (·.1), rows)) := by
    have := HSR.out
    rw [hL, Int.toNat_natCast] at this
    exact this
  have HLL : Hid (L ≤ 300) := show _ ≤ _ by have := HT.out.la; omega
  have HNX : Hid (∀ W', Frm (fun _ => False) w4 W' → ∀ (x : A.Pr) (k : Int) (y : A.Pr) (W : World), A.nxtP a b x k = some y → Frm (fun _ => False) W' W → okP y ∧ Calls Try.prog 32 #[pairV x, .int .i64 k, .pointer (some ⟨w.heap.size, 0, none⟩), .pointer (some ⟨w.heap.size + 1, 0, none⟩)] W fun e w' => e = .returned (pairV y) ∧ Frm (fun _ => False) W w') := fun W' hW' x k y W hy hW => by
    have hF := hW'.trans hW
    have hB := HB5.out.call hF
    unfold A.nxtP at hy
    split at hy
    case isFalse => cases hy
    rename_i hin
    injection hy with hy
    subst hy
    have hI : A.InP a b x := ⟨⟨hin.1, hin.2.1⟩, hin.2.2.1, hin.2.2.2.1⟩
    exact ⟨okP_small (BPr.of_in HT.out (leadP_in HT.out hI hin.2.2.2.2.1 hin.2.2.2.2.2)), relate1_any hB.ba hB.bb (HM.out.keep0 hB.fr) (HM'.out.keep0 hB.fr) HT.out x k hI hin.2.2.2.2.1 hin.2.2.2.2.2⟩
  have e0' : w4.cell? ⟨w.heap.size, 0, none⟩ = some (.int .i64 (L : Int)) := by rw [e0, ← hL]; rfl
  have e1' : w4.cell? ⟨w.heap.size, 1, none⟩ = some (.int .i64 a.start) := e1
  have e2' : w4.cell? ⟨w.heap.size, 2, none⟩ = some (.slice A1 a.next.length c1) := e2
  have e3' : w4.cell? ⟨w.heap.size, 3, none⟩ = some (.slice A2 a.fin.length c2) := e3
  have g0' : w4.cell? ⟨w.heap.size + 1, 0, none⟩ = some (.int .i64 b.letters) := g0
  have g1' : w4.cell? ⟨w.heap.size + 1, 1, none⟩ = some (.int .i64 b.start) := g1
  have g2' : w4.cell? ⟨w.heap.size + 1, 2, none⟩ = some (.slice B1 b.next.length d1) := g2
  have g3' : w4.cell? ⟨w.heap.size + 1, 3, none⟩ = some (.slice B2 b.fin.length d2) := g3
  have HSTA : Hid (∀ W, Frm (fun _ => False) w4 W → Calls Try.prog 29 #[.agg #[.int .i64 (L : Int), .int .i64 a.start, .slice A1 a.next.length c1, .slice A2 a.fin.length c2], .agg #[.int .i64 b.letters, .int .i64 b.start, .slice B1 b.next.length d1, .slice B2 b.fin.length d2]] W fun e w' => e = .returned (pairV (a.start, b.start)) ∧ Frm (fun _ => False) W w') := fun W hW => by
    rw [← hL]
    exact starts_any (HM.out.keep0 (HB5.out.fr.trans hW)) (HM'.out.keep0 (HB5.out.fr.trans hW))
  have HKK : Hid (∀ W, Frm (fun _ => False) w4 W → _) := fun W hW => (⟨hW.cell id e0', hW.cell id e1', hW.cell id e2', hW.cell id e3', hW.cell id g0', hW.cell id g1', hW.cell id g2', hW.cell id g3', hW⟩ : W.cell? ⟨w.heap.size, 0, none⟩ = some (.int .i64 (L : Int)) ∧ W.cell? ⟨w.heap.size, 1, none⟩ = some (.int .i64 a.start) ∧ W.cell? ⟨w.heap.size, 2, none⟩ = some (.slice A1 a.next.length c1) ∧ W.cell? ⟨w.heap.size, 3, none⟩ = some (.slice A2 a.fin.length c2) ∧ W.cell? ⟨w.heap.size + 1, 0, none⟩ = some (.int .i64 b.letters) ∧ W.cell? ⟨w.heap.size + 1, 1, none⟩ = some (.int .i64 b.start) ∧ W.cell? ⟨w.heap.size + 1, 2, none⟩ = some (.slice B1 b.next.length d1) ∧ W.cell? ⟨w.heap.size + 1, 3, none⟩ = some (.slice B2 b.fin.length d2) ∧ Frm (fun _ => False) w4 W)
  clear e0 e1 e2 e3 g0 g1 g2 g3 hL
  go_region_held3 (fun w' => w'.cell? ⟨w.heap.size, 0, none⟩ = some (.int .i64 (L : Int)) ∧ w'.cell? ⟨w.heap.size, 1, none⟩ = some (.int .i64 a.start) ∧ w'.cell? ⟨w.heap.size, 2, none⟩ = some (.slice A1 a.next.length c1) ∧ w'.cell? ⟨w.heap.size, 3, none⟩ = some (.slice A2 a.fin.length c2) ∧ w'.cell? ⟨w.heap.size + 1, 0, none⟩ = some (.int .i64 b.letters) ∧ w'.cell? ⟨w.heap.size + 1, 1, none⟩ = some (.int .i64 b.start) ∧ w'.cell? ⟨w.heap.size + 1, 2, none⟩ = some (.slice B1 b.next.length d1) ∧ w'.cell? ⟨w.heap.size + 1, 3, none⟩ = some (.slice B2 b.fin.length d2) ∧ Frm (fun _ => False) w4 w')
    (first | exact HKK.out _ (Frm.refl _ _) | exact HKK.out _ (Frm.refl _ _).drew | exact HKK.out _ (Frm.trans (E := fun _ => False) (w := w4) (Frm.trans (E := fun _ => False) (w := w4) f5 f6) f7) | exact HKK.out _ (Frm.trans (E := fun _ => False) (w := w4) f5 f6) | exact HKK.out _ f5)
    (first | (go_at_call 29; obtain ⟨-, -, -, -, -, -, -, -, hFx⟩ := ‹_ ∧ _ ∧ _ ∧ _ ∧ _ ∧ _ ∧ _ ∧ _ ∧ Frm (fun _ => False) w4 _›; refine (HSTA.out _ hFx).mono ?_; clear hFx; rintro e w5 ⟨rfl, f5⟩) | (go_at_call 30; refine (nowhere_any _).mono ?_; rintro e w6 ⟨rfl, f6⟩) | (go_at_call 31; have hFx := Frm.trans (E := fun _ => False) (w := w4) f5 f6; refine (searchP_any (HNX.out _ hFx) HOK1.out HOK2.out HLL.out (by omega) (by omega) HSR2.out).mono ?_; clear hFx; rintro e w7 ⟨uT, uR, rfl, o7, r7, f7⟩))
  all_goals
    have F7 := Frm.trans (E := fun _ => False) (w := w4) (Frm.trans (E := fun _ => False) (w := w4) f5 f6) f7
    have HF7 := Lib.hid (HB5.out.fr.trans F7)
    have hsz : w.heap.size ≤ w6.heap.size := by have := HB5.out.fr.1; have := (Frm.trans (E := fun _ => False) (w := w4) f5 f6).1; omega
    rw [List.length_map, List.flatMap_map] at o7
    have HO7 : Hid (w7.ownsRow w.heap.size 40 2 uT zs.length (zs.flatMap encP)) := own_base_ o7 hsz
    obtain ⟨g, cap, rfl, hg⟩ := own_some HO7.out HZ0.out
    clear o7 r7 f5 f6 f7 F7 hsz HKK HNX HSTA e0' e1' e2' e3' g0' g1' g2' g3'
    clear ‹_ ∧ _ ∧ _ ∧ _ ∧ _ ∧ _ ∧ _ ∧ _ ∧ Frm (fun _ => False) w4 _›
    go_wp2_with fail
    refine (sortP_any HO7.out HZ.out).mono ?_
    rintro _ w8 ⟨rfl, zs', hp, hs, ho, f8⟩
    have HP := Lib.hid hp
    have HS := Lib.hid hs
    have HO8 := Lib.hid ho
    have HF8 : Hid (Frm (fun _ => False) w w8) := Frm.mono (E := fun b => w.heap.size ≤ b) ((HF7.out.mono fun _ _ h => h.elim).trans (f8.mono fun b _ h => by omega)) fun b hb h => by omega
    clear hp hs ho f8
    go_wp2_with fail
    refine bodyPost_ret (v := .tuple #[.slice (some ⟨g, 0, none⟩) zs.length cap, .int .i64 0]) (by simp [results, Try.results13, go_sem]) rfl ?_
    exact ⟨_, zs', rfl, HP.out, HS.out, HO8.out, HF8.out⟩
end Go.Proofs.Ytiekaicbjinbaaa
end
section
namespace Go.Proofs.Ytiekaicbjinbaaa.A
theorem nodup_nat : ∀ (N : Nat) (l : List Nat), l.Nodup → (∀ x ∈ l, x < N) → l.length ≤ N
  | 0, l, _, h => by
    rcases l with _ | ⟨x, r⟩
    · exact Nat.le_refl _
    · exact absurd (h x List.mem_cons_self) (by omega)
  | N + 1, l, hn, h => by
    have h1 := nodup_nat N (l.erase N) (hn.erase N) fun x hx => by
      have h2 := h x (List.mem_of_mem_erase hx)
      have h3 : x ≠ N := fun e => by subst e; exact (hn.not_mem_erase) hx
      omega
    have h4 : l.length ≤ (l.erase N).length + 1 := by
      rw [List.length_erase]
      split <;> omega
    omega
theorem nodup_in {a b : Mac} {l : List Pr} (hn : l.Nodup) (h : ∀ p ∈ l, InP a b p) : l.length ≤ (1 + a.next.length) * (1 + b.next.length) := by
  have h1 := nodup_nat ((1 + a.next.length) * (1 + b.next.length)) (l.map fun p => (place b.next.length p).toNat) ?_ ?_
  · simpa using h1
  · rw [List.nodup_iff_pairwise_ne, List.pairwise_map]
    refine (List.Pairwise.and_mem.1 (List.nodup_iff_pairwise_ne.1 hn)).imp fun {x y} hxy e => hxy.2.2 ?_
    have hx := place_in (h x hxy.1)
    have hy := place_in (h y hxy.2.1)
    exact place_inj (h x hxy.1) (h y hxy.2.1) (by omega)
  · intro x hx
    obtain ⟨p, hp, rfl⟩ := List.mem_map.1 hx
    have h1 := place_in (h p hp)
    have h2 : (((1 + a.next.length) * (1 + b.next.length) : Nat) : Int) = (1 + (a.next.length : Int)) * (1 + b.next.length) := by simp
    omega
/-- A pair that a word leads to, not nowhere twice. -/
def GoodP (a b : Mac) (z : Pr) : Prop := InP a b z ∧ z ≠ (-1, -1) ∧ ∃ w, OkW a w ∧ z = runP a b (a.start, b.start) w
theorem GoodP.lead {a b : Mac} (h2 : Two a b) {z : Pr} (h : GoodP a b z) {k : Int} (h0 : 0 ≤ k) (hk : k < a.letters) (hne : leadP a b z k ≠ (-1, -1)) : GoodP a b (leadP a b z k) := by
  obtain ⟨h1, _, w, hw, e⟩ := h
  refine ⟨h2.lead h1 h0 hk, hne, w ++ [k], hw.app fun x hx => by rw [List.mem_singleton.1 hx]; exact ⟨h0, hk⟩, ?_⟩
  rw [runP_snoc, e]
structure Fd (a b : Mac) (ts : List Pr) : Prop where
  nd : ts.Nodup
  good : ∀ z ∈ ts, GoodP a b z
theorem Fd.len {a b : Mac} {ts : List Pr} (h : Fd a b ts) : ts.length ≤ (1 + a.next.length) * (1 + b.next.length) := nodup_in h.nd fun z hz => (h.good z hz).1
theorem Fd.num {a b : Mac} {ts : List Pr} (h : Fd a b ts) {y : Pr} (hy : y ≠ (-1, -1) → GoodP a b y) : Fd a b (numO (-1, -1) y ts).2 ∧ (∀ z ∈ ts, z ∈ (numO (-1, -1) y ts).2) ∧ (∀ (i : Nat) (z : Pr), ts[i]? = some z → (numO (-1, -1) y ts).2[i]? = some z) ∧ (y = (-1, -1) ∨ y ∈ (numO (-1, -1) y ts).2) := by
  unfold numO
  by_cases e : y = (-1, -1)
  · rw [if_pos e]
    exact ⟨h, fun _ h => h, fun _ _ h => h, .inl e⟩
  · rw [if_neg e]
    by_cases hm : y ∈ ts
    · rw [if_pos hm]
      exact ⟨h, fun _ h => h, fun _ _ h => h, .inr hm⟩
    · rw [if_neg hm]
      refine ⟨⟨?_, fun z hz => ?_⟩, fun z hz => List.mem_append.2 (.inl hz), fun i z hz => ?_, .inr (List.mem_append.2 (.inr List.mem_cons_self))⟩
      · rw [List.nodup_append]
        exact ⟨h.nd, by simp, fun x hx z hz e' => hm (by rw [List.mem_singleton.1 hz] at e'; rw [← e']; exact hx)⟩
      · rcases List.mem_append.1 hz with hz | hz
        · exact h.good z hz
        · rw [List.mem_singleton.1 hz]; exact hy e
      · have hi : i < ts.length := (List.getElem?_eq_some_iff.1 hz).1
        rw [List.getElem?_append_left hi]; exact hz
theorem rowS_ok {a b : Mac} (h2 : Two a b) (hN : (1 + a.next.length) * (1 + b.next.length) ≤ 20000) {x : Pr} (hx : GoodP a b x) : ∀ (ks : List Nat) (ts : List Pr) (row : List Int), (∀ k ∈ ks, (k : Int) < a.letters) → Fd a b ts →
    ∃ ts' row', rowS (nxtP a b) (-1, -1) 20000 x ks ts row = some (ts', row') ∧ Fd a b ts' ∧ (∀ z ∈ ts, z ∈ ts') ∧ (∀ (i : Nat) (z : Pr), ts[i]? = some z → ts'[i]? = some z) ∧ ∀ k ∈ ks, leadP a b x k = (-1, -1) ∨ leadP a b x k ∈ ts'
  | [], ts, row, _, hF => ⟨ts, row, rfl, hF, fun _ h => h, fun _ _ h => h, fun _ h => by cases h⟩
  | k :: ks, ts, row, hk, hF => by
    have hkk := hk k List.mem_cons_self
    obtain ⟨⟨h3, h4⟩, h5, h6⟩ := hx.1
    have hnx : nxtP a b x (k : Int) = some (leadP a b x k) := by
      unfold nxtP
      rw [if_pos ⟨h3, h4, h5, h6, by omega, hkk⟩]
    unfold rowS
    rw [hnx]
    dsimp only
    obtain ⟨g1, g2, g3, g4⟩ := hF.num (y := leadP a b x k) fun hne => hx.lead h2 (by omega) hkk hne
    have hl := g1.len
    rw [if_neg (by omega)]
    obtain ⟨ts', row', e1, e2, e3, e4, e5⟩ := rowS_ok h2 hN hx ks _ (row ++ [(numO (-1, -1) (leadP a b x k) ts).1]) (fun k hk' => hk k (List.mem_cons_of_mem _ hk')) g1
    refine ⟨ts', row', e1, e2, fun z hz => e3 z (g2 z hz), fun i z hz => e4 i z (g3 i z hz), fun k' hk' => ?_⟩
    rcases List.mem_cons.1 hk' with rfl | hk'
    · rcases g4 with g4 | g4
      · exact .inl g4
      · exact .inr (e3 _ g4)
    · exact e5 k' hk'
theorem srchO_ok {a b : Mac} (h2 : Two a b) (hN : (1 + a.next.length) * (1 + b.next.length) ≤ 20000) : ∀ (f at_ : Nat) (ts : List Pr) (rows : List (List Int)), Fd a b ts → (1 + a.next.length) * (1 + b.next.length) ≤ f + at_ → (∀ i, i < at_ → ∀ z, ts[i]? = some z → ∀ k : Nat, (k : Int) < a.letters → leadP a b z k = (-1, -1) ∨ leadP a b z k ∈ ts) →
    ∃ ts' rows', srchO (nxtP a b) (-1, -1) a.letters.toNat 20000 f at_ ts rows = some (ts', rows') ∧ Fd a b ts' ∧ (∀ z ∈ ts, z ∈ ts') ∧ ∀ z ∈ ts', ∀ k : Nat, (k : Int) < a.letters → leadP a b z k = (-1, -1) ∨ leadP a b z k ∈ ts'
  | f, at_, ts, rows, hF, hf, hc => by
    unfold srchO
    by_cases hlt : at_ < ts.length
    · rw [dif_pos hlt]
      have hl := hF.len
      match f, hf with
      | 0, hf => omega
      | f + 1, hf =>
        dsimp only
        obtain ⟨ts1, row1, e1, e2, e3, e4, e5⟩ := rowS_ok h2 hN (hF.good _ (List.getElem_mem hlt)) (List.range a.letters.toNat) ts [] (fun k hk => by have := List.mem_range.1 hk; omega) hF
        rw [e1]
        dsimp only
        obtain ⟨ts', rows', d1, d2, d3, d4⟩ := srchO_ok h2 hN f (at_ + 1) ts1 (rows ++ [row1]) e2 (by omega) fun i hi z hz k hk => by
          by_cases e : i = at_
          · subst e
            have hz' := e4 i ts[i] (List.getElem?_eq_getElem hlt)
            rw [hz'] at hz
            injection hz with hz
            subst hz
            exact e5 k (List.mem_range.2 (by omega))
          · have hi' : i < ts.length := by omega
            have hz' := e4 i ts[i] (List.getElem?_eq_getElem hi')
            rw [hz'] at hz
            injection hz with hz
            subst hz
            rcases hc i (by omega) _ (List.getElem?_eq_getElem hi') k hk with h | h
            · exact .inl h
            · exact .inr (e3 _ h)
        exact ⟨ts', rows', d1, d2, fun z hz => d3 z (e3 z hz), d4⟩
    · rw [dif_neg hlt]
      refine ⟨ts, rows, rfl, hF, fun _ h => h, fun z hz k hk => ?_⟩
      obtain ⟨i, hi, rfl⟩ := List.getElem_of_mem hz
      exact hc i (by omega) _ (List.getElem?_eq_getElem hi) k hk
theorem search_ok {a b : Mac} (h2 : Two a b) (hN : (1 + a.next.length) * (1 + b.next.length) ≤ 20000) (hst : (a.start, b.start) ≠ (-1, -1)) {f : Nat} (hf : 20000 ≤ f) :
    ∃ ts rows, searchO (nxtP a b) f (a.start, b.start) (-1, -1) a.letters.toNat 20000 = some (ts, rows) ∧ Fd a b ts ∧ (a.start, b.start) ∈ ts ∧ ∀ z ∈ ts, ∀ k : Nat, (k : Int) < a.letters → leadP a b z k = (-1, -1) ∨ leadP a b z k ∈ ts := by
  have hF : Fd a b [(a.start, b.start)] := ⟨by simp, fun z hz => by
    rw [List.mem_singleton.1 hz]
    exact ⟨⟨h2.fa.start, h2.fb.start⟩, hst, [], (fun k hk => by cases hk), rfl⟩⟩
  unfold searchO
  have e : (numO (-1, -1) (a.start, b.start) []).2 = [(a.start, b.start)] := by
    unfold numO
    rw [if_neg hst]
    simp
  rw [e]
  obtain ⟨ts', rows', d1, d2, d3, d4⟩ := srchO_ok h2 hN f 0 [(a.start, b.start)] [] hF (by omega) fun i hi => by omega
  exact ⟨ts', rows', d1, d2, d3 _ List.mem_cons_self, d4⟩
theorem ord_lt {x y : Pr} (h : ¬ ord y x < 0) (hne : x ≠ y) : ord x y < 0 := by
  obtain ⟨x1, x2⟩ := x
  obtain ⟨y1, y2⟩ := y
  unfold ord at h ⊢
  dsimp only at h ⊢
  by_cases e : x1 = y1
  · subst e
    have hne2 : x2 ≠ y2 := fun e => hne (by rw [e])
    rw [if_neg (by simp)] at h ⊢
    omega
  · rw [if_pos e]
    rw [if_pos (fun e' => e e'.symm)] at h
    omega
theorem rel_sorted {a b : Mac} : ∀ (l : List Pr) (last : Pr), (∀ p ∈ l, InP a b p) → l.Nodup → l.Pairwise (fun x y => ¬ ord y x < 0) → (∀ p ∈ l, ord last p < 0) → relFrom a b last l = true
  | [], _, _, _, _, _ => rfl
  | p :: l, last, hi, hn, hs, hl => by
    unfold relFrom
    rw [Bool.and_eq_true, Bool.and_eq_true]
    refine ⟨okPair_in.2 (hi p List.mem_cons_self), by simpa using hl p List.mem_cons_self, rel_sorted l p (fun q hq => hi q (List.mem_cons_of_mem _ hq)) (List.nodup_cons.1 hn).2 (List.pairwise_cons.1 hs).2 fun q hq => ?_⟩
    exact ord_lt ((List.pairwise_cons.1 hs).1 q hq) fun e => (List.nodup_cons.1 hn).1 (by rw [e]; exact hq)
/-- What the search finds, sorted, shows that two machines are the same. -/
theorem check_sorted {a b : Mac} (hf : fit a b = 0) (hd : ¬ ∃ w, Dist a b w) {ts l : List Pr} (hF : Fd a b ts) (hst : (a.start, b.start) ∈ ts) (hc : ∀ z ∈ ts, ∀ k : Nat, (k : Int) < a.letters → leadP a b z k = (-1, -1) ∨ leadP a b z k ∈ ts) (hp : l.Perm ts) (hs : l.Pairwise (fun x y => ¬ ord y x < 0)) : check a b l = 0 := by
  unfold check
  rw [if_pos hf]
  have hin : ∀ p ∈ l, InP a b p := fun p hp' => (hF.good p (hp.mem_iff.1 hp')).1
  have hrel : isRel a b l = true := rel_sorted l (-1, -1) hin (hp.nodup_iff.2 hF.nd) hs fun p hp' => by
    have h1 := hF.good p (hp.mem_iff.1 hp')
    obtain ⟨⟨⟨h2, _⟩, h3, _⟩, h4, _⟩ := h1
    obtain ⟨p1, p2⟩ := p
    unfold ord
    dsimp only at h2 h3 ⊢
    by_cases e : (-1 : Int) ≠ p1
    · rw [if_pos e]; omega
    · rw [if_neg e]
      have e1 : p1 = -1 := by omega
      have : p2 ≠ -1 := fun e2 => h4 (by rw [e1, e2])
      omega
  rw [if_pos hrel]
  have hsh : shows a b l = true := by
    unfold shows
    rw [Bool.and_eq_true, List.all_eq_true]
    refine ⟨among_iff.2 (.inr (hp.mem_iff.2 hst)), fun p hp' => ?_⟩
    have hp2 := hp.mem_iff.1 hp'
    obtain ⟨_, _, w, hw, e⟩ := hF.good p hp2
    rw [Bool.and_eq_true, List.all_eq_true]
    refine ⟨?_, fun k hk => ?_⟩
    · rcases hag : agree a b p with _ | _
      · exact absurd ⟨w, hw, by rw [← e]; exact hag⟩ hd
      · rfl
    · have hk' := List.mem_range.1 hk
      rcases hc p hp2 k (by omega) with h | h
      · exact among_iff.2 (.inl h)
      · exact among_iff.2 (.inr (hp.mem_iff.2 h))
  rw [if_pos hsh]
theorem check_nil {a b : Mac} (hf : fit a b = 0) (hst : (a.start, b.start) = (-1, -1)) : check a b [] = 0 := by
  unfold check
  have h1 : isRel a b [] = true := rfl
  have h2 : shows a b [] = true := by
    unfold shows
    rw [Bool.and_eq_true]
    exact ⟨among_iff.2 (.inl hst), rfl⟩
  rw [if_pos hf, if_pos h1, if_pos h2]
end Go.Proofs.Ytiekaicbjinbaaa.A
end
section
namespace Go.Proofs.Ytiekaicbjinbaaa.A
theorem wput_nd {ws : List Tr} {p : Pr} {bf l : Int} (h : (ws.map Tr.p).Nodup) : ((wput ws p bf l).map Tr.p).Nodup := by
  unfold wput
  split
  · rename_i hc
    rw [List.map_append, List.map_singleton]
    refine List.nodup_append.2 ⟨h, by simp, fun x hx y hy e => ?_⟩
    obtain rfl : y = p := by simpa using hy
    subst e
    exact hc.2 hx
  · exact h
theorem wrow_nd {a b : Mac} {i : Nat} {p : Pr} {ws : List Tr} (h : (ws.map Tr.p).Nodup) : ∀ n, ((wrow a b i p n ws).map Tr.p).Nodup
  | 0 => h
  | n + 1 => wput_nd (wrow_nd h n)
theorem WT.len {a b : Mac} (h2 : Two a b) {i k : Nat} {ws : List Tr} {W : Nat → List Int} (h : WT a b i k ws W) (hn : (ws.map Tr.p).Nodup) : ws.length ≤ (1 + a.next.length) * (1 + b.next.length) := by
  have := nodup_in hn (a := a) (b := b) (fun p hp => by
    obtain ⟨t, ht, rfl⟩ := List.mem_map.1 hp
    obtain ⟨j, hj, rfl⟩ := List.getElem_of_mem ht
    rw [h.pr j hj]
    exact h2.run (h.ok j hj) ⟨h2.fa.start, h2.fb.start⟩)
  simpa using this
theorem wlkO_ok {a b : Mac} (h2 : Two a b) : ∀ (f i : Nat) (ws : List Tr) (W : Nat → List Int), WT a b i 0 ws W → (ws.map Tr.p).Nodup → i ≤ ws.length → (1 + a.next.length) * (1 + b.next.length) ≤ f + i → ∃ ws' W', wlkO a b f i ws = some ws' ∧ WT a b ws'.length 0 ws' W' ∧ (ws'.map Tr.p).Nodup ∧ ∃ t, ws' = ws ++ t
  | f, i, ws, W, h, hn, hi, hf => by
    unfold wlkO
    by_cases hlt : i < ws.length
    · rw [dif_pos hlt]
      have hle := h.len h2 hn
      cases f with
      | zero => omega
      | succ f =>
        dsimp only
        obtain ⟨W1, h1, t1, e1⟩ := h.next h2 hlt
        have hn1 := wrow_nd (a := a) (b := b) (i := i) (p := ws[i].p) hn a.letters.toNat
        obtain ⟨ws', W', g1, g2, g3, t2, g4⟩ := wlkO_ok h2 f (i + 1) _ W1 h1 hn1 (by rw [e1]; simp; omega) (by omega)
        exact ⟨ws', W', g1, g2, g3, t1 ++ t2, by rw [g4, e1, List.append_assoc]⟩
    · rw [dif_neg hlt]
      obtain rfl : i = ws.length := by omega
      exact ⟨ws, W, rfl, h, hn, [], (List.append_nil _).symm⟩
theorem wlk0_nd (a b : Mac) : ((wlk0 a b).map Tr.p).Nodup := wput_nd List.nodup_nil
theorem wlk_ok {a b : Mac} (h2 : Two a b) : ∃ ws W, wlkO a b ((1 + a.next.length) * (1 + b.next.length)) 0 (wlk0 a b) = some ws ∧ WT a b ws.length 0 ws W ∧ (ws.map Tr.p).Nodup := by
  obtain ⟨ws, W, h1, h3, h4, _⟩ := wlkO_ok h2 ((1 + a.next.length) * (1 + b.next.length)) 0 (wlk0 a b) _ (WT.start h2) (wlk0_nd a b) (Nat.zero_le _) (Nat.le_refl _)
  exact ⟨ws, W, h1, h3, h4⟩
/-- The word behind a pair of the walk, read back. -/
theorem WT.back {a b : Mac} {i k : Nat} {ws : List Tr} {W : Nat → List Int} (h : WT a b i k ws W) {j : Nat} (hj : j < ws.length) : (ws[j].before < 0 ∧ W j = []) ∨ ∃ m : Nat, ws[j].before = (m : Int) ∧ m < j ∧ W j = W m ++ [ws[j].letter] := by
  rcases h.bk j hj with ⟨h1, h2⟩ | ⟨m, h1, h2, _, h4, _⟩
  · exact Or.inl ⟨by omega, h2⟩
  · exact Or.inr ⟨m, h1, h2, h4⟩
end Go.Proofs.Ytiekaicbjinbaaa.A
end
section
namespace Go.Proofs.Ytiekaicbjinbaaa
open Go.RowKit
def intsOf (fs : List Nat) : List Int := fs.map Int.ofNat
theorem intsOf_len (fs : List Nat) : (intsOf fs).length = fs.length := by simp [intsOf]
theorem intsOf_get {fs : List Nat} {j : Nat} (h : j < fs.length) : (intsOf fs).getD j 0 = (fs[j] : Int) := by simp [intsOf, h]
theorem intsOf_app (fs : List Nat) (i : Nat) : intsOf (fs ++ [i]) = intsOf fs ++ [(i : Int)] := by simp [intsOf]
theorem Blk.ints_ {w : World} {g : Nat} {l : List Int} (h : Blk w g 3 (intCs l)) : Ints w (fun b => b = g) (.slice (some ⟨g, 0, none⟩) l.length l.length) l :=
  ⟨_, _, rfl, fun k hk => ⟨g, 0, rfl, rfl, by rw [Nat.zero_add]; exact (h.cell k).trans (intCs_get hk)⟩⟩
theorem Ints.mono_ {w : World} {P Q : Nat → Prop} {v : Value} {l : List Int} (h : Ints w P v l) (hPQ : ∀ b, P b → Q b) : Ints w Q v l := by
  obtain ⟨A0, c, e, h⟩ := h
  exact ⟨A0, c, e, fun k hk => by obtain ⟨g, o, h1, h2, h3⟩ := h k hk; exact ⟨g, o, h1, hPQ g h2, h3⟩⟩
theorem cell_ltR {w : World} {g i : Nat} {v : Value} (h : w.cell? ⟨g, i, none⟩ = some v) : g < w.heap.size := by
  unfold World.cell? at h
  rcases Nat.lt_or_ge g w.heap.size with h' | h'
  · exact h'
  · rw [Array.getElem?_eq_none h'] at h
    cases h
def vW (x v : Value) (_ : World) : Prop := v = x
def vIf (p : Prop) (v : Value) (_ : World) : Prop := ∃ r : Bool, v = .bool r ∧ (r = true ↔ p)
set_option maxRecDepth 100000 in
set_option maxHeartbeats 16000000 in
theorem rclasses_any {w : World} {P : Nat → Prop} {v : Value} {m : A.Mac} (h : MachAt w P v m) (hf : A.Fits m) (hn : m.next.length ≤ 4000) (hl3 : m.letters ≤ 300) :
    Calls Try.prog 43 #[v] w fun e w' => ∃ r cl c, e = .returned r ∧ Ints w' (fun b => w.heap.size ≤ b) r cl ∧ A.ClsOK m cl c ∧ Frm (fun _ => False) w w' := by
  obtain ⟨A1, c1, A2, c2, rfl⟩ := h.form
  obtain ⟨N, hN⟩ : ∃ N, N = m.next.length := ⟨_, rfl⟩
  have hNf : N = m.fin.length := by rw [hN]; exact hf.fin
  have HB0 : Hid (Blk (w.alloc (.cells #[.int .i64 m.letters, .int .i64 m.start, .slice A1 m.next.length c1, .slice A2 m.fin.length c2] 25)) w.heap.size 25 #[.int .i64 m.letters, .int .i64 m.start, .slice A1 m.next.length c1, .slice A2 m.fin.length c2]) := Blk.new w _ _
  have HF0 : Hid (Frm (fun _ => False) w (w.alloc (.cells #[.int .i64 m.letters, .int .i64 m.start, .slice A1 m.next.length c1, .slice A2 m.fin.length c2] 25))) := (Frm.refl _ w).alloc _
  have HM := Lib.hid h
  have HFI := Lib.hid hf
  have HN4 := Lib.hid hn
  have HL3 := Lib.hid hl3
  have HN := Lib.hid hN
  have HNF := Lib.hid hNf
  have x0 := HB0.out.cell 0
  have x1 := HB0.out.cell 1
  have x2 := HB0.out.cell 2
  have x3 := HB0.out.cell 3
  clear h hf hN hNf hn hl3
  go_enter Try.func43, Try.ntmps43
  go_wp2_with fail
  clear x0 x1 x2 x3
  refine (live_any (HM.out.keep0 HF0.out) HFI.out HN4.out HL3.out).mono ?_
  rintro _ w1 ⟨r3, o, rfl, hB, hO, f1⟩
  obtain ⟨A3, c3, rfl, _⟩ := id hB
  have HO := Lib.hid hO
  have HOL : Hid (o.length = N) := hO.len.trans HN.out.symm
  have HF1 := Lib.hid (HF0.out.trans f1)
  have HB1 : Hid (Blk w1 w.heap.size 25 #[.int .i64 m.letters, .int .i64 m.start, .slice A1 m.next.length c1, .slice A2 m.fin.length c2]) := f1.blk HB0.out id
  rw [← HN.out, ← HNF.out] at HB1
  have HBO : Hid (Bools w1 (fun b => b < w1.heap.size) (.slice A3 o.length c3) o) := by
    obtain ⟨_, _, e, hb⟩ := id hB
    exact ⟨_, _, e, fun k hk => by obtain ⟨gb, ob, e1, _, e3⟩ := hb k hk; exact ⟨gb, ob, e1, cell_ltR e3, e3⟩⟩
  have hN4 := HN4.out
  rw [← HN.out] at hN4
  clear hB hO f1 HF0 HB0
  have hmk := run_make_row' (P := Try.prog) 28 3 (.int .i64 0) 8 Try.underlying28 info_int rfl .i64 .i64 N (by omega) (by omega)
  have x2 := HB1.out.cell 2
  rw [← HN.out, ← HNF.out, HOL.out]
  go_wp2_with fail
  have HG : Hid (Blk (w1.alloc (.cells (madeCells #[.int .i64 0] N) 3)) w1.heap.size 3 (intCs (List.replicate N 0))) := by rw [← intCs_made]; exact Blk.new w1 _ _
  have HB2 := Lib.hid (HB1.out.alloc (.cells (madeCells #[.int .i64 0] N) 3))
  have HF2 := Lib.hid (HF1.out.alloc (.cells (madeCells #[.int .i64 0] N) 3))
  have HBO2 := Lib.hid (HBO.out.keep ((Frm.refl (fun _ => False) w1).alloc (.cells (madeCells #[.int .i64 0] N) 3)) fun _ _ => id)
  have HLW : Hid (w.heap.size < w1.heap.size) := HB1.out.lt
  have HLW2 : Hid (w1.heap.size < (w1.alloc (.cells (madeCells #[.int .i64 0] N) 3)).heap.size) := HG.out.lt
  generalize w1.alloc (.cells (madeCells #[.int .i64 0] N) 3) = w2 at *
  clear hmk x2 HB1 HF1 HBO
  obtain ⟨g1, hg1⟩ : ∃ g1, g1 = w1.heap.size := ⟨_, rfl⟩
  rw [← hg1] at HG HLW HLW2 HBO2
  rw [← hg1]
  clear hg1
  have HBX : Hid (∀ {wr : World}, Frm (fun b => b = g1) w2 wr → Frm (fun _ => False) w wr) := fun F => ((HF2.out.mono fun _ _ h => h.elim).trans F).mono fun b hb h => by have := HLW.out; omega
  go_loopg [5] (N + 1) (fun n u wr => ∃ (k : Nat) (l : List Int), k ≤ N ∧ n = N + 1 - k ∧ u = .int .i64 (k : Int) ∧ l.length = N ∧ Hid (∀ s, s < k → l.getD s 0 = A.cls0 m o s) ∧ Hid (Blk wr g1 3 (intCs l)) ∧ Hid (Frm (fun b => b = g1) w2 wr))
  case atStart => exact ⟨0, _, Nat.zero_le _, rfl, rfl, List.length_replicate .., fun s hs => absurd hs (Nat.not_lt_zero s), HG, Frm.refl _ _⟩
  case round =>
    clear HG
    obtain ⟨k, l, hk, rfl, rfl, hll, HC, HG, HF⟩ := hrel
    by_cases hlt : k < N
    · have hlt' : (k : Int) < (N : Int) := by omega
      have hkl : k < l.length := by omega
      have hlw := HLW.out
      obtain ⟨A3', c3', e, hb⟩ := HBO2.out.keep HF.out fun b hb h => by omega
      injection e with e1 e2 e3
      subst e1 e3
      obtain ⟨gb, ob, rfl, hgb, c0⟩ := hb k (by rw [HOL.out]; exact hlt)
      have hkf : k < m.fin.length := by rw [← HNF.out]; exact hlt
      obtain ⟨gf, off, rfl, cf⟩ := HM.out.fin_at hkf
      have hgf := cell_ltR cf
      have cf1 := (HBX.out HF.out).cell id cf
      have HBW := HF.out.blk HB2.out (by omega)
      have x3 := HBW.cell 3
      have y0 := (HG.out.cell k).trans (intCs_getD hkl)
      have yf := HG.out.frozen k
      have HK0 : Hid (A.cls0 m o k = if o[k]'(by rw [HOL.out]; exact hlt) then (if m.fin[k] then 1 else 0) else -1) := by
        show _ = _
        unfold A.cls0
        simp [hkf, HOL.out, hlt]
      have HB3 : Hid (Blk (wr.setCell ⟨g1, k, none⟩ (.int .i64 (-1))) g1 3 (intCs (l.set k (-1)))) := by rw [← intCs_set]; exact HG.out.set_ k _
      have HF3 : Hid (Frm (fun b => b = g1) w2 (wr.setCell ⟨g1, k, none⟩ (.int .i64 (-1)))) := HF.out.set_ (p := ⟨g1, k, none⟩) (fun _ => rfl) _
      have q0 := (Frm.one (w := wr) g1 k (.int .i64 (-1))).cell (show gb ≠ g1 by omega) c0
      have hmore : ∀ x : Int, A.cls0 m o k = x → ∀ s, s < k + 1 → (l.set k x).getD s 0 = A.cls0 m o s := fun x hx s hs => by
        rw [A.getD_setR hkl]
        split
        · rename_i e; rw [← e, hx]
        · exact HC.out s (by omega)
      have HMO := Lib.hid hmore
      clear hmore hb cf
      cases hok : o[k]'(by rw [HOL.out]; exact hlt) with
      | false =>
        rw [hok] at q0 HK0
        have HC2 : Hid (∀ s, s < k + 1 → (l.set k (-1)).getD s 0 = A.cls0 m o s) := HMO.out _ HK0.out
        clear hok c0
        go_wp2_with fail
        go_roundg (N + 1 - (k + 1))
        case measure => omega
        case rel => exact ⟨k + 1, _, by omega, rfl, by go_num, by rw [List.length_set]; exact hll, HC2, HB3, HF3⟩
      | true =>
        rw [hok] at q0 HK0
        clear hok c0
        have HB4 : Hid (Blk ((wr.setCell ⟨g1, k, none⟩ (.int .i64 (-1))).setCell ⟨g1, k, none⟩ (.int .i64 0)) g1 3 (intCs (l.set k 0))) := by
          have h := HB3.out.set_ k (.int .i64 0)
          rw [intCs_set, List.set_set] at h
          exact h
        have HF4 : Hid (Frm (fun b => b = g1) w2 ((wr.setCell ⟨g1, k, none⟩ (.int .i64 (-1))).setCell ⟨g1, k, none⟩ (.int .i64 0))) := HF3.out.set_ (p := ⟨g1, k, none⟩) (fun _ => rfl) _
        have F34 : Frm (fun b => b = g1) wr ((wr.setCell ⟨g1, k, none⟩ (.int .i64 (-1))).setCell ⟨g1, k, none⟩ (.int .i64 0)) := (Frm.one g1 k _).set_ (p := ⟨g1, k, none⟩) (fun _ => rfl) _
        have q1 := F34.cell (show w.heap.size ≠ g1 by omega) x3
        have q2 := F34.cell (show gf ≠ g1 by omega) cf1
        have q3 := (HB3.out.cell k).trans (intCs_getD (by rw [List.length_set]; exact hkl))
        have q4 := HB3.out.frozen k
        simp only [if_true] at HK0
        cases hfk : m.fin[k] with
        | false =>
          rw [hfk] at q2 HK0
          have HC2 : Hid (∀ s, s < k + 1 → (l.set k 0).getD s 0 = A.cls0 m o s) := HMO.out _ HK0.out
          clear hfk F34
          go_wp2_with fail
          go_roundg (N + 1 - (k + 1))
          case measure => omega
          case rel => exact ⟨k + 1, _, by omega, rfl, by go_num, by rw [List.length_set]; exact hll, HC2, HB4, HF4⟩
        | true =>
          rw [hfk] at q2 HK0
          have HC2 : Hid (∀ s, s < k + 1 → (l.set k 1).getD s 0 = A.cls0 m o s) := HMO.out _ HK0.out
          have q5 := (HB4.out.cell k).trans (intCs_getD (by rw [List.length_set]; exact hkl))
          have q6 := HB4.out.frozen k
          have HB5 : Hid (Blk (((wr.setCell ⟨g1, k, none⟩ (.int .i64 (-1))).setCell ⟨g1, k, none⟩ (.int .i64 0)).setCell ⟨g1, k, none⟩ (.int .i64 1)) g1 3 (intCs (l.set k 1))) := by
            have h := HB4.out.set_ k (.int .i64 1)
            rw [intCs_set, List.set_set] at h
            exact h
          have HF5 : Hid (Frm (fun b => b = g1) w2 (((wr.setCell ⟨g1, k, none⟩ (.int .i64 (-1))).setCell ⟨g1, k, none⟩ (.int .i64 0)).setCell ⟨g1, k, none⟩ (.int .i64 1))) := HF4.out.set_ (p := ⟨g1, k, none⟩) (fun _ => rfl) _
          clear hfk F34
          go_wp2_with fail
          go_roundg (N + 1 - (k + 1))
          case measure => omega
          case rel => exact ⟨k + 1, _, by omega, rfl, by go_num, by rw [List.length_set]; exact hll, HC2, HB5, HF5⟩
    · obtain rfl : k = N := by omega
      have hlt' : ¬ (k : Int) < (k : Int) := by omega
      have HPRE : Hid (A.Pre m l 0) := A.cls0_pre HFI.out HO.out (by have := HN.out; omega) (by rw [← HN.out]; exact HC.out)
      have HBX2 : Hid (Blk wr w.heap.size 25 #[.int .i64 m.letters, .int .i64 m.start, .slice A1 k c1, .slice A2 k c2]) := HF.out.blk HB2.out (by have := HLW.out; omega)
      have HFW : Hid (Frm (fun _ => False) w wr) := HBX.out HF.out
      have HLG := HLW
      clear HBX HF HB2 HF2 HBO2 HC hlt hlt' hk
      go_wp2_with fail
      go_loopg [4, 6] (k + 1) (fun n u4 u6 wr => ∃ (out : List Int) (c g : Nat), n = k + 1 - c ∧ c ≤ k ∧ u4 = .slice (some ⟨g, 0, none⟩) k k ∧ u6 = .int .i64 (c : Int) ∧ w.heap.size < g ∧ Hid (A.Pre m out c) ∧ Hid (Blk wr g 3 (intCs out)) ∧ Hid (Blk wr w.heap.size 25 #[.int .i64 m.letters, .int .i64 m.start, .slice A1 k c1, .slice A2 k c2]) ∧ Hid (Frm (fun _ => False) w wr))
      case atStart => exact ⟨l, 0, g1, rfl, Nat.zero_le _, rfl, rfl, HLG.out, HPRE, HG, HBX2, HFW⟩
      case round =>
        clear HPRE HG HBX2 HFW HLG HLW HLW2 HO HOL hll
        obtain ⟨out, c, g, rfl, hck, rfl, rfl, hgw, HPRE, HG, HB, HF⟩ := hrel
        have hmk := run_make_row' (P := Try.prog) 28 3 (.int .i64 0) 8 Try.underlying28 info_int rfl .i64 .i64 k (by omega) (by omega)
        go_wp2_with fail
        have HW1 : Hid (w.heap.size < wr.heap.size) := HB.out.lt
        have HW2 : Hid (g < wr.heap.size) := HG.out.lt
        have HNX : Hid (Blk ((wr.alloc (.cells (madeCells #[.int .i64 0] k) 3)).alloc (.cells #[] 3)) wr.heap.size 3 (intCs (List.replicate k 0))) := by rw [← intCs_made]; exact (Blk.new wr _ _).alloc _
        have HG' := Lib.hid ((HG.out.alloc (.cells (madeCells #[.int .i64 0] k) 3)).alloc (.cells #[] 3))
        have HB' := Lib.hid ((HB.out.alloc (.cells (madeCells #[.int .i64 0] k) 3)).alloc (.cells #[] 3))
        have HF' := Lib.hid ((HF.out.alloc (.cells (madeCells #[.int .i64 0] k) 3)).alloc (.cells #[] 3))
        have HOW : Hid (OwnInts ((wr.alloc (.cells (madeCells #[.int .i64 0] k) 3)).alloc (.cells #[] 3)) (wr.heap.size + 1) (.slice (some ⟨wr.heap.size + 1, 0, none⟩) 0 0) (intsOf [])) := by
          have h := World.ownsRow_made (base := wr.heap.size + 1) (e := 3) (size := 1) (wr.alloc (.cells (madeCells #[.int .i64 0] k) 3)) #[] 0 (by simp) (by decide) rfl
          have e : (wr.alloc (.cells (madeCells #[.int .i64 0] k) 3)).heap.size = wr.heap.size + 1 := by simp
          rw [e] at h
          exact h
        have HRF : Hid (A.Ref m out (List.replicate k 0) [] 0) := ⟨by simp [HN.out], Nat.le_refl _, fun j hj => absurd hj (Nat.not_lt_zero j), fun s hs => absurd hs (Nat.not_lt_zero s), fun s hs => absurd hs (Nat.not_lt_zero s)⟩
        obtain ⟨gn, hgn⟩ : ∃ gn, gn = wr.heap.size := ⟨_, rfl⟩
        rw [← hgn] at HNX HOW HW1 HW2
        rw [← hgn]
        have HS : Hid (gn + 1 ≤ ((wr.alloc (.cells (madeCells #[.int .i64 0] k) 3)).alloc (.cells #[] 3)).heap.size) := by show _ ≤ _; simp [hgn]
        clear HG HB HF hmk hgn
        go_loopg [8, 9] (k + 1) (fun n u8 u9 wr => ∃ (i : Nat) (nx : List Int) (fs : List Nat), i ≤ k ∧ n = k + 1 - i ∧ u9 = .int .i64 (i : Int) ∧ Hid (A.Ref m out nx fs i) ∧ Hid (OwnInts wr (gn + 1) u8 (intsOf fs)) ∧ Hid (Blk wr gn 3 (intCs nx)) ∧ Hid (Blk wr g 3 (intCs out)) ∧ Hid (Blk wr w.heap.size 25 #[.int .i64 m.letters, .int .i64 m.start, .slice A1 k c1, .slice A2 k c2]) ∧ Hid (Frm (fun _ => False) w wr) ∧ Hid (gn + 1 ≤ wr.heap.size))
        case atStart => exact ⟨0, _, [], Nat.zero_le _, rfl, rfl, HRF, HOW, HNX, HG', HB', HF', HS⟩
        case round =>
          clear HRF HOW HNX HG' HB' HF' HS
          obtain ⟨i, nx, fs, hi, rfl, rfl, HRF, HO, HNX, HG, HB, HF, HS⟩ := hrel
          obtain ⟨A8, c8, rfl⟩ := own_form HO.out
          rw [intsOf_len] at HO ⊢
          have hfl := HRF.out.le
          by_cases hlt : i < k
          · have hlt' : (i : Int) < (k : Int) := by omega
            have hin : i < m.next.length := by rw [← HN.out]; exact hlt
            have hil : i < nx.length := by rw [HRF.out.len]; exact hin
            have hol : i < out.length := by rw [HPRE.out.len]; exact hin
            have y0 := (HNX.out.cell i).trans (intCs_getD hil)
            have yf := HNX.out.frozen i
            have hw1 := HW1.out
            have hw2 := HW2.out
            have FS : Frm (fun b => b = gn) wr (wr.setCell ⟨gn, i, none⟩ (.int .i64 (-1))) := Frm.one gn i _
            have HNX1 : Hid (Blk (wr.setCell ⟨gn, i, none⟩ (.int .i64 (-1))) gn 3 (intCs (nx.set i (-1)))) := by rw [← intCs_set]; exact HNX.out.set_ i _
            have HG1 := Lib.hid (FS.blk HG.out (by omega))
            have HB1 := Lib.hid (FS.blk HB.out (by omega))
            have HF1 : Hid (Frm (fun _ => False) w (wr.setCell ⟨gn, i, none⟩ (.int .i64 (-1)))) := ((HF.out.mono fun _ _ h => h.elim).trans FS).mono fun b hb h => by omega
            have HO1 : Hid (OwnInts (wr.setCell ⟨gn, i, none⟩ (.int .i64 (-1))) (gn + 1) (.slice A8 fs.length c8) (intsOf fs)) := HO.out.frm FS fun b hb => by omega
            have HS1 : Hid (gn + 1 ≤ (wr.setCell ⟨gn, i, none⟩ (.int .i64 (-1))).heap.size) := show _ ≤ _ from Nat.le_trans HS.out FS.1
            clear FS
            go_wp2_with fail
            clear y0 yf HNX HG HB HF HO HS
            go_loopg [10] (fs.length + 1) (fun n u wr => ∃ j : Nat, j ≤ fs.length ∧ n = fs.length + 1 - j ∧ u = .int .i64 (j : Int) ∧ Hid (OwnInts wr (gn + 1) (.slice A8 fs.length c8) (intsOf fs)) ∧ Hid (Blk wr gn 3 (intCs (nx.set i (-1)))) ∧ Hid (Blk wr g 3 (intCs out)) ∧ Hid (Blk wr w.heap.size 25 #[.int .i64 m.letters, .int .i64 m.start, .slice A1 k c1, .slice A2 k c2]) ∧ Hid (Frm (fun _ => False) w wr) ∧ Hid (gn + 1 ≤ wr.heap.size))
            case atStart => exact ⟨0, Nat.zero_le _, rfl, rfl, HO1, HNX1, HG1, HB1, HF1, HS1⟩
            case round =>
              clear HNX1 HG1 HB1 HF1 HO1 HS1
              obtain ⟨j, hj, rfl, rfl, HO, HNX, HG, HB, HF, HS⟩ := hrel
              have z0 := (HG.out.cell i).trans (intCs_getD hol)
              have z1 := (HNX.out.cell i).trans (intCs_getD (by rw [List.length_set]; exact hil))
              have z2 := HNX.out.frozen i
              rw [A.getD_setR hil, if_pos rfl] at z1
              obtain ⟨ov, hov⟩ : ∃ ov, ov = out.getD i 0 := ⟨_, rfl⟩
              rw [← hov] at z0
              have HOV := Lib.hid hov
              clear hov
              by_cases ho : 0 ≤ ov
              case neg =>
                have ho' : ov < 0 := by omega
                have HR2 : Hid (A.Ref m out (nx.set i (-1)) fs (i + 1)) := HRF.out.dead_ hin (by rw [← HOV.out]; exact ho')
                by_cases hjl : j < fs.length
                · have hjl' : (j : Int) < (fs.length : Int) := by omega
                  go_wp2_with fail
                  go_roundg (k + 1 - (i + 1))
                  case measure => omega
                  case rel => exact ⟨i + 1, _, fs, by omega, rfl, by go_num, HR2, HO, HNX, HG, HB, HF, HS⟩
                · have hjl' : ¬ (j : Int) < (fs.length : Int) := by omega
                  go_wp2_with fail
                  go_roundg (k + 1 - (i + 1))
                  case measure => omega
                  case rel => exact ⟨i + 1, _, fs, by omega, rfl, by go_num, HR2, HO, HNX, HG, HB, HF, HS⟩
              by_cases hjl : j < fs.length
              case pos =>
                have hjl' : (j : Int) < (fs.length : Int) := by omega
                obtain ⟨gf, rfl, hgf, d0⟩ := OwnInts.at_ (l := intsOf fs) (by rw [intsOf_len]; exact HO.out) (k := j) (by rw [intsOf_len]; exact hjl)
                rw [intsOf_get hjl] at d0
                obtain ⟨hfi, _, _⟩ := HRF.out.fsi j hjl
                obtain ⟨f, hf⟩ : ∃ f, f = fs[j] := ⟨_, rfl⟩
                rw [← hf] at d0 hfi
                have HFJ := Lib.hid hf
                clear hf
                have hkm : (gf : Nat) ≠ w.heap.size := by have := HW1.out; omega
                go_wp2_with fail
                refine wp_region_list [67, 68, 69, 70, 71, 72, 73, 74] [vW (.agg #[.int .i64 m.letters, .int .i64 m.start, .slice A1 k c1, .slice A2 k c2]), vW (.slice (some ⟨g, 0, none⟩) k k), vW (.int .i64 (i : Int)), vW (.slice (some ⟨gf, 0, none⟩) fs.length c8), vW (.int .i64 (j : Int)), vW (.pointer (some ⟨gf, j, none⟩)), vW (.int .i64 (f : Int)), vIf (A.Alike m out i f)] (Frm (fun _ => False)) [] [(1, .pointer (some ⟨w.heap.size, 0, none⟩)), (4, .slice (some ⟨g, 0, none⟩) k k), (9, .int .i64 (i : Int)), (8, .slice (some ⟨gf, 0, none⟩) fs.length c8), (10, .int .i64 (j : Int))] (by kernel_rfl) (by kernel_rfl) (fun _ _ _ => Frm.trans) ?_ (fun _ h => by cases h) (Frm.refl _ _).drew ?_ ?_ ?_
                · intro f hf v w w' h F
                  simp only [List.mem_cons, List.not_mem_nil, or_false] at hf
                  rcases hf with rfl | rfl | rfl | rfl | rfl | rfl | rfl | rfl <;> exact h
                · intro x hx
                  simp only [List.mem_cons, List.not_mem_nil, or_false] at hx
                  rcases hx with rfl | rfl | rfl | rfl | rfl <;> exact ⟨by simp, rfl⟩
                · refine ⟨?_, ?_, ?_, ?_, ?_, ?_, ?_, ?_, trivial⟩
                  · intro Q tm df V hR hu hd
                    have u1 : tm[1]?.getD undef = .pointer (some ⟨w.heap.size, 0, none⟩) := hu (1, _) (by simp)
                    have hb := hR.blk HB.out id
                    have y0 := hb.cell 0
                    have y1 := hb.cell 1
                    have y2 := hb.cell 2
                    have y3 := hb.cell 3
                    clear hu hd hb
                    go_simp
                    exact ⟨_, rfl, rfl, Frm.refl _ V⟩
                  · intro Q tm df V hR hu hd
                    have u1 : tm[4]?.getD undef = .slice (some ⟨g, 0, none⟩) k k := hu (4, _) (by simp)
                    clear hu hd
                    go_simp
                    exact ⟨_, rfl, rfl, Frm.refl _ V⟩
                  · intro Q tm df V hR hu hd
                    have u1 : tm[9]?.getD undef = .int .i64 (i : Int) := hu (9, _) (by simp)
                    clear hu hd
                    go_simp
                    exact ⟨_, rfl, rfl, Frm.refl _ V⟩
                  · intro Q tm df V hR hu hd
                    have u1 : tm[8]?.getD undef = .slice (some ⟨gf, 0, none⟩) fs.length c8 := hu (8, _) (by simp)
                    clear hu hd
                    go_simp
                    exact ⟨_, rfl, rfl, Frm.refl _ V⟩
                  · intro Q tm df V hR hu hd
                    have u1 : tm[10]?.getD undef = .int .i64 (j : Int) := hu (10, _) (by simp)
                    clear hu hd
                    go_simp
                    exact ⟨_, rfl, rfl, Frm.refl _ V⟩
                  · intro Q tm df V hR hu hd
                    have e0 : tm[70]?.getD undef = .slice (some ⟨gf, 0, none⟩) fs.length c8 := hd 3 (by simp)
                    have e1 : tm[71]?.getD undef = .int .i64 (j : Int) := hd 4 (by simp)
                    clear hu hd
                    go_simp
                    exact ⟨_, rfl, rfl, Frm.refl _ V⟩
                  · intro Q tm df V hR hu hd
                    have e0 : tm[72]?.getD undef = .pointer (some ⟨gf, j, none⟩) := hd 5 (by simp)
                    have y0 := hR.cell id d0
                    clear hu hd
                    go_simp
                    exact ⟨_, rfl, rfl, Frm.refl _ V⟩
                  · intro Q tm df V hR hu hd
                    have e0 : tm[67]?.getD undef = .agg #[.int .i64 m.letters, .int .i64 m.start, .slice A1 k c1, .slice A2 k c2] := hd 0 (by simp)
                    have e1 : tm[68]?.getD undef = .slice (some ⟨g, 0, none⟩) k k := hd 1 (by simp)
                    have e2 : tm[69]?.getD undef = .int .i64 (i : Int) := hd 2 (by simp)
                    have e3 : tm[73]?.getD undef = .int .i64 (f : Int) := hd 6 (by simp)
                    have hm := HM.out.keep0 (HF.out.trans hR)
                    rw [← HN.out, ← HNF.out] at hm
                    have hI := (hR.blk HG.out id).ints_
                    rw [HPRE.out.len, ← HN.out] at hI
                    clear hu hd
                    go_simp
                    refine (alike_any hm HFI.out HL3.out hI HPRE.out.len hin (by rw [← HN.out]; omega)).mono ?_
                    rintro e w' ⟨⟨r, rfl, hr⟩, f⟩
                    exact ⟨_, rfl, ⟨r, rfl, hr⟩, f⟩
                · intro vs V hR hf
                  obtain ⟨r, e7, hr⟩ : vIf (A.Alike m out i f) (vs 7) V := hf 7 (by decide)
                  clear hf
                  have HNX2 := Lib.hid (hR.blk HNX.out id)
                  have HG2 := Lib.hid (hR.blk HG.out id)
                  have HB2 := Lib.hid (hR.blk HB.out id)
                  have HF2 := Lib.hid (HF.out.trans hR)
                  have HO2 : Hid (OwnInts V (gn + 1) (.slice (some ⟨gf, 0, none⟩) fs.length c8) (intsOf fs)) := HO.out.frm hR fun _ _ => id
                  have HS2 : Hid (gn + 1 ≤ V.heap.size) := show _ ≤ _ from Nat.le_trans HS.out hR.1
                  have z0 := hR.cell id z0
                  have y0 := (HNX2.out.cell i).trans (intCs_getD (by rw [List.length_set]; exact hil))
                  have y1 := HNX2.out.frozen i
                  have HRR := Lib.hid hr
                  clear HNX HG HB HF HO HS hR hr
                  simp only [putAll, List.size_toArray, List.length_cons, List.length_nil, Nat.zero_add, Nat.reduceAdd, show List.range 8 = [0, 1, 2, 3, 4, 5, 6, 7] from rfl, List.foldl_cons, List.foldl_nil, List.getD_cons_zero, List.getD_cons_succ, List.setIfInBounds_toArray, List.set_cons_zero, List.set_cons_succ, e7]
                  cases r with
                  | false =>
                    go_wp2_with fail
                    go_roundg (fs.length + 1 - (j + 1))
                    case measure => omega
                    case rel => exact ⟨j + 1, by omega, rfl, by go_num, HO2, HNX2, HG2, HB2, HF2, HS2⟩
                  | true =>
                    have HR2 : Hid (A.Ref m out (nx.set i (j : Int)) fs (i + 1)) := HRF.out.old hin (by rw [← HOV.out]; exact ho) hjl (by rw [← HFJ.out]; exact HRR.out.1 rfl)
                    have FS : Frm (fun b => b = gn) V (V.setCell ⟨gn, i, none⟩ (.int .i64 (j : Int))) := Frm.one gn i _
                    have HNX3 : Hid (Blk (V.setCell ⟨gn, i, none⟩ (.int .i64 (j : Int))) gn 3 (intCs (nx.set i (j : Int)))) := by
                      have h := HNX2.out.set_ i (.int .i64 (j : Int))
                      rw [intCs_set, List.set_set] at h
                      exact h
                    have hw1 := HW1.out
                    have hw2 := HW2.out
                    have HG3 := Lib.hid (FS.blk HG2.out (by omega))
                    have HB3 := Lib.hid (FS.blk HB2.out (by omega))
                    have HF3 : Hid (Frm (fun _ => False) w (V.setCell ⟨gn, i, none⟩ (.int .i64 (j : Int)))) := ((HF2.out.mono fun _ _ h => h.elim).trans FS).mono fun b hb h => by omega
                    have HO3 : Hid (OwnInts (V.setCell ⟨gn, i, none⟩ (.int .i64 (j : Int))) (gn + 1) (.slice (some ⟨gf, 0, none⟩) fs.length c8) (intsOf fs)) := HO2.out.frm FS fun b hb => by omega
                    have HS3 : Hid (gn + 1 ≤ (V.setCell ⟨gn, i, none⟩ (.int .i64 (j : Int))).heap.size) := show _ ≤ _ from Nat.le_trans HS2.out FS.1
                    have q0 := FS.cell (show g ≠ gn by omega) z0
                    have q1 := (HNX3.out.cell i).trans (intCs_getD (by rw [List.length_set]; exact hil))
                    rw [A.getD_setR hil, if_pos rfl] at q1
                    clear FS HNX2 HG2 HB2 HF2 HO2 HS2
                    go_wp2_with fail
                    go_roundg (k + 1 - (i + 1))
                    case measure => omega
                    case rel => exact ⟨i + 1, _, fs, by omega, rfl, by go_num, HR2, HO3, HNX3, HG3, HB3, HF3, HS3⟩
              have hjl' : ¬ (j : Int) < (fs.length : Int) := by omega
              have HR2 : Hid (A.Ref m out (nx.set i (fs.length : Int)) (fs ++ [i]) (i + 1)) := HRF.out.new hin (by rw [← HOV.out]; exact ho)
              have FS : Frm (fun b => b = gn) wr (wr.setCell ⟨gn, i, none⟩ (.int .i64 (fs.length : Int))) := Frm.one gn i _
              have HNX3 : Hid (Blk (wr.setCell ⟨gn, i, none⟩ (.int .i64 (fs.length : Int))) gn 3 (intCs (nx.set i (fs.length : Int)))) := by
                have h := HNX.out.set_ i (.int .i64 (fs.length : Int))
                rw [intCs_set, List.set_set] at h
                exact h
              have hw1 := HW1.out
              have hw2 := HW2.out
              have HG3 := Lib.hid (FS.blk HG.out (by omega))
              have HB3 := Lib.hid (FS.blk HB.out (by omega))
              have HF3 : Hid (Frm (fun _ => False) w (wr.setCell ⟨gn, i, none⟩ (.int .i64 (fs.length : Int)))) := ((HF.out.mono fun _ _ h => h.elim).trans FS).mono fun b hb h => by omega
              have HO3 : Hid (OwnInts (wr.setCell ⟨gn, i, none⟩ (.int .i64 (fs.length : Int))) (gn + 1) (.slice A8 fs.length c8) (intsOf fs)) := HO.out.frm FS fun b hb => by omega
              have HS3 : Hid (gn + 1 ≤ (wr.setCell ⟨gn, i, none⟩ (.int .i64 (fs.length : Int))).heap.size) := show _ ≤ _ from Nat.le_trans HS.out FS.1
              have hfs4 : fs.length ≤ 4000 := by omega
              obtain ⟨i0, hi0, hz0, hz1, hz2⟩ := info_parts info_int
              clear FS HNX HG HB HF HO HS
              go_wp2_with (at_builtin; refine wpList_append_own _ rfl _ _ 28 rfl (gn + 1) 3 i0 (.int .i64 0) 1 8 Try.underlying28 hi0 hz0 hz1 hz2 rfl (by decide) _ _ _ rfl (HO3.out.alloc _) ⟨wr.heap.size, 0, none⟩ 1 1 [.int .i64 (i : Int)] rfl rfl ?y1 ?y2 ?y3 ?y4 ?y5 ?_)
              case y2 => simp [Value.oneCell']
              case y3 => rw [intsOf_len]; unfold maxLen; omega
              case y4 => rw [intsOf_len]; omega
              case y5 => have := HS3.out; simp at this ⊢; omega
              intro v' w1 hown1 hgrow _
              rw [intsOf_len] at hown1
              obtain ⟨A9, c9, rfl⟩ := own_form hown1
              have hng : ∀ g', (Value.slice A8 fs.length c8).ownBlock = some g' → gn + 1 ≤ g' := own_ge HO3.out
              have HF4 : Hid (Frm (fun _ => False) w w1) := (HF3.out.alloc _).grown hgrow fun g' hg' _ => by have := hng g' hg'.symm.symm; omega
              have HO4 : Hid (OwnInts w1 (gn + 1) (.slice A9 (fs.length + 1) c9) (intsOf (fs ++ [i]))) := by rw [intsOf_app]; exact OwnInts.grown (intsOf_len fs).symm hown1
              have HNX4 := Lib.hid ((HNX3.out.alloc (.cells #[.int .i64 (i : Int)] 3)).grown hgrow fun e => by have := hng _ e.symm; omega)
              have HG4 := Lib.hid ((HG3.out.alloc (.cells #[.int .i64 (i : Int)] 3)).grown hgrow fun e => by have := hng _ e.symm; omega)
              have HB4 := Lib.hid ((HB3.out.alloc (.cells #[.int .i64 (i : Int)] 3)).grown hgrow fun e => by have := hng _ e.symm; omega)
              have HS4 : Hid (gn + 1 ≤ w1.heap.size) := Nat.le_trans (by have h := HS3.out; simp at h ⊢; omega) hgrow.size
              clear hown1 hgrow hng HO3 HF3 HNX3 HG3 HB3 HS3
              go_wp2_with fail
              go_roundg (k + 1 - (i + 1))
              case measure => omega
              case rel => exact ⟨i + 1, _, fs ++ [i], by omega, rfl, by go_num, HR2, HO4, HNX4, HG4, HB4, HF4, HS4⟩
          · obtain rfl : i = k := by omega
            have hlt' : ¬ (i : Int) < (i : Int) := by omega
            have HRF2 := Lib.hid (show A.Ref m out nx fs m.next.length by rw [← HN.out]; exact HRF.out)
            by_cases hcc : fs.length = c
            · have HCO : Hid (A.ClsOK m nx fs.length) := HRF2.out.done HFI.out HPRE.out hcc
              have hI := HNX.out.ints_
              rw [HRF2.out.len, ← HN.out] at hI
              have HI := Lib.hid hI
              have hcb : ((fs.length : Int) == (c : Int)) = true := by rw [hcc]; simp
              clear hI
              go_wp2_with fail
              go_ret
              exact ⟨_, rfl, nx, HI.out.mono_ fun b hb => by have := HW1.out; omega, ⟨_, HCO.out⟩, HF.out⟩
            · have hcb : ((fs.length : Int) == (c : Int)) = false := by rw [beq_eq_false_iff_ne]; omega
              have HPRE2 : Hid (A.Pre m nx fs.length) := HRF2.out.pre HFI.out HPRE.out
              have hmore := (HRF2.out.more HPRE.out).1
              go_wp2_with fail
              go_roundg (i + 1 - fs.length)
              case measure => omega
              case rel => exact ⟨nx, fs.length, gn, rfl, hfl, rfl, rfl, HW1.out, HPRE2, HNX, HB, HF⟩
end Go.Proofs.Ytiekaicbjinbaaa
end
section
namespace Go.Proofs.Ytiekaicbjinbaaa
open Go.RowKit
theorem all_rep {l : List Int} {N : Nat} {x : Int} (hl : l.length = N) (h : ∀ s, s < N → l.getD s 0 = x) : l = List.replicate N x := by
  refine List.ext_getElem (by simp [hl]) fun i h1 h2 => ?_
  have := h i (by omega)
  simp only [List.getElem_replicate]
  simpa [h1] using this
set_option maxRecDepth 100000 in
set_option maxHeartbeats 16000000 in
theorem found_any {w : World} {P : Nat → Prop} {v : Value} {m : A.Mac} (h : MachAt w P v m) (hf : A.Fits m) (hn : m.next.length ≤ 4000) (hl3 : m.letters ≤ 300) :
    Calls Try.prog 45 #[v] w fun e w' => ∃ v1 v2 st, e = .returned (.tuple #[v1, v2]) ∧ Ints w' (fun b => w.heap.size ≤ b) v1 st.1 ∧ Ints w' (fun b => w.heap.size ≤ b) v2 st.2 ∧ A.fndO m m.next.length 0 (A.fnd0 m) = some st ∧ Frm (fun _ => False) w w' := by
  obtain ⟨A1, c1, A2, c2, rfl⟩ := h.form
  obtain ⟨N, hN⟩ : ∃ N, N = m.next.length := ⟨_, rfl⟩
  have hNf : N = m.fin.length := by rw [hN]; exact hf.fin
  have HB0 : Hid (Blk (w.alloc (.cells #[.int .i64 m.letters, .int .i64 m.start, .slice A1 m.next.length c1, .slice A2 m.fin.length c2] 25)) w.heap.size 25 #[.int .i64 m.letters, .int .i64 m.start, .slice A1 m.next.length c1, .slice A2 m.fin.length c2]) := Blk.new w _ _
  have HF0 : Hid (Frm (fun _ => False) w (w.alloc (.cells #[.int .i64 m.letters, .int .i64 m.start, .slice A1 m.next.length c1, .slice A2 m.fin.length c2] 25))) := (Frm.refl _ w).alloc _
  have HM := Lib.hid h
  have HFI := Lib.hid hf
  have HN := Lib.hid hN
  have HNF := Lib.hid hNf
  rw [← hN, ← hNf] at HB0 HF0
  rw [← hN] at hn ⊢
  rw [← hNf]
  have hl0 := hf.letters
  have x2 := HB0.out.cell 2
  have hmk := run_make_row' (P := Try.prog) 28 3 (.int .i64 0) 8 Try.underlying28 info_int rfl .i64 .i64 N (by omega) (by omega)
  obtain ⟨stE, hE, hEok, _⟩ := A.fndO_ok hf N 0 _ (A.fnd0_ok hf) (by omega)
  have HE := Lib.hid hE
  have HST := Lib.hid hf.start
  clear h hf hN hNf hE hEok
  go_enter Try.func45, Try.ntmps45
  go_wp2_with fail
  have HG : Hid (Blk ((w.alloc (.cells #[.int .i64 m.letters, .int .i64 m.start, .slice A1 N c1, .slice A2 N c2] 25)).alloc (.cells (madeCells #[.int .i64 0] N) 3)) (w.heap.size + 1) 3 (intCs (List.replicate N 0))) := by rw [← intCs_made]; exact blk_at (by simp)
  have HB1 := Lib.hid (HB0.out.alloc (.cells (madeCells #[.int .i64 0] N) 3))
  have HF1 := Lib.hid (HF0.out.alloc (.cells (madeCells #[.int .i64 0] N) 3))
  have HLW : Hid (w.heap.size + 2 ≤ ((w.alloc (.cells #[.int .i64 m.letters, .int .i64 m.start, .slice A1 N c1, .slice A2 N c2] 25)).alloc (.cells (madeCells #[.int .i64 0] N) 3)).heap.size) := by show _ ≤ _; simp
  generalize (w.alloc (.cells #[.int .i64 m.letters, .int .i64 m.start, .slice A1 N c1, .slice A2 N c2] 25)).alloc (.cells (madeCells #[.int .i64 0] N) 3) = w1 at *
  clear hmk x2 HB0 HF0
  go_loopg [5] (N + 1) (fun n u wr => ∃ (k : Nat) (l : List Int), k ≤ N ∧ n = N + 1 - k ∧ u = .int .i64 (k : Int) ∧ l.length = N ∧ Hid (∀ s, s < k → l.getD s 0 = -1) ∧ Hid (Blk wr (w.heap.size + 1) 3 (intCs l)) ∧ Hid (Blk wr w.heap.size 25 #[.int .i64 m.letters, .int .i64 m.start, .slice A1 N c1, .slice A2 N c2]) ∧ Hid (Frm (fun _ => False) w wr) ∧ Hid (w.heap.size + 2 ≤ wr.heap.size))
  case atStart => exact ⟨0, _, Nat.zero_le _, rfl, rfl, List.length_replicate .., fun s hs => absurd hs (Nat.not_lt_zero s), HG, HB1, HF1, HLW⟩
  case round =>
    clear HG HB1 HF1 HLW
    obtain ⟨k, l, hk, rfl, rfl, hll, HC, HG, HB, HF, HLW⟩ := hrel
    by_cases hlt : k < N
    · have hlt' : (k : Int) < (N : Int) := by omega
      have hkl : k < l.length := by omega
      have y0 := (HG.out.cell k).trans (intCs_getD hkl)
      have yf := HG.out.frozen k
      have FS : Frm (fun b => b = w.heap.size + 1) wr (wr.setCell ⟨w.heap.size + 1, k, none⟩ (.int .i64 (-1))) := Frm.one _ k _
      have HG2 : Hid (Blk (wr.setCell ⟨w.heap.size + 1, k, none⟩ (.int .i64 (-1))) (w.heap.size + 1) 3 (intCs (l.set k (-1)))) := by rw [← intCs_set]; exact HG.out.set_ k _
      have HB2 := Lib.hid (FS.blk HB.out (by omega))
      have HF2 : Hid (Frm (fun _ => False) w (wr.setCell ⟨w.heap.size + 1, k, none⟩ (.int .i64 (-1)))) := ((HF.out.mono fun _ _ h => h.elim).trans FS).mono fun b hb h => by omega
      have HL2 : Hid (w.heap.size + 2 ≤ (wr.setCell ⟨w.heap.size + 1, k, none⟩ (.int .i64 (-1))).heap.size) := show _ ≤ _ from Nat.le_trans HLW.out FS.1
      have HC2 : Hid (∀ s, s < k + 1 → (l.set k (-1)).getD s 0 = -1) := fun s hs => by
        rw [A.getD_setR hkl]
        split
        · rfl
        · exact HC.out s (by omega)
      clear FS
      go_wp2_with fail
      go_roundg (N + 1 - (k + 1))
      case measure => omega
      case rel => exact ⟨k + 1, _, by omega, rfl, by go_num, by rw [List.length_set]; exact hll, HC2, HG2, HB2, HF2, HL2⟩
    · obtain rfl : k = N := by omega
      have hlt' : ¬ (k : Int) < (k : Int) := by omega
      obtain rfl : l = List.replicate k (-1) := all_rep hll HC.out
      have x1 := HB.out.cell 1
      have x1' := (HB.out.alloc (.cells #[] 3)).cell 1
      obtain ⟨hs0, hs1⟩ := HST.out
      by_cases hst : m.start < 0
      · have HE2 : Hid (stE = ([], List.replicate k (-1))) := by
          have h := HE.out
          unfold A.fnd0 at h
          rw [if_pos hst] at h
          unfold A.fndO at h
          rw [dif_neg (by simp), HN.out.symm] at h
          exact (Option.some.inj h).symm
        have HI := Lib.hid ((HG.out.alloc (.cells #[] 3)).ints_)
        have HFA := Lib.hid (HF.out.alloc (.cells #[] 3))
        have hI0 : Ints (wr.alloc (.cells #[] 3)) (fun b => w.heap.size ≤ b) (.slice (some ⟨wr.heap.size, 0, none⟩) 0 0) [] := ⟨_, _, rfl, fun k hk => absurd hk (Nat.not_lt_zero k)⟩
        have hI1 : Ints (wr.alloc (.cells #[] 3)) (fun b => w.heap.size ≤ b) (.slice (some ⟨w.heap.size + 1, 0, none⟩) k k) (List.replicate k (-1)) := by
          have h := HI.out.mono_ (Q := fun b => w.heap.size ≤ b) fun b hb => by omega
          rw [List.length_replicate] at h
          exact h
        have HE4 := HE.out
        rw [HE2.out] at HE4
        have HI0 := Lib.hid hI0
        have HI1 := Lib.hid hI1
        have HE5 := Lib.hid HE4
        clear hI0 hI1 HE4
        go_wp2_with fail
        refine bodyPost_ret (v := .tuple #[.slice (some ⟨wr.heap.size, 0, none⟩) 0 0, .slice (some ⟨w.heap.size + 1, 0, none⟩) k k]) (by simp [results, Try.results45, go_sem]) rfl ⟨_, _, rfl, _, HI0.out, _, HI1.out, HE5.out, HFA.out⟩
      · obtain ⟨t, ht⟩ := Int.eq_ofNat_of_zero_le (show 0 ≤ m.start by omega)
        have htk : t < k := by have := HN.out; omega
        have htk' : (t : Int) < (k : Int) := by omega
        have HOW : Hid (OwnInts (wr.alloc (.cells #[] 3)) (w.heap.size + 2) (.slice (some ⟨wr.heap.size, 0, none⟩) 0 0) []) := World.ownsRow_made (base := w.heap.size + 2) (e := 3) (size := 1) wr #[] 0 HLW.out (by decide) rfl
        obtain ⟨i0, hi0, hz0, hz1, hz2⟩ := info_parts info_int
        have HT := Lib.hid ht
        rw [ht] at HB x1 x1' hst hs0 hs1
        rw [ht]
        clear ht
        go_wp2_with (at_builtin; refine wpList_append_own _ rfl _ _ 28 rfl (w.heap.size + 2) 3 i0 (.int .i64 0) 1 8 Try.underlying28 hi0 hz0 hz1 hz2 rfl (by decide) _ _ _ rfl (HOW.out.alloc _) ⟨wr.heap.size + 1, 0, none⟩ 1 1 [.int .i64 (t : Int)] rfl rfl ?y1 ?y2 ?y3 ?y4 ?y5 ?_)
        case y2 => simp [Value.oneCell']
        case y3 => decide
        case y5 => have := HLW.out; simp at this ⊢; omega
        intro v' w2 hown2 hgrow _
        obtain ⟨A9, c9, rfl⟩ := own_form hown2
        have hng : ∀ g', (Value.slice (some (⟨wr.heap.size, 0, none⟩ : Addr)) 0 0).ownBlock = some g' → w.heap.size + 2 ≤ g' := own_ge HOW.out
        have HF2 : Hid (Frm (fun _ => False) w w2) := ((HF.out.alloc _).alloc _).grown hgrow fun g' hg' _ => by have := hng g' hg'.symm.symm; omega
        have HO2 : Hid (OwnInts w2 (w.heap.size + 2) (.slice A9 1 c9) [(t : Int)]) := OwnInts.grown (l := []) rfl hown2
        have HG2 := Lib.hid (((HG.out.alloc (.cells #[] 3)).alloc (.cells #[.int .i64 (t : Int)] 3)).grown hgrow fun e => by have := hng _ e.symm; omega)
        have HB2 := Lib.hid (((HB.out.alloc (.cells #[] 3)).alloc (.cells #[.int .i64 (t : Int)] 3)).grown hgrow fun e => by have := hng _ e.symm; omega)
        have HLW2 : Hid (w.heap.size + 2 ≤ w2.heap.size) := Nat.le_trans (by have h := HLW.out; simp at h ⊢; omega) hgrow.size
        clear hown2 hgrow hng HOW HF HG HB HLW x1 x1'
        have x1 := HB2.out.cell 1
        have y0 := (HG2.out.cell t).trans (intCs_getD (by simpa using htk))
        have yf := HG2.out.frozen t
        have FS : Frm (fun b => b = w.heap.size + 1) w2 (w2.setCell ⟨w.heap.size + 1, t, none⟩ (.int .i64 0)) := Frm.one _ t _
        have HG3 : Hid (Blk (w2.setCell ⟨w.heap.size + 1, t, none⟩ (.int .i64 0)) (w.heap.size + 1) 3 (intCs ((List.replicate k (-1)).set t 0))) := by rw [← intCs_set]; exact HG2.out.set_ t _
        have HB3 := Lib.hid (FS.blk HB2.out (by omega))
        have HF3 : Hid (Frm (fun _ => False) w (w2.setCell ⟨w.heap.size + 1, t, none⟩ (.int .i64 0))) := ((HF2.out.mono fun _ _ h => h.elim).trans FS).mono fun b hb h => by omega
        have HO3 : Hid (OwnInts (w2.setCell ⟨w.heap.size + 1, t, none⟩ (.int .i64 0)) (w.heap.size + 2) (.slice A9 1 c9) [(t : Int)]) := HO2.out.frm FS fun b hb => by omega
        have HL3 : Hid (w.heap.size + 2 ≤ (w2.setCell ⟨w.heap.size + 1, t, none⟩ (.int .i64 0)).heap.size) := show _ ≤ _ from Nat.le_trans HLW2.out FS.1
        have HE3 : Hid (A.fndO m k 0 ([(t : Int)], (List.replicate k (-1)).set t 0) = some stE) := by
          have h := HE.out
          unfold A.fnd0 at h
          rw [HT.out, if_neg (by omega), Int.toNat_natCast, ← HN.out] at h
          exact h
        clear FS HF2 HG2 HB2 HO2 HLW2
        go_wp2_with fail
        clear y0 yf x1
        have HOK : Hid (A.FOK m 0 ([(t : Int)], (List.replicate k (-1)).set t 0)) := by
          have h := A.fnd0_ok HFI.out
          unfold A.fnd0 at h
          rw [HT.out, if_neg (by omega), Int.toNat_natCast, ← HN.out] at h
          exact h
        go_loopg [6, 7] k (fun n u6 u7 wr => ∃ (i : Nat) (st : A.FS), u7 = .int .i64 (i : Int) ∧ Hid (A.fndO m n i st = some stE) ∧ Hid (A.FOK m i st) ∧ Hid (OwnInts wr (w.heap.size + 2) u6 st.1) ∧ Hid (Blk wr (w.heap.size + 1) 3 (intCs st.2)) ∧ Hid (Blk wr w.heap.size 25 #[.int .i64 m.letters, .int .i64 (t : Int), .slice A1 k c1, .slice A2 k c2]) ∧ Hid (Frm (fun _ => False) w wr) ∧ Hid (w.heap.size + 2 ≤ wr.heap.size))
        case atStart => exact ⟨0, _, rfl, HE3, HOK, HO3, HG3, HB3, HF3, HL3⟩
        case round =>
          clear HE3 HOK HO3 HG3 HB3 HF3 HL3
          obtain ⟨i, st, rfl, HEN, HOK, HO, HG, HB, HF, HLW⟩ := hrel
          obtain ⟨A6, c6, rfl⟩ := own_form HO.out
          have hle := HOK.out.le
          rw [← HN.out] at hle
          have hen := HEN.out
          unfold A.fndO at hen
          by_cases hlt : i < st.1.length
          · have hlt' : (i : Int) < (st.1.length : Int) := by omega
            rw [dif_pos hlt] at hen
            cases gk with
            | zero => cases hen
            | succ n =>
            dsimp only at hen
            obtain ⟨hq1, hq2, _⟩ := HOK.out.ord i hlt
            obtain ⟨q, hq⟩ := Int.eq_ofNat_of_zero_le hq1
            rw [hq] at hen hq2
            have HQ := Lib.hid hq
            have HEN2 := Lib.hid hen
            have hqn : q < m.next.length := by omega
            clear hen hq hq1 hq2 HEN
            go_wp2_with fail
            go_loopg [6, 8] (m.letters.toNat + 1) (fun n u6 u8 wr => ∃ (j : Nat) (st' : A.FS), (j : Int) ≤ m.letters ∧ n = m.letters.toNat + 1 - j ∧ u8 = .int .i64 (j : Int) ∧ Hid (st' = A.fRow m q j st) ∧ Hid (OwnInts wr (w.heap.size + 2) u6 st'.1) ∧ Hid (Blk wr (w.heap.size + 1) 3 (intCs st'.2)) ∧ Hid (Blk wr w.heap.size 25 #[.int .i64 m.letters, .int .i64 (t : Int), .slice A1 k c1, .slice A2 k c2]) ∧ Hid (Frm (fun _ => False) w wr) ∧ Hid (w.heap.size + 2 ≤ wr.heap.size))
            case atStart => exact ⟨0, st, hl0, rfl, rfl, rfl, HO, HG, HB, HF, HLW⟩
            case round =>
              clear HO HG HB HF HLW
              obtain ⟨j, st', hj, rfl, rfl, HSE, HO, HG, HB, HF, HLW⟩ := hrel
              obtain ⟨A6', c6', rfl⟩ := own_form HO.out
              have x0 := HB.out.cell 0
              have x2 := HB.out.cell 2
              by_cases hlj : (j : Int) < m.letters
              · obtain ⟨hok', hext, _⟩ := A.fRow_ok HFI.out HOK.out hqn j (by omega)
                rw [← HSE.out] at hok' hext
                have HOK' := Lib.hid hok'
                have hle' := hok'.le
                rw [← HN.out] at hle'
                have hil' : i < st'.1.length := Nat.lt_of_lt_of_le hlt hext.pre.length_le
                have hil2 : (i : Int) < (st'.1.length : Int) := by omega
                obtain ⟨g6, rfl, hg6, d0⟩ := OwnInts.at_ (l := st'.1) HO.out hil'
                have hgi : st'.1.getD i 0 = (q : Int) := by
                  have := A.getElem_pre hext.pre hlt
                  simp [hil', this, HQ.out]
                rw [hgi] at d0
                obtain ⟨gn, on, A3, c3, hA, hca, hrow⟩ := HM.out.next_at hqn
                subst hA
                obtain ⟨hr1, hr2⟩ := HFI.out.rows _ (List.getElem_mem hqn)
                have hjl : j < m.next[q].length := by omega
                obtain ⟨g3, o3, hA3, _, hcj⟩ := hrow j hjl
                subst hA3
                have d1 := HF.out.cell id hca
                have d2 := HF.out.cell id hcj
                obtain ⟨hx0, hx1⟩ := hr2 _ (List.getElem_mem hjl)
                have HEX : Hid (A.lead m q j = m.next[q][j]) := by
                  show _ = _
                  unfold A.lead
                  rw [if_neg (by omega)]
                  simp [hqn, hjl]
                have hjk : (j : Int) < (m.next[q].length : Int) := by omega
                have hqk : (q : Int) < (k : Int) := by have := HN.out; omega
                clear hca hcj hrow hr1 hr2 hok' hext hgi
                generalize m.next[q][j] = x at *
                clear hjl
                generalize m.next[q].length = lenq at *
                have HSN : Hid (A.fStep m q st' j = A.fRow m q (j + 1) st) := by rw [HSE.out]; rfl
                go_wp2_with fail
                go_quiet (fail)
                have HO1 : Hid (OwnInts (wr.drewN nq) (w.heap.size + 2) (.slice (some ⟨g6, 0, none⟩) st'.1.length c6') st'.1) := HO.out
                have HG1 := Lib.hid (HG.out.drewN nq)
                have HB1 := Lib.hid (HB.out.drewN nq)
                have HF1 := Lib.hid (HF.out.drewN nq)
                have HL1 : Hid (w.heap.size + 2 ≤ (wr.drewN nq).heap.size) := HLW.out
                generalize wr.drewN nq = wq at *
                clear HO HG HB HF HLW d0 d1 d2 x0 x2
                have hstay : A.fStep m q st' j = st' → Hid (st' = A.fRow m q (j + 1) st) := fun h => by show _ = _; rw [← HSN.out, h]
                have HSTAY := Lib.hid hstay
                clear hstay
                by_cases hx : 0 ≤ x
                case neg =>
                  have hx' : x < 0 := by omega
                  have HS2 := HSTAY.out (by unfold A.fStep; rw [HEX.out, if_neg (fun h => hx h.1)])
                  go_wp2_with fail
                  go_roundg (m.letters.toNat + 1 - (j + 1))
                  case measure => omega
                  case rel => exact ⟨j + 1, st', by omega, by omega, by go_num, HS2, HO1, HG1, HB1, HF1, HL1⟩
                obtain ⟨p, rfl⟩ := Int.eq_ofNat_of_zero_le hx
                have hpk : (p : Int) < (k : Int) := by have := HN.out; omega
                have hpl : p < st'.2.length := by have := HOK'.out.len; have := HN.out; omega
                have y0 := (HG1.out.cell p).trans (intCs_getD hpl)
                have yf := HG1.out.frozen p
                obtain ⟨pv, hpv⟩ : ∃ pv, pv = st'.2.getD p 0 := ⟨_, rfl⟩
                rw [← hpv] at y0
                have HPV := Lib.hid hpv
                clear hpv
                by_cases hp : pv < 0
                case neg =>
                  have hp' : ¬ pv < 0 := hp
                  have HS2 := HSTAY.out (by unfold A.fStep; rw [HEX.out, Int.toNat_natCast, ← HPV.out, if_neg (fun h => hp h.2)])
                  go_wp2_with fail
                  go_roundg (m.letters.toNat + 1 - (j + 1))
                  case measure => omega
                  case rel => exact ⟨j + 1, st', by omega, by omega, by go_num, HS2, HO1, HG1, HB1, HF1, HL1⟩
                have HS2 : Hid ((st'.1 ++ [(p : Int)], st'.2.set p (st'.1.length : Int)) = A.fRow m q (j + 1) st) := by
                  show _ = _
                  rw [← HSN.out]
                  unfold A.fStep
                  rw [HEX.out, Int.toNat_natCast, ← HPV.out, if_pos ⟨hx, hp⟩]
                have FS : Frm (fun b => b = w.heap.size + 1) wq (wq.setCell ⟨w.heap.size + 1, p, none⟩ (.int .i64 (st'.1.length : Int))) := Frm.one _ p _
                have HG3 : Hid (Blk (wq.setCell ⟨w.heap.size + 1, p, none⟩ (.int .i64 (st'.1.length : Int))) (w.heap.size + 1) 3 (intCs (st'.2.set p (st'.1.length : Int)))) := by rw [← intCs_set]; exact HG1.out.set_ p _
                have HB3 := Lib.hid (FS.blk HB1.out (by omega))
                have HF3 : Hid (Frm (fun _ => False) w (wq.setCell ⟨w.heap.size + 1, p, none⟩ (.int .i64 (st'.1.length : Int)))) := ((HF1.out.mono fun _ _ h => h.elim).trans FS).mono fun b hb h => by omega
                have HO3 : Hid (OwnInts (wq.setCell ⟨w.heap.size + 1, p, none⟩ (.int .i64 (st'.1.length : Int))) (w.heap.size + 2) (.slice (some ⟨g6, 0, none⟩) st'.1.length c6') st'.1) := HO1.out.frm FS fun b hb => by omega
                have HL3 : Hid (w.heap.size + 2 ≤ (wq.setCell ⟨w.heap.size + 1, p, none⟩ (.int .i64 (st'.1.length : Int))).heap.size) := show _ ≤ _ from Nat.le_trans HL1.out FS.1
                obtain ⟨i0, hi0, hz0, hz1, hz2⟩ := info_parts info_int
                clear FS HG1 HB1 HF1 HO1 HL1
                go_wp2_with (at_builtin; refine wpList_append_own _ rfl _ _ 28 rfl (w.heap.size + 2) 3 i0 (.int .i64 0) 1 8 Try.underlying28 hi0 hz0 hz1 hz2 rfl (by decide) _ _ _ rfl (HO3.out.alloc _) ⟨wq.heap.size, 0, none⟩ 1 1 [.int .i64 (p : Int)] rfl rfl ?z1 ?z2 ?z3 ?z4 ?z5 ?_)
                case z1 => exact cell_one_at (by simp)
                case z2 => simp [Value.oneCell']
                case z3 => unfold maxLen; omega
                case z4 => omega
                case z5 => have := HL3.out; simp at this ⊢; omega
                intro v' w4 hown1 hgrow _
                obtain ⟨A9, c9, rfl⟩ := own_form hown1
                have hng : ∀ g', (Value.slice (some (⟨g6, 0, none⟩ : Addr)) st'.1.length c6').ownBlock = some g' → w.heap.size + 2 ≤ g' := own_ge HO3.out
                have HF4 : Hid (Frm (fun _ => False) w w4) := (HF3.out.alloc _).grown hgrow fun g' hg' _ => by have := hng g' hg'.symm.symm; omega
                have HO4 : Hid (OwnInts w4 (w.heap.size + 2) (.slice A9 (st'.1.length + 1) c9) (st'.1 ++ [(p : Int)])) := OwnInts.grown rfl hown1
                have HG4 := Lib.hid ((HG3.out.alloc (.cells #[.int .i64 (p : Int)] 3)).grown hgrow fun e => by have := hng _ e.symm; omega)
                have HB4 := Lib.hid ((HB3.out.alloc (.cells #[.int .i64 (p : Int)] 3)).grown hgrow fun e => by have := hng _ e.symm; omega)
                have HL4 : Hid (w.heap.size + 2 ≤ w4.heap.size) := Nat.le_trans (by have h := HL3.out; simp at h ⊢; omega) hgrow.size
                clear hown1 hgrow hng HO3 HF3 HG3 HB3 HL3 y0 yf
                go_wp2_with fail
                go_roundg (m.letters.toNat + 1 - (j + 1))
                case measure => omega
                case rel => exact ⟨j + 1, (st'.1 ++ [(p : Int)], st'.2.set p (st'.1.length : Int)), by omega, by omega, by go_num, HS2, HO4, HG4, HB4, HF4, HL4⟩
              · have HEN3 : Hid (A.fndO m n (i + 1) st' = some stE) := by
                  have h := HEN2.out
                  have hj2 : m.letters.toNat = j := by omega
                  rw [hj2, ← HSE.out] at h
                  exact h
                have HOK2 : Hid (A.FOK m (i + 1) st') := by
                  have h := (A.fRow_next HFI.out HOK.out hlt).1
                  have hj2 : m.letters.toNat = j := by omega
                  rw [HQ.out, hj2] at h
                  rw [HSE.out]
                  exact h
                go_wp2_with fail
                go_roundg n
                case measure => omega
                case rel => exact ⟨i + 1, st', by go_num, HEN3, HOK2, HO, HG, HB, HF, HLW⟩
          · have hlt' : ¬ (i : Int) < (st.1.length : Int) := by omega
            rw [dif_neg hlt] at hen
            obtain rfl : st = stE := Option.some.inj hen
            have hI0 : Ints wr (fun b => w.heap.size ≤ b) (.slice A6 st.1.length c6) st.1 := ⟨_, _, rfl, fun j hj => by
              obtain ⟨g6, e6, hg6, d6⟩ := OwnInts.at_ (l := st.1) HO.out hj
              exact ⟨g6, 0, e6, by omega, by rw [Nat.zero_add, d6]; simp [hj]⟩⟩
            have hI1 : Ints wr (fun b => w.heap.size ≤ b) (.slice (some ⟨w.heap.size + 1, 0, none⟩) k k) st.2 := by
              have h := HG.out.ints_.mono_ (Q := fun b => w.heap.size ≤ b) fun b hb => by omega
              rw [HOK.out.len, ← HN.out] at h
              exact h
            have HI0 := Lib.hid hI0
            have HI1 := Lib.hid hI1
            clear hI0 hI1 hen
            go_wp2_with fail
            refine bodyPost_ret (v := .tuple #[.slice A6 st.1.length c6, .slice (some ⟨w.heap.size + 1, 0, none⟩) k k]) (by simp [results, Try.results45, go_sem]) rfl ⟨_, _, rfl, _, HI0.out, _, HI1.out, HE.out, HF.out⟩
end Go.Proofs.Ytiekaicbjinbaaa
end
section
namespace Go.Proofs.Ytiekaicbjinbaaa
open Go.RowKit
set_option maxRecDepth 100000 in
set_option maxHeartbeats 4000000 in
theorem none_any {w : World} (k : Int) : Calls Try.prog 44 #[.int .i64 k] w fun e w' => e = .returned (.agg #[.int .i64 k, .int .i64 (-1), .slice none 0 0, .slice none 0 0]) ∧ Frm (fun _ => False) w w' := by
  go_enter Try.func44, Try.ntmps44
  go_wp2_with fail
  refine bodyPost_ret (v := .agg #[.int .i64 k, .int .i64 (-1), .slice none 0 0, .slice none 0 0]) ?_ rfl ⟨rfl, (Frm.refl _ w).alloc _⟩
  have z := Blk.new w 25 #[.int .i64 k, .int .i64 (-1), .slice none 0 0, .slice none 0 0]
  have z0 := z.cell 0
  have z1 := z.cell 1
  have z2 := z.cell 2
  have z3 := z.cell 3
  simp [results, Try.results44, go_sem, z0, z1, z2, z3]
end Go.Proofs.Ytiekaicbjinbaaa
end
section
namespace Go.Proofs.Ytiekaicbjinbaaa
open Go.RowKit
namespace A
def LeastO (f : Nat) (m : Mac) : Option (Mac × Int) := if valid m = 0 then (match leastO f m with
  | none => none
  | some r => some (r, 0)) else some (⟨0, 0, [], []⟩, 1)
end A
theorem Ints.mono {w : World} {P Q : Nat → Prop} {v : Value} {l : List Int} (h : Ints w P v l) (hPQ : ∀ b, P b → Q b) : Ints w Q v l := by
  obtain ⟨A0, c, e, h⟩ := h
  exact ⟨A0, c, e, fun k hk => by obtain ⟨g, o, h1, h2, h3⟩ := h k hk; exact ⟨g, o, h1, hPQ g h2, h3⟩⟩
theorem Rows2.mono {w : World} {P Q : Nat → Prop} {v : Value} {l : List (List Int)} (h : Rows2 w P v l) (hPQ : ∀ b, P b → Q b) : Rows2 w Q v l := by
  obtain ⟨A0, c, e, h⟩ := h
  exact ⟨A0, c, e, fun k hk => by obtain ⟨g, o, rv, h1, h2, h3, h4⟩ := h k hk; exact ⟨g, o, rv, h1, hPQ g h2, h3, h4.mono hPQ⟩⟩
theorem Bools.mono {w : World} {P Q : Nat → Prop} {v : Value} {l : List Bool} (h : Bools w P v l) (hPQ : ∀ b, P b → Q b) : Bools w Q v l := by
  obtain ⟨A0, c, e, h⟩ := h
  exact ⟨A0, c, e, fun k hk => by obtain ⟨g, o, h1, h2, h3⟩ := h k hk; exact ⟨g, o, h1, hPQ g h2, h3⟩⟩
theorem MachAt.mono {w : World} {P Q : Nat → Prop} {v : Value} {m : A.Mac} (h : MachAt w P v m) (hPQ : ∀ b, P b → Q b) : MachAt w Q v m := by
  obtain ⟨nv, ev, e, h1, h2⟩ := h
  exact ⟨nv, ev, e, h1.mono hPQ, h2.mono hPQ⟩
set_option maxRecDepth 100000 in
set_option maxHeartbeats 8000000 in
theorem Least_any {w : World} {P : Nat → Prop} {v : Value} {m m2 : A.Mac} {f : Nat} {c : Int} (h : MachAt w P v m) (hsz : Sized m) (hfl : f ≤ 100000) (hr : A.LeastO f m = some (m2, c)) :
    Calls Try.prog 15 #[v] w fun e w' => ∃ r, e = .returned (.tuple #[r, .int .i64 c]) ∧ MachAt w' (fun b => w.heap.size ≤ b) r m2 ∧ Frm (fun _ => False) w w' := by
  obtain ⟨A1, c1, A2, c2, rfl⟩ := h.form
  have HRS := Lib.hid hr
  have HSZ := Lib.hid hsz
  have HB0 : Hid (Blk ((w.alloc (.cells #[.int .i64 m.letters, .int .i64 m.start, .slice A1 m.next.length c1, .slice A2 m.fin.length c2] 25)).alloc (.cells #[.int .i64 0, .int .i64 0, .slice none 0 0, .slice none 0 0] 25)) w.heap.size 25 #[.int .i64 m.letters, .int .i64 m.start, .slice A1 m.next.length c1, .slice A2 m.fin.length c2]) := (Blk.new w _ _).alloc _
  have HR0 : Hid (Blk ((w.alloc (.cells #[.int .i64 m.letters, .int .i64 m.start, .slice A1 m.next.length c1, .slice A2 m.fin.length c2] 25)).alloc (.cells #[.int .i64 0, .int .i64 0, .slice none 0 0, .slice none 0 0] 25)) (w.heap.size + 1) 25 #[.int .i64 0, .int .i64 0, .slice none 0 0, .slice none 0 0]) := blk_at (by simp)
  have F0 : Frm (fun _ => False) w ((w.alloc (.cells #[.int .i64 m.letters, .int .i64 m.start, .slice A1 m.next.length c1, .slice A2 m.fin.length c2] 25)).alloc (.cells #[.int .i64 0, .int .i64 0, .slice none 0 0, .slice none 0 0] 25)) := ((Frm.refl _ w).alloc _).alloc _
  have HM := Lib.hid (h.keep0 F0)
  have HF0 := Lib.hid F0
  have HS0 : Hid (w.heap.size + 2 ≤ ((w.alloc (.cells #[.int .i64 m.letters, .int .i64 m.start, .slice A1 m.next.length c1, .slice A2 m.fin.length c2] 25)).alloc (.cells #[.int .i64 0, .int .i64 0, .slice none 0 0, .slice none 0 0] 25)).heap.size) := show _ ≤ _ by simp
  clear F0 h hr hsz
  go_enter Try.func15, Try.ntmps15
  go_wp2_with fail
  refine (valid_any HM.out HSZ.out).mono ?_
  rintro _ w1 ⟨rfl, f1⟩
  have HB1 := Lib.hid (f1.blk HB0.out id)
  have HR1 := Lib.hid (f1.blk HR0.out id)
  have HM1 := Lib.hid (HM.out.keep0 f1)
  have HF1 := Lib.hid (HF0.out.trans f1)
  have HS1 : Hid (w.heap.size + 2 ≤ w1.heap.size) := Nat.le_trans HS0.out f1.1
  clear f1 HB0 HR0 HM HF0 HS0
  have x0 := HB1.out.cell 0
  have x1 := HB1.out.cell 1
  have x2 := HB1.out.cell 2
  have x3 := HB1.out.cell 3
  have r0 := HR1.out.cell 0
  have r1 := HR1.out.cell 1
  have r2 := HR1.out.cell 2
  have r3 := HR1.out.cell 3
  have q0 := HR1.out.frozen 0
  have q1 := HR1.out.frozen 1
  have q2 := HR1.out.frozen 2
  have q3 := HR1.out.frozen 3
  have hrs := HRS.out
  unfold A.LeastO at hrs
  by_cases hv : A.valid m = 0
  · rw [if_pos hv] at hrs
    split at hrs
    · cases hrs
    rename_i r hl
    injection hrs with hrs
    obtain ⟨rfl, rfl⟩ : m2 = r ∧ c = 0 := ⟨(congrArg Prod.fst hrs).symm, (congrArg Prod.snd hrs).symm⟩
    obtain ⟨hfit, hl3, hn⟩ := A.valid_fits hv
    have HL := Lib.hid hl
    have HFI := Lib.hid hfit
    have HLN : Hid (m.next.length ≤ 100000 ∧ m.letters ≤ 300) := ⟨by omega, hl3⟩
    rw [hv]
    clear hrs hl hfit hl3 hn hv HRS
    go_wp2_with fail
    refine (least_any HM1.out HFI.out HLN.out.1 HLN.out.2 hfl HL.out).mono ?_
    rintro _ w2 ⟨r, rfl, m2', f2⟩
    obtain ⟨B1, d1, B2, d2, rfl⟩ := m2'.form
    have HM2 := Lib.hid m2'
    have HR2 := Lib.hid (f2.blk HR1.out id)
    have HF2 := Lib.hid (HF1.out.trans f2)
    have HS2 : Hid (w.heap.size + 2 ≤ w2.heap.size) := Nat.le_trans HS1.out f2.1
    clear f2 m2' x0 x1 x2 x3 r0 r1 r2 r3 q0 q1 q2 q3
    have r0 := HR2.out.cell 0
    have r1 := HR2.out.cell 1
    have r2 := HR2.out.cell 2
    have r3 := HR2.out.cell 3
    have q0 := HR2.out.frozen 0
    have q1 := HR2.out.frozen 1
    have q2 := HR2.out.frozen 2
    have q3 := HR2.out.frozen 3
    go_wp2_with fail
    have h4 := put4_blk (l := .int .i64 m2.letters) (s := .int .i64 m2.start) (n := .slice B1 m2.next.length d1) (e := .slice B2 m2.fin.length d2) HR2.out
    have h5 := put4_frm1 (w := w2) (b := w.heap.size + 1) (l := .int .i64 m2.letters) (s := .int .i64 m2.start) (n := .slice B1 m2.next.length d1) (e := .slice B2 m2.fin.length d2)
    refine bodyPost_ret (w := put4 w2 (w.heap.size + 1) (.int .i64 m2.letters) (.int .i64 m2.start) (.slice B1 m2.next.length d1) (.slice B2 m2.fin.length d2)) (v := .tuple #[.agg #[.int .i64 m2.letters, .int .i64 m2.start, .slice B1 m2.next.length d1, .slice B2 m2.fin.length d2], .int .i64 0]) ?_ rfl ⟨_, rfl, ?_, put4_frm HF2.out (by omega)⟩
    · generalize put4 w2 (w.heap.size + 1) (.int .i64 m2.letters) (.int .i64 m2.start) (.slice B1 m2.next.length d1) (.slice B2 m2.fin.length d2) = w4 at *
      have y0 := h4.cell 0
      have y1 := h4.cell 1
      have y2 := h4.cell 2
      have y3 := h4.cell 3
      simp [results, Try.results15, go_sem, y0, y1, y2, y3]
    · have := HS1.out
      exact (HM2.out.keep h5 fun b hb e => by omega).mono fun b hb => by omega
  · rw [if_neg hv] at hrs
    injection hrs with hrs
    obtain ⟨rfl, rfl⟩ : m2 = ⟨0, 0, [], []⟩ ∧ c = 1 := ⟨(congrArg Prod.fst hrs).symm, (congrArg Prod.snd hrs).symm⟩
    have hv' : (A.valid m != 0) = true := by rw [bne_iff_ne]; exact hv
    clear hv hrs HRS x0 x1 x2 x3
    go_wp2_with fail
    refine bodyPost_ret (w := put4 w1 (w.heap.size + 1) (.int .i64 0) (.int .i64 0) (.slice none 0 0) (.slice none 0 0)) (v := .tuple #[.agg #[.int .i64 0, .int .i64 0, .slice none 0 0, .slice none 0 0], .int .i64 1]) ?_ rfl ⟨_, rfl, ⟨_, _, rfl, ⟨none, 0, rfl, fun k hk => absurd hk (Nat.not_lt_zero _)⟩, ⟨none, 0, rfl, fun k hk => absurd hk (Nat.not_lt_zero _)⟩⟩, put4_frm HF1.out (by omega)⟩
    have h4 := put4_blk (l := .int .i64 0) (s := .int .i64 0) (n := .slice none 0 0) (e := .slice none 0 0) HR1.out
    generalize put4 w1 (w.heap.size + 1) (.int .i64 0) (.int .i64 0) (.slice none 0 0) (.slice none 0 0) = w4 at *
    have y0 := h4.cell 0
    have y1 := h4.cell 1
    have y2 := h4.cell 2
    have y3 := h4.cell 3
    simp [results, Try.results15, go_sem, y0, y1, y2, y3]
end Go.Proofs.Ytiekaicbjinbaaa
end
