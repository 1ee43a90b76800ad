/- least. Relate, where two machines are the same and few pairs are found. Plain facts of the search for pairs: it finds just the pairs that words lead to, and, sorted, they are a relation that shows that two machines are the same. Two machines joined: the machine of the pairs accepts what a rule takes; plain. The ways into a state (arrive) and the living states (livO): what they say; plain. The living states: livO gives an answer with little fuel, and it tells what lives; plain. The partition told by plain functions; marking; plain. Splitting a class; plain. Dividing by a set of states: touch, splits, divideO; plain. Contracts of the program's functions, with no condition beyond what each theorem states. -/
import Derived.Test.YtldmjpnldgekaaaC06
import Derived.Deep.RegionHeld3
import Derived.Test.YtldmjpnldgekaaaC05
import Derived.Test.YtldmjpnldgekaaaC03
import Derived.Test.YtldmjpnldgekaaaC04
import Derived.Test.YtldmjpnldgekaaaC01
section
namespace Go.Proofs.Ytldmjpnldgekaaa
open Go.RowKit
namespace A
/-- The ways into the states are few, and come from states. -/
def waysOk (m : Mac) : Bool := decide ((arrive m).length = m.next.length) && (arrive m).all fun l => decide (l.length ≤ 30000000) && l.all fun a => decide (0 ≤ a.1) && decide (a.1 < (m.next.length : Int))
/-- Whether a found class stands for a state. -/
def endOk (m : Mac) (d : Pd) (c : Int) : Bool := decide (0 ≤ c) && decide (c < (d.beg.length : Int)) && decide (0 ≤ d.beg.getD c.toNat 0) && decide (d.beg.getD c.toNat 0 < (d.row.length : Int)) && decide (0 ≤ d.row.getD (d.beg.getD c.toNat 0).toNat 0) && decide (d.row.getD (d.beg.getD c.toNat 0).toNat 0 < (m.fin.length : Int))
def endOf (m : Mac) (d : Pd) (c : Int) : Bool := m.fin.getD (d.row.getD (d.beg.getD c.toNat 0).toNat 0).toNat false
def startOk (m : Mac) (d : Pd) : Bool := decide (m.start < (d.cls.length : Int)) && decide (-1000000 ≤ d.cls.getD m.start.toNat 0) && decide (d.cls.getD m.start.toNat 0 ≤ 1000000) && decide (d.beg.length ≤ 1000000)
def leastO (f : Nat) (m : Mac) : Option Mac :=
  if waysOk m then match livO (arrive m) f 0 m.fin (trues m.fin m.next.length) with
  | none => none
  | some al => if m.start = -1 then some ⟨m.letters, -1, [], []⟩ else if al.getD m.start.toNat false then match classesO f m (arrive m) al with
    | none => none
    | some d => if startOk m d then match searchO (nxt m d) f (d.cls.getD m.start.toNat 0) (-1) m.letters.toNat d.beg.length with
      | none => none
      | some (ts, rows) => if ts.all (endOk m d) && decide (ts.length ≤ 1000001) then some ⟨m.letters, 0, rows, ts.map (endOf m d)⟩ else none
      else none
    else some ⟨m.letters, -1, [], []⟩
  else none
theorem waysOk.len {m : Mac} (h : waysOk m = true) : (arrive m).length = m.next.length := by
  simp only [waysOk, Bool.and_eq_true, decide_eq_true_eq] at h
  exact h.1
theorem waysOk.short {m : Mac} (h : waysOk m = true) : Short (arrive m) 30000000 := fun i => by
  simp only [waysOk, Bool.and_eq_true, decide_eq_true_eq, List.all_eq_true] at h
  rcases Nat.lt_or_ge i (arrive m).length with hi | hi
  · rw [show (arrive m).getD i [] = (arrive m)[i] by simp [hi]]
    exact (h.2 _ (List.getElem_mem hi)).1
  · rw [show (arrive m).getD i [] = [] by simp [hi]]
    exact Nat.zero_le _
theorem waysOk.from_ {m : Mac} (h : waysOk m = true) : FromIn (arrive m) m.next.length := fun i a ha => by
  simp only [waysOk, Bool.and_eq_true, decide_eq_true_eq, List.all_eq_true] at h
  rcases Nat.lt_or_ge i (arrive m).length with hi | hi
  · rw [show (arrive m).getD i [] = (arrive m)[i] by simp [hi]] at ha
    exact (h.2 _ (List.getElem_mem hi)).2 a ha
  · rw [show (arrive m).getD i [] = [] by simp [hi]] at ha
    cases ha
end A
theorem cell_lt {w : World} {g i : Nat} {v : Value} (h : w.cell? ⟨g, i, none⟩ = some v) : g < w.heap.size := by
  rcases Nat.lt_or_ge g w.heap.size with hl | hl
  · exact hl
  · simp [World.cell?, Array.getElem?_eq_none hl] at h
theorem Rows2.lt {w : World} {P : Nat → Prop} {v : Value} {l : List (List Int)} (h : Rows2 w P v l) : Rows2 w (fun b => P b ∧ b < w.heap.size) v l := by
  obtain ⟨A0, c, e, h⟩ := h
  refine ⟨A0, c, e, fun k hk => ?_⟩
  obtain ⟨g, o, rv, h1, h2, h3, A1, c1, e1, h4⟩ := h k hk
  refine ⟨g, o, rv, h1, ⟨h2, cell_lt h3⟩, h3, A1, c1, e1, fun j hj => ?_⟩
  obtain ⟨g', o', a1, a2, a3⟩ := h4 j hj
  exact ⟨g', o', a1, ⟨a2, cell_lt a3⟩, a3⟩
namespace A
/-- The ends of the first k found classes. -/
def endsTo (m : Mac) (d : Pd) (ts : List Int) (k : Nat) : List Bool := (ts.take k).map (endOf m d) ++ List.replicate (ts.length - k) false
theorem endsTo_len (m : Mac) (d : Pd) (ts : List Int) {k : Nat} (hk : k ≤ ts.length) : (endsTo m d ts k).length = ts.length := by simp [endsTo]; omega
theorem endsTo_zero (m : Mac) (d : Pd) (ts : List Int) : endsTo m d ts 0 = List.replicate ts.length false := by simp [endsTo]
theorem endsTo_all (m : Mac) (d : Pd) (ts : List Int) : endsTo m d ts ts.length = ts.map (endOf m d) := by simp [endsTo]
theorem endsTo_succ (m : Mac) (d : Pd) (ts : List Int) {k : Nat} (hk : k < ts.length) : (endsTo m d ts k).set k (endOf m d (ts.getD k 0)) = endsTo m d ts (k + 1) := by
  unfold endsTo
  rw [List.set_append_right _ _ (by simp; omega), show ts.length - k = (ts.length - (k + 1)) + 1 by omega, List.replicate_succ]
  have e : k - ((ts.take k).map (endOf m d)).length = 0 := by simp; omega
  rw [e, List.set_cons_zero, List.take_add_one, List.map_append]
  simp [hk]
end A
/-- What a round of the ends keeps: all but the ends' row. -/
def Lq (wr w' : World) (eb k : Nat) : Prop := Frm (fun b => b = eb) wr w' ∧ ∃ l : List Bool, k < l.length ∧ Blk w' eb 4 (boolCs l)
theorem Lq.call {wr w1 w2 : World} {eb k : Nat} (h : Lq wr w1 eb k) (F : Frm (fun _ => False) w1 w2) : Lq wr w2 eb k := by
  obtain ⟨h1, l, h2, h3⟩ := h
  exact ⟨h1.trans (F.mono fun _ _ h => h.elim), l, h2, F.blk h3 id⟩
theorem Lq.put {wr w1 : World} {eb k : Nat} (h : Lq wr w1 eb k) (b : Bool) : Lq wr (w1.setCell ⟨eb, k, none⟩ (.bool b)) eb k := by
  obtain ⟨h1, l, h2, h3⟩ := h
  refine ⟨h1.trans ((Frm.refl (fun b => b = eb) w1).set_ (p := ⟨eb, k, none⟩) (fun _ => rfl) _), l.set k b, by simpa using h2, ?_⟩
  rw [← boolCs_set]
  exact h3.set_ k _
theorem Lq.six {wr w1 : World} {eb k g3 i3 g5 i5 g6 i6 : Nat} {v3 v5 v6 : Value} (x3 : wr.cell? ⟨g3, i3, none⟩ = some v3) (n3 : g3 ≠ eb) (x5 : wr.cell? ⟨g5, i5, none⟩ = some v5) (n5 : g5 ≠ eb) (x6 : wr.cell? ⟨g6, i6, none⟩ = some v6) (n6 : g6 ≠ eb) (h : Lq wr w1 eb k) : w1.cell? ⟨g3, i3, none⟩ = some v3 ∧ w1.cell? ⟨g5, i5, none⟩ = some v5 ∧ w1.cell? ⟨g6, i6, none⟩ = some v6 ∧ w1.cell? ⟨eb, k, none⟩ = some (held w1 ⟨eb, k, none⟩) ∧ w1.frozen? ⟨eb, k, none⟩ = false ∧ Lq wr w1 eb k := by
  have h' := h
  obtain ⟨h1, l, h2, h3⟩ := h
  have e : w1.cell? ⟨eb, k, none⟩ = some (.bool (l.getD k false)) := by rw [h3.cell k, boolCs_getD h2]
  exact ⟨h1.cell n3 x3, h1.cell n5 x5, h1.cell n6 x6, by rw [held, e]; rfl, h3.frozen k, h'⟩
def put4 (w : World) (b : Nat) (l s n e : Value) : World := (((w.setCell ⟨b, 0, none⟩ l).setCell ⟨b, 1, none⟩ s).setCell ⟨b, 2, none⟩ n).setCell ⟨b, 3, none⟩ e
theorem put4_blk {w : World} {b : Nat} {t : TypeId} {c0 c1 c2 c3 l s n e : Value} (h : Blk w b t #[c0, c1, c2, c3]) : Blk (put4 w b l s n e) b t #[l, s, n, e] := (((h.set_ 0 l).set_ 1 s).set_ 2 n).set_ 3 e
theorem put4_frm {w w2 : World} {b : Nat} {l s n e : Value} (h : Frm (fun _ => False) w w2) (hb : w.heap.size ≤ b) : Frm (fun _ => False) w (put4 w2 b l s n e) :=
  (((h.set_ (p := ⟨b, 0, none⟩) (fun h => absurd h (by simp; omega)) l).set_ (p := ⟨b, 1, none⟩) (fun h => absurd h (by simp; omega)) s).set_ (p := ⟨b, 2, none⟩) (fun h => absurd h (by simp; omega)) n).set_ (p := ⟨b, 3, none⟩) (fun h => absurd h (by simp; omega)) e
theorem put4_frm1 {w : World} {b : Nat} {l s n e : Value} : Frm (fun x => x = b) w (put4 w b l s n e) :=
  ((((Frm.refl (fun x => x = b) w).set_ (p := ⟨b, 0, none⟩) (fun _ => rfl) l).set_ (p := ⟨b, 1, none⟩) (fun _ => rfl) s).set_ (p := ⟨b, 2, none⟩) (fun _ => rfl) n).set_ (p := ⟨b, 3, none⟩) (fun _ => rfl) e
set_option maxRecDepth 100000 in
set_option maxHeartbeats 16000000 in
theorem least_any {w : World} {P : Nat → Prop} {v : Value} {m m2 : A.Mac} {f : Nat} (h : MachAt w P v m) (hf : A.Fits m) (hn : m.next.length ≤ 100000) (hl3 : m.letters ≤ 300) (hfl : f ≤ 100000) (hr : A.leastO f m = some m2) :
    Calls Try.prog 32 #[v] w fun e w' => ∃ r, e = .returned r ∧ MachAt w' (fun b => w.heap.size ≤ b) r m2 ∧ Frm (fun _ => False) w w' := by
  obtain ⟨A1, c1, A2, c2, rfl⟩ := h.form
  unfold A.leastO at hr
  split at hr
  case isFalse => cases hr
  rename_i hways
  split at hr
  · cases hr
  rename_i al hliv
  have HW := Lib.hid hways
  have HLV := Lib.hid hliv
  have HRS := Lib.hid hr
  have HFI := Lib.hid hf
  have hs1 : -1 ≤ m.start := hf.start.1
  have hs2 : m.start < (m.next.length : Int) := hf.start.2
  have HLT := Lib.hid hf.letters
  have HB0 : Hid (Blk ((w.alloc (.cells #[.int .i64 m.letters, .int .i64 m.start, .slice A1 m.next.length c1, .slice A2 m.fin.length c2] 25)).alloc (.cells #[.int .i64 0, .int .i64 0, .slice none 0 0, .slice none 0 0] 25)) w.heap.size 25 #[.int .i64 m.letters, .int .i64 m.start, .slice A1 m.next.length c1, .slice A2 m.fin.length c2]) := (Blk.new w _ _).alloc _
  have HR0 : Hid (Blk ((w.alloc (.cells #[.int .i64 m.letters, .int .i64 m.start, .slice A1 m.next.length c1, .slice A2 m.fin.length c2] 25)).alloc (.cells #[.int .i64 0, .int .i64 0, .slice none 0 0, .slice none 0 0] 25)) (w.heap.size + 1) 25 #[.int .i64 0, .int .i64 0, .slice none 0 0, .slice none 0 0]) := blk_at (by simp)
  have F0 : Frm (fun _ => False) w ((w.alloc (.cells #[.int .i64 m.letters, .int .i64 m.start, .slice A1 m.next.length c1, .slice A2 m.fin.length c2] 25)).alloc (.cells #[.int .i64 0, .int .i64 0, .slice none 0 0, .slice none 0 0] 25)) := ((Frm.refl _ w).alloc _).alloc _
  have HM := Lib.hid (h.keep0 F0)
  have HF0 := Lib.hid F0
  clear F0 hf h hways hliv hr
  go_enter Try.func32, Try.ntmps32
  go_wp2_with fail
  refine (arrivals_any HM.out HFI.out hn hl3).mono ?_
  rintro _ w1 ⟨ob, rfl, p1, f1⟩
  have HAR := Lib.hid p1
  have HB1 := Lib.hid (f1.blk HB0.out id)
  have HR1 := Lib.hid (f1.blk HR0.out id)
  have HM1 := Lib.hid (HM.out.keep0 f1)
  have HF1 := Lib.hid (HF0.out.trans f1)
  have HS0 : Hid (w.heap.size + 2 ≤ w1.heap.size) := show _ ≤ _ by have := f1.1; simpa using this
  clear p1 f1 HB0 HR0 HM HF0
  have x0 := HB1.out.cell 0
  have x1 := HB1.out.cell 1
  have x2 := HB1.out.cell 2
  have x3 := HB1.out.cell 3
  go_wp2_with fail
  refine (living_any HM1.out HFI.out hn HAR.out (A.waysOk.len HW.out) (A.waysOk.short HW.out) (A.waysOk.from_ HW.out) HLV.out hfl).mono ?_
  rintro _ w2 ⟨ga, rfl, hga, b2, hal, f2⟩
  have HAR2 := Lib.hid (Rws.frm HAR.out f2 fun _ _ _ => id)
  have HAL := Lib.hid b2
  have HALL := Lib.hid hal
  have HB2 := Lib.hid (f2.blk HB1.out id)
  have HR2 := Lib.hid (f2.blk HR1.out id)
  have HM2 := Lib.hid (HM1.out.keep0 f2)
  have HF2 := Lib.hid (HF1.out.trans f2)
  have HS2 : Hid (w.heap.size + 2 ≤ w2.heap.size) := show _ ≤ _ by have := f2.1; have := HS0.out; omega
  clear x0 x1 x2 x3 b2 f2 hga hal HAR HB1 HR1 HM1 HF1 HS0
  have hrs := HRS.out
  have x0 := HB2.out.cell 0
  have x1 := HB2.out.cell 1
  have r0 := HR2.out.cell 0
  have r1 := HR2.out.cell 1
  have r2 := HR2.out.cell 2
  have r3 := HR2.out.cell 3
  have q0 := HR2.out.frozen 0
  have q1 := HR2.out.frozen 1
  have q2 := HR2.out.frozen 2
  have q3 := HR2.out.frozen 3
  by_cases hst : m.start = -1
  · rw [if_pos hst] at hrs
    injection hrs with hrs
    subst hrs
    clear hs1 hs2
    rw [hst] at x1
    go_wp2_with fail
    refine bodyPost_ret (w := put4 w2 (w.heap.size + 1) (.int .i64 m.letters) (.int .i64 (-1)) (.slice none 0 0) (.slice none 0 0)) (v := .agg #[.int .i64 m.letters, .int .i64 (-1), .slice none 0 0, .slice none 0 0]) ?_ rfl ⟨_, rfl, ⟨_, _, rfl, ⟨none, 0, rfl, fun k hk => absurd hk (Nat.not_lt_zero _)⟩, ⟨none, 0, rfl, fun k hk => absurd hk (Nat.not_lt_zero _)⟩⟩, put4_frm HF2.out (by omega)⟩
    have h4 := put4_blk (l := .int .i64 m.letters) (s := .int .i64 (-1)) (n := .slice none 0 0) (e := .slice none 0 0) HR2.out
    generalize put4 w2 (w.heap.size + 1) (.int .i64 m.letters) (.int .i64 (-1)) (.slice none 0 0) (.slice none 0 0) = w4 at *
    have y0 := h4.cell 0
    have y1 := h4.cell 1
    have y2 := h4.cell 2
    have y3 := h4.cell 3
    simp [results, Try.results32, go_sem, y0, y1, y2, y3]
  · rw [if_neg hst] at hrs
    obtain ⟨s, hs⟩ : ∃ s : Nat, m.start = (s : Int) := ⟨m.start.toNat, by omega⟩
    rw [hs, Int.toNat_natCast] at hrs
    rw [hs] at x1 hs2
    have hal := HALL.out
    have z0 := HAL.out.cell s
    rw [boolCs_getD (by omega)] at z0
    clear hs1 hst
    cases hb : al.getD s false with
    | false =>
      rw [hb] at hrs z0
      rw [if_neg (by decide)] at hrs
      injection hrs with hrs
      subst hrs
      clear hal hb
      go_wp2_with fail
      refine bodyPost_ret (w := put4 w2 (w.heap.size + 1) (.int .i64 m.letters) (.int .i64 (-1)) (.slice none 0 0) (.slice none 0 0)) (v := .agg #[.int .i64 m.letters, .int .i64 (-1), .slice none 0 0, .slice none 0 0]) ?_ rfl ⟨_, rfl, ⟨_, _, rfl, ⟨none, 0, rfl, fun k hk => absurd hk (Nat.not_lt_zero _)⟩, ⟨none, 0, rfl, fun k hk => absurd hk (Nat.not_lt_zero _)⟩⟩, put4_frm HF2.out (by omega)⟩
      have h4 := put4_blk (l := .int .i64 m.letters) (s := .int .i64 (-1)) (n := .slice none 0 0) (e := .slice none 0 0) HR2.out
      generalize put4 w2 (w.heap.size + 1) (.int .i64 m.letters) (.int .i64 (-1)) (.slice none 0 0) (.slice none 0 0) = w4 at *
      have y0 := h4.cell 0
      have y1 := h4.cell 1
      have y2 := h4.cell 2
      have y3 := h4.cell 3
      simp [results, Try.results32, go_sem, y0, y1, y2, y3]
    | true =>
      rw [hb] at hrs z0
      rw [if_pos rfl] at hrs
      split at hrs
      · cases hrs
      rename_i d hcls
      split at hrs
      case isFalse => cases hrs
      rename_i hso
      split at hrs
      · cases hrs
      rename_i ts rows hsr
      split at hrs
      case isFalse => cases hrs
      rename_i hends
      simp only [Bool.and_eq_true, decide_eq_true_eq] at hends
      obtain ⟨hends, htl⟩ := hends
      injection hrs with hrs
      subst hrs
      have HCLS := Lib.hid hcls
      have HSO := Lib.hid hso
      have HSR := Lib.hid hsr
      have HEN := Lib.hid hends
      have HTL := Lib.hid htl
      clear htl
      have HHS := Lib.hid hs
      have x2 := HB2.out.cell 2
      have x3 := HB2.out.cell 3
      clear hcls hso hsr hends hal hb
      go_wp2_with fail
      have hcl := classes_any HM2.out HFI.out hn hl3 HAR2.out (A.waysOk.len HW.out) HAL.out HALL.out HCLS.out
      rw [HHS.out] at hcl
      refine hcl.mono ?_
      clear hcl
      rintro _ w3 ⟨pb, rfl, p3, f3⟩
      have HP3 := Lib.hid p3
      have HB3 := Lib.hid (f3.blk HB2.out id)
      have HR3 := Lib.hid (f3.blk HR2.out id)
      have HM3 := Lib.hid (HM2.out.keep0 f3)
      have HF3 := Lib.hid (HF2.out.trans f3)
      have HS3 : Hid (w2.heap.size ≤ w3.heap.size) := f3.1
      clear x0 x1 x2 x3 r0 r1 r2 r3 q0 q1 q2 q3 z0 p3 f3 HAR2 HAL HALL HB2 HR2 HM2 HF2
      go_wp2_with fail
      obtain ⟨cb, hcb⟩ : ∃ cb, cb = w3.heap.size := ⟨_, rfl⟩
      obtain ⟨L, hL⟩ : ∃ L : Nat, m.letters = (L : Int) := ⟨m.letters.toNat, by have := HLT.out; omega⟩
      obtain ⟨wb, hwb⟩ : ∃ wb, wb = w3.alloc (.cells #[.pointer (some ⟨pb, 0, none⟩)] 77) := ⟨_, rfl⟩
      have Fb : Frm (fun _ => False) w3 wb := by rw [hwb]; exact (Frm.refl _ w3).alloc _
      have k5 : wb.cell? ⟨cb, 0, none⟩ = some (.pointer (some ⟨pb, 0, none⟩)) := by rw [hwb, hcb]; exact (Blk.new w3 _ _).cell 0
      have HB4 := Lib.hid (Fb.blk HB3.out id)
      have HR4 := Lib.hid (Fb.blk HR3.out id)
      have HM4 := Lib.hid (HM3.out.keep0 Fb)
      have HP4 := Lib.hid (HP3.out.frm Fb fun _ _ _ => id)
      have HF4 := Lib.hid (HF3.out.trans Fb)
      have HS4 : Hid (w.heap.size + 2 ≤ wb.heap.size) := show _ ≤ _ by have := Fb.1; have := HS3.out; have := HS2.out; omega
      have x0 := HB4.out.cell 0
      have x1 := HB4.out.cell 1
      rw [show (#[Value.int .i64 m.letters, .int .i64 m.start, .slice A1 m.next.length c1, .slice A2 m.fin.length c2] : Array Value)[0]? = some (.int .i64 m.letters) from rfl, hL] at x0
      rw [show (#[Value.int .i64 m.letters, .int .i64 m.start, .slice A1 m.next.length c1, .slice A2 m.fin.length c2] : Array Value)[1]? = some (.int .i64 m.start) from rfl, HHS.out] at x1
      have hso := HSO.out
      simp only [A.startOk, Bool.and_eq_true, decide_eq_true_eq, HHS.out, Int.toNat_natCast] at hso
      obtain ⟨⟨⟨so1, so2⟩, so3⟩, so4⟩ := hso
      obtain ⟨vf, hv⟩ := HP4.out
      obtain ⟨g2, z2, e2, k2, _, l2, _⟩ := hv.at_ (i := 2) (j := s) (by decide) (show s < d.cls.length by omega)
      obtain ⟨A3, z3, e3, k3, _⟩ := hv.slot (i := 3) (by decide)
      rw [show (d.f 3).length = d.beg.length from rfl] at k3
      rw [show (d.f 2).length = d.cls.length from rfl] at k2
      rw [show (d.f 2).getD s 0 = d.cls.getD s 0 from rfl] at l2
      have HNX : Hid (∀ W', Frm (fun _ => False) wb W' → ∀ (x k y : Int) (W : World), A.nxt m d x k = some y → Frm (fun _ => False) W' W → okI y ∧ Calls Try.prog 55 #[.int .i64 x, .int .i64 k, .pointer (some ⟨w.heap.size, 0, none⟩), .pointer (some ⟨cb, 0, none⟩)] W fun e w' => e = .returned (.int .i64 y) ∧ Frm (fun _ => False) W w') := fun W' hW' x k y W hy hW => by
        have hF := hW'.trans hW
        obtain ⟨h1, h2⟩ := least1_q (HM4.out.keep0 hF) (hF.blk HB4.out id) (hF.cell id k5) (HP4.out.frm hF fun _ _ _ => id) hy
        exact ⟨h1, h2.mono fun e w' ⟨a, n, b⟩ => ⟨a, by rw [b]; exact (Frm.refl _ W).drewN n⟩⟩
      have HOK1 : Hid (okI (d.cls.getD s 0)) := okI_small so2 so3
      have HOK2 : Hid (okI (-1)) := okI_small (by decide) (by decide)
      have HSR2 : Hid (A.searchO (A.nxt m d) f (d.cls.getD s 0) (-1) L d.beg.length = some (ts, rows)) := by
        have := HSR.out
        rw [hL, Int.toNat_natCast] at this
        exact this
      have so1' : (s : Int) < (d.cls.length : Int) := by have := so1; omega
      have HL := Lib.hid hL
      have HSO4 : Hid (d.beg.length ≤ 1000000) := so4
      have HLL : Hid (L ≤ 300) := show _ ≤ _ by omega
      rw [← hcb, ← hwb]
      clear so1 so2 so3 so4 hv e2 e3 hwb Fb HB3 HR3 HM3 HP3 HF3 HS3 hL hcb HSR
      generalize d.cls.getD s 0 = st at *
      go_region_held3 (fun w' => w'.cell? ⟨w.heap.size, 0, none⟩ = some (.int .i64 (L : Int)) ∧ w'.cell? ⟨w.heap.size, 1, none⟩ = some (.int .i64 (s : Int)) ∧ w'.cell? ⟨cb, 0, none⟩ = some (.pointer (some ⟨pb, 0, none⟩)) ∧ w'.cell? ⟨pb, 2, none⟩ = some (.slice (some ⟨g2, 0, none⟩) d.cls.length z2) ∧ w'.cell? ⟨pb, 3, none⟩ = some (.slice A3 d.beg.length z3) ∧ w'.cell? ⟨g2, s, none⟩ = some (.int .i64 st) ∧ Frm (fun _ => False) wb w')
        (first | exact ⟨x0, x1, k5, k2, k3, l2, Frm.refl _ _⟩ | exact ⟨x0, x1, k5, k2, k3, l2, (Frm.refl _ _).drew⟩ | (go_split_ands; exact ⟨Frm.cell (by assumption) id (by assumption), Frm.cell (by assumption) id (by assumption), Frm.cell (by assumption) id (by assumption), Frm.cell (by assumption) id (by assumption), Frm.cell (by assumption) id (by assumption), Frm.cell (by assumption) id (by assumption), Frm.trans (by assumption) (by assumption)⟩))
        (first | (go_at_call 54; obtain ⟨-, -, -, -, -, -, hFx⟩ := ‹_ ∧ _ ∧ _ ∧ _ ∧ _ ∧ _ ∧ Frm (fun _ => False) wb _›; refine (searchI_any (HNX.out _ hFx) HOK1.out HOK2.out HLL.out (by omega) (by have := HSO4.out; omega) HSR2.out).mono ?_; clear hFx; rintro e w5 ⟨uT, uR, rfl, o5, r5, f5⟩))
      have F5 : Frm (fun _ => False) wb w5 := f5
      have HB5 := Lib.hid (F5.blk HB4.out id)
      have HR5 := Lib.hid (F5.blk HR4.out id)
      have HM5 := Lib.hid (HM4.out.keep0 F5)
      have HP5 := Lib.hid (HP4.out.frm F5 fun _ _ _ => id)
      have HF5 := Lib.hid (HF4.out.trans F5)
      have HS5 : Hid (w.heap.size + 2 ≤ w5.heap.size) := show _ ≤ _ by have := F5.1; have := HS4.out; omega
      have HK5 : Hid (w5.cell? ⟨cb, 0, none⟩ = some (.pointer (some ⟨pb, 0, none⟩))) := F5.cell id k5
      have HO5 : Hid (OwnInts w5 wb.heap.size uT ts) := o5
      have HRO5 : Hid (Rows2 w5 (fun b => wb.heap.size ≤ b ∧ b < w5.heap.size) uR rows) := r5.lt
      obtain ⟨AT, cT, rfl⟩ := own_form HO5.out
      clear x0 x1 k5 k2 k3 l2 o5 r5 f5 F5 HB4 HR4 HM4 HP4 HF4 HNX HOK1 HOK2 HSR2
      clear ‹_ ∧ _ ∧ _ ∧ _ ∧ _ ∧ _ ∧ Frm (fun _ => False) wb _›
      have htl := HTL.out
      have hmk := run_make_row' (P := Try.prog) 23 4 (.bool false) 1 Try.underlying23 info_bool rfl .i64 .i64 ts.length (by omega) (by omega)
      clear htl
      go_wp2_with fail
      obtain ⟨eb, heb⟩ : ∃ eb, eb = w5.heap.size := ⟨_, rfl⟩
      obtain ⟨w6, hw6⟩ : ∃ w6, w6 = w5.alloc (.cells (madeCells #[.bool false] ts.length) 4) := ⟨_, rfl⟩
      have F6 : Frm (fun b => b = eb) w5 w6 := by rw [hw6]; exact (Frm.refl _ w5).alloc _
      have HEB0 : Hid (Blk w6 eb 4 (boolCs (A.endsTo m d ts 0))) := by
        rw [hw6, heb, A.endsTo_zero, ← boolCs_made]; exact Blk.new w5 _ _
      have HF6 : Hid (Frm (fun b => b = eb) w5 w6) := F6
      have HEB : Hid (eb = w5.heap.size) := heb
      rw [← heb, ← hw6]
      clear heb hw6 F6 hmk
      go_loopg [61] (ts.length + 1) (fun n i wr => ∃ k : Nat, k ≤ ts.length ∧ n = ts.length + 1 - k ∧ i = .int .i64 (k : Int) ∧ Hid (Blk wr eb 4 (boolCs (A.endsTo m d ts k))) ∧ Hid (Frm (fun b => b = eb) w5 wr))
      case atStart => exact ⟨0, Nat.zero_le _, rfl, rfl, HEB0, HF6⟩
      case round =>
        clear HEB0 HF6
        obtain ⟨k, hk, rfl, rfl, HE, HF⟩ := hrel
        by_cases hlt : k < ts.length
        · have hlt' : (k : Int) < (ts.length : Int) := by omega
          obtain ⟨g7, rfl, hg7, l7⟩ := OwnInts.at_ (HO5.out) hlt
          have hg7' : g7 ≠ eb := by have := cell_lt l7; have := HEB.out; omega
          have l8 := HF.out.cell hg7' l7
          have hen := List.all_eq_true.1 HEN.out (ts.getD k 0) (by simp [List.getD, hlt])
          have HSET := Lib.hid (A.endsTo_succ m d ts hlt)
          simp only [A.endOk, Bool.and_eq_true, decide_eq_true_eq] at hen
          obtain ⟨⟨⟨⟨⟨n1, n2⟩, n3⟩, n4⟩, n5⟩, n6⟩ := hen
          unfold A.endOf at HSET
          generalize ts.getD k 0 = c0 at *
          obtain ⟨c, rfl⟩ : ∃ q : Nat, c0 = (q : Int) := ⟨c0.toNat, by omega⟩
          rw [Int.toNat_natCast] at n3 n4 n5 n6 HSET
          obtain ⟨b, hb⟩ : ∃ q : Nat, d.beg.getD c 0 = (q : Int) := ⟨(d.beg.getD c 0).toNat, by omega⟩
          rw [hb, Int.toNat_natCast] at n5 n6 HSET
          rw [hb] at n4
          obtain ⟨sk, hsk⟩ : ∃ q : Nat, d.row.getD b 0 = (q : Int) := ⟨(d.row.getD b 0).toNat, by omega⟩
          rw [hsk, Int.toNat_natCast] at HSET
          rw [hsk] at n6
          have hskl : sk < m.fin.length := by omega
          obtain ⟨g6, o6, rfl, l6⟩ := HM5.out.fin_at hskl
          have hg6 : g6 ≠ eb := by have := cell_lt l6; have := HEB.out; omega
          have l6' := HF.out.cell hg6 l6
          rw [show m.fin.getD sk false = m.fin[sk] by simp [hskl]] at HSET
          generalize m.fin[sk] = bo at *
          have hbx : w.heap.size ≠ eb := by have := HEB.out; have := HS5.out; omega
          have x3 := HF.out.cell hbx (HB5.out.cell 3)
          have hcb : cb ≠ eb := by have := cell_lt HK5.out; have := HEB.out; omega
          have k5 := HF.out.cell hcb HK5.out
          have HPW : Hid (Pt wr (fun b => w2.heap.size ≤ b ∧ b < w5.heap.size) pb d) := (HP5.out.mono fun b hb hs => ⟨hs, hb⟩).frm HF.out fun b _ h e => by have := HEB.out; omega
          have HONE : Hid (∀ W, Frm (fun b => b = eb) wr W → Calls Try.prog 56 #[.pointer (some ⟨pb, 0, none⟩), .int .i64 (c : Int)] W fun e w' => e = .returned (.int .i64 (sk : Int)) ∧ Frm (fun _ => False) W w') := fun W hW => by
            have := one_any (HPW.out.frm hW fun b _ h e => by have := HEB.out; omega) (k := c) (b := b) (by omega) hb (by omega)
            rw [hsk] at this
            exact this
          have hsk' : (sk : Int) < (m.fin.length : Int) := by omega
          have hel := A.endsTo_len m d ts hk
          have e1 := HE.out.cell k
          rw [boolCs_getD (by omega)] at e1
          have e2 := HE.out.frozen k
          have x3' : wr.cell? ⟨w.heap.size, 3, none⟩ = some (.slice (some ⟨g6, o6, none⟩) m.fin.length c2) := x3
          have HLX : Hid (∀ w', Lq wr w' eb k → _) := fun w' h => Lq.six x3' hbx k5 hcb l6' hg6 h
          have l0 : Lq wr wr eb k := ⟨Frm.refl _ _, _, by omega, HE.out⟩
          have HKL : Hid (k < (A.endsTo m d ts k).length) := show _ < _ by omega
          clear n1 n2 n3 n4 n5 n6 hb hsk l6 l7 hg7 hg7' hg6 hbx hcb hskl hel e1 e2 x3
          go_wp2_with fail
          go_region_held3 (fun w' => w'.cell? ⟨w.heap.size, 3, none⟩ = some (.slice (some ⟨g6, o6, none⟩) m.fin.length c2) ∧ w'.cell? ⟨cb, 0, none⟩ = some (.pointer (some ⟨pb, 0, none⟩)) ∧ w'.cell? ⟨g6, o6 + sk, none⟩ = some (.bool bo) ∧ w'.cell? ⟨eb, k, none⟩ = some (held w' ⟨eb, k, none⟩) ∧ w'.frozen? ⟨eb, k, none⟩ = false ∧ Lq wr w' eb k)
            (first | exact HLX.out _ l0 | exact HLX.out _ (l0.call (Frm.refl _ _).drew) | exact HLX.out _ (by assumption) | exact HLX.out _ (Lq.put (by assumption) _))
            (first | (go_at_call 56; obtain ⟨-, -, -, -, -, hLx⟩ := ‹_ ∧ _ ∧ _ ∧ _ ∧ _ ∧ Lq wr _ eb k›; refine (HONE.out _ hLx.1).mono ?_; rintro e w7 ⟨rfl, f7⟩; have hL7 := hLx.call f7))
          have HE7 : Hid (Blk (w7.setCell ⟨eb, k, none⟩ (.bool bo)) eb 4 (boolCs (A.endsTo m d ts (k + 1)))) := show Blk _ _ _ _ by
            have h7 : Blk w7 eb 4 (boolCs (A.endsTo m d ts k)) := Frm.blk f7 HE.out.drew id
            have := h7.set_ k (.bool bo)
            rw [boolCs_set, HSET.out] at this
            exact this
          have HF7 : Hid (Frm (fun b => b = eb) w5 (w7.setCell ⟨eb, k, none⟩ (.bool bo))) := (HF.out.trans (f7.mono fun _ _ h => h.elim)).set_ (p := ⟨eb, k, none⟩) (fun _ => rfl) _
          have hkb : (k : Int) + 1 ≤ 1000001 := by have := HTL.out; omega
          clear l0 hLx hL7 f7 HLX x3' k5 l6' l8
          clear ‹_ ∧ _ ∧ _ ∧ _ ∧ _ ∧ Lq wr _ eb k›
          go_wp2_with fail
          go_roundg (ts.length + 1 - (k + 1))
          case measure => omega
          case rel => exact ⟨k + 1, by omega, rfl, (by have := HTL.out; go_num), HE7, HF7⟩
        · have hkk : k = ts.length := by omega
          subst hkk
          have hlt' : ¬ (ts.length : Int) < (ts.length : Int) := by omega
          have hbx : w.heap.size ≠ eb := by have := HEB.out; have := HS5.out; omega
          have hrx : w.heap.size + 1 ≠ eb := by have := HEB.out; have := HS5.out; omega
          have x0 := HF.out.cell hbx (HB5.out.cell 0)
          have x0' : wr.cell? ⟨w.heap.size, 0, none⟩ = some (.int .i64 m.letters) := x0
          have HRX := Lib.hid (HF.out.blk HR5.out hrx)
          have r0 := HRX.out.cell 0
          have r1 := HRX.out.cell 1
          have r2 := HRX.out.cell 2
          have r3 := HRX.out.cell 3
          have q0 := HRX.out.frozen 0
          have q1 := HRX.out.frozen 1
          have q2 := HRX.out.frozen 2
          have q3 := HRX.out.frozen 3
          have HEE : Hid (Blk wr eb 4 (boolCs (ts.map (A.endOf m d)))) := show Blk _ _ _ _ by rw [← A.endsTo_all]; exact HE.out
          obtain ⟨AR, cR, rfl, hRR⟩ := HRO5.out
          have HRR := Lib.hid hRR
          clear x0 hlt hk HE hRR
          go_wp2_with fail
          have h4 := put4_blk (l := .int .i64 m.letters) (s := .int .i64 0) (n := .slice AR rows.length cR) (e := .slice (some ⟨eb, 0, none⟩) ts.length ts.length) HRX.out
          have h5 := put4_frm1 (w := wr) (b := w.heap.size + 1) (l := .int .i64 m.letters) (s := .int .i64 0) (n := .slice AR rows.length cR) (e := .slice (some ⟨eb, 0, none⟩) ts.length ts.length)
          refine bodyPost_ret (w := put4 wr (w.heap.size + 1) (.int .i64 m.letters) (.int .i64 0) (.slice AR rows.length cR) (.slice (some ⟨eb, 0, none⟩) ts.length ts.length)) (v := .agg #[.int .i64 m.letters, .int .i64 0, .slice AR rows.length cR, .slice (some ⟨eb, 0, none⟩) ts.length ts.length]) ?_ rfl ⟨_, rfl, ⟨_, _, rfl, ?_, ?_⟩, ?_⟩
          · generalize put4 wr (w.heap.size + 1) (.int .i64 m.letters) (.int .i64 0) (.slice AR rows.length cR) (.slice (some ⟨eb, 0, none⟩) ts.length ts.length) = w4 at *
            have y0 := h4.cell 0
            have y1 := h4.cell 1
            have y2 := h4.cell 2
            have y3 := h4.cell 3
            simp [results, Try.results32, go_sem, y0, y1, y2, y3]
          · have hk := (HRO5.out.keep HF.out fun b hb e => by have := HEB.out; omega).keep h5 fun b hb e => by have := HS4.out; omega
            obtain ⟨A9, c9, e9, h9⟩ := hk
            refine ⟨A9, c9, e9, fun k hk => ?_⟩
            obtain ⟨g, o, rv, a1, a2, a3, A8, c8, e8, h8⟩ := h9 k hk
            refine ⟨g, o, rv, a1, (by have := a2.1; have := HS4.out; omega), a3, A8, c8, e8, fun j hj => ?_⟩
            obtain ⟨g', o', b1, b2, b3⟩ := h8 j hj
            exact ⟨g', o', b1, (by have := b2.1; have := HS4.out; omega), b3⟩
          · have hb := h5.blk HEE.out (Ne.symm hrx)
            refine ⟨some ⟨eb, 0, none⟩, ts.length, by simp, fun k hk => ⟨eb, 0, rfl, (by have := HEB.out; have := HS5.out; omega), ?_⟩⟩
            rw [Nat.zero_add, hb.cell k, boolCs_getD hk]
            have hk2 : k < (ts.map (A.endOf m d)).length := hk
            congr 2
            show (ts.map (A.endOf m d)).getD k false = (ts.map (A.endOf m d))[k]
            generalize ts.map (A.endOf m d) = l at *
            simp [hk2]
          · have := (HF5.out.mono (E' := fun b => b = eb) fun _ _ h => h.elim).trans HF.out
            refine put4_frm (this.mono fun b hb e => ?_) (by omega)
            have := HEB.out
            have := HS5.out
            omega
end Go.Proofs.Ytldmjpnldgekaaa
end
section
namespace Go.Proofs.Ytldmjpnldgekaaa
open Go.RowKit
namespace A
/-- What a letter leads a pair to; none where it isn't one of the machines'. -/
def nxtP (a b : Mac) (p : Pr) (k : Int) : Option Pr := if -1 ≤ p.1 ∧ p.1 < a.next.length ∧ -1 ≤ p.2 ∧ p.2 < b.next.length ∧ 0 ≤ k ∧ k < a.letters then some (leadP a b p k) else none
end A
theorem okP_small {p : A.Pr} (h : BPr p) : okP p := ⟨okI_small (by have := h.1; omega) (by have := h.2.1; omega), okI_small (by have := h.2.2.1; omega) (by have := h.2.2.2; omega)⟩
theorem BPr.of_in {a b : A.Mac} {p : A.Pr} (ht : A.Two a b) (h : A.InP a b p) : BPr p := by
  obtain ⟨⟨h1, h2⟩, h3, h4⟩ := h
  have := ht.na
  have := ht.nb
  exact ⟨h1, by omega, h3, by omega⟩
theorem leadP_in {a b : A.Mac} {p : A.Pr} {k : Int} (ht : A.Two a b) (h : A.InP a b p) (h0 : 0 ≤ k) (hk : k < a.letters) : A.InP a b (A.leadP a b p k) := ⟨ht.fa.lead h.1 h0 hk, ht.fb.lead h.2 h0 (by have := ht.ll; omega)⟩
theorem own_base_ {w : World} {base base' n : Nat} {e : TypeId} {sz : Nat} {v : Value} {xs : List Value} (h : w.ownsRow base e sz v n xs) (hb : base' ≤ base) : w.ownsRow base' e sz v n xs := by
  refine ⟨h.1, ?_⟩
  rcases h.2 with h2 | ⟨g, cap, cur, e, h3, h4⟩
  · exact .inl h2
  · exact .inr ⟨g, cap, cur, e, Nat.le_trans hb h3, h4⟩
theorem own_some {w : World} {base n : Nat} {e : TypeId} {sz : Nat} {v : Value} {xs : List Value} (h : w.ownsRow base e sz v n xs) (hn : 0 < n) : ∃ g cap, v = .slice (some ⟨g, 0, none⟩) n cap ∧ base ≤ g := by
  rcases h.2 with ⟨_, h0⟩ | ⟨g, cap, cur, e, h3, h4⟩
  · omega
  · exact ⟨g, cap, e, h3⟩
set_option maxRecDepth 100000 in
set_option maxHeartbeats 8000000 in
theorem relate_yes {w : World} {P Q : Nat → Prop} {v v' : Value} {a b : A.Mac} {f : Nat} {zs : List DP} {rows : List (List Int)} (h : MachAt w P v a) (h' : MachAt w Q v' b) (hs : Sized a) (hs' : Sized b) (hfit : A.fit a b = 0) (ht : A.Two a b) (he : A.diffO f a b = some none) (hf : f ≤ 100000) (hst : a.start ≠ -1) (hsr : A.searchO (A.nxtP a b) f (a.start, b.start) (-1, -1) a.letters.toNat 20000 = some (zs.map (·.1), rows)) (hz : zs.length ≤ 4) (hz0 : 0 < zs.length) :
    Calls Try.prog 21 #[v, v'] w fun e w' => ∃ u, ∃ zs' : List DP, e = .returned (.tuple #[u, .int .i64 0]) ∧ zs'.Perm zs ∧ zs'.Pairwise (fun x y => ltOf cfP y x = false) ∧ w'.ownsRow w.heap.size 57 2 u zs.length (zs'.flatMap encP) ∧ Frm (fun _ => False) w w' := by
  obtain ⟨A1, c1, A2, c2, rfl⟩ := h.form
  obtain ⟨B1, d1, B2, d2, rfl⟩ := h'.form
  have HB0 : Hid (Bx w _ (macC a A1 c1 A2 c2) (macC b B1 d1 B2 d2)) := Bx.new w _ _
  have HM := Lib.hid h
  have HM' := Lib.hid h'
  have HSZ := Lib.hid hs
  have HSZ' := Lib.hid hs'
  have HE := Lib.hid he
  have HT := Lib.hid ht
  have HFIT := Lib.hid hfit
  have HST := Lib.hid hst
  have HSR := Lib.hid hsr
  have HZ := Lib.hid hz
  have HZ0 := Lib.hid hz0
  have e0 := HB0.out.ba.cell 0
  have e1 := HB0.out.ba.cell 1
  have e2 := HB0.out.ba.cell 2
  have e3 := HB0.out.ba.cell 3
  have g0 := HB0.out.bb.cell 0
  have g1 := HB0.out.bb.cell 1
  have g2 := HB0.out.bb.cell 2
  have g3 := HB0.out.bb.cell 3
  simp only [macC] at e0 e1 e2 e3 g0 g1 g2 g3
  clear h h' hs hs' he ht hfit hst hsr hz hz0
  go_enter Try.func21, Try.ntmps21
  go_wp2_with fail
  refine (fit_any (HM.out.keep0 HB0.out.fr) (HM'.out.keep0 HB0.out.fr) HSZ.out HSZ'.out).mono ?_
  rintro _ w1 ⟨rfl, f1⟩
  have HB1 := Lib.hid (HB0.out.call f1)
  rw [HFIT.out]
  clear e0 e1 e2 e3 g0 g1 g2 g3 f1 HB0
  have e0 := HB1.out.ba.cell 0
  have e1 := HB1.out.ba.cell 1
  have e2 := HB1.out.ba.cell 2
  have e3 := HB1.out.ba.cell 3
  have g0 := HB1.out.bb.cell 0
  have g1 := HB1.out.bb.cell 1
  have g2 := HB1.out.bb.cell 2
  have g3 := HB1.out.bb.cell 3
  simp only [macC] at e0 e1 e2 e3 g0 g1 g2 g3
  go_wp2_with fail
  refine (diff_any (HM.out.keep0 HB1.out.fr) (HM'.out.keep0 HB1.out.fr) HT.out HE.out hf).mono ?_
  rintro _ w2 ⟨rfl, f2⟩
  have HB2 := Lib.hid (HB1.out.call f2)
  clear e0 e1 e2 e3 g0 g1 g2 g3 f2 HB1
  have HB3 := Lib.hid (HB2.out.call ((Frm.refl _ w2).alloc (.cells #[.int .i64 0, .int .i64 0] 57)))
  have e0 := HB3.out.ba.cell 0
  have e1 := HB3.out.ba.cell 1
  have e2 := HB3.out.ba.cell 2
  have e3 := HB3.out.ba.cell 3
  have g0 := HB3.out.bb.cell 0
  have g1 := HB3.out.bb.cell 1
  have g2 := HB3.out.bb.cell 2
  have g3 := HB3.out.bb.cell 3
  simp only [macC] at e0 e1 e2 e3 g0 g1 g2 g3
  simp only [pairV]
  go_wp2_with fail
  refine (starts_any (HM.out.keep0 HB3.out.fr) (HM'.out.keep0 HB3.out.fr)).mono ?_
  rintro _ w3 ⟨rfl, f3⟩
  have HB4 := Lib.hid (HB3.out.call f3)
  clear e0 e1 e2 e3 g0 g1 g2 g3 f3 HB2 HB3
  simp only [pairV]
  go_wp2_with fail
  refine (nowhere_any w3).mono ?_
  rintro _ w4 ⟨rfl, f4⟩
  have HB5 := Lib.hid (HB4.out.call f4)
  clear f4 HB4
  have e0 := HB5.out.ba.cell 0
  have e1 := HB5.out.ba.cell 1
  have e2 := HB5.out.ba.cell 2
  have e3 := HB5.out.ba.cell 3
  have g0 := HB5.out.bb.cell 0
  have g1 := HB5.out.bb.cell 1
  have g2 := HB5.out.bb.cell 2
  have g3 := HB5.out.bb.cell 3
  simp only [macC] at e0 e1 e2 e3 g0 g1 g2 g3
  have hne : ¬ a.start = -1 := HST.out
  simp only [pairV]
  go_wp2_with fail
  clear hne
  obtain ⟨L, hL⟩ : ∃ L : Nat, a.letters = (L : Int) := ⟨a.letters.toNat, by have := HT.out.fa.letters; omega⟩
  have HL := Lib.hid hL
  have HINS : Hid (A.InP a b (a.start, b.start)) := ⟨HT.out.fa.start, HT.out.fb.start⟩
  have HOK1 : Hid (okP (a.start, b.start)) := okP_small (BPr.of_in HT.out HINS.out)
  have HOK2 : Hid (okP (-1, -1)) := okP_small (by unfold BPr; decide)
  have HSR2 : Hid (A.searchO (A.nxtP a b) f (a.start, b.start) (-1, -1) L 20000 = some (zs.map (·.1), rows)) := by
    have := HSR.out
    rw [hL, Int.toNat_natCast] at this
    exact this
  have HLL : Hid (L ≤ 300) := show _ ≤ _ by have := HT.out.la; omega
  have HNX : Hid (∀ W', Frm (fun _ => False) w4 W' → ∀ (x : A.Pr) (k : Int) (y : A.Pr) (W : World), A.nxtP a b x k = some y → Frm (fun _ => False) W' W → okP y ∧ Calls Try.prog 38 #[pairV x, .int .i64 k, .pointer (some ⟨w.heap.size, 0, none⟩), .pointer (some ⟨w.heap.size + 1, 0, none⟩)] W fun e w' => e = .returned (pairV y) ∧ Frm (fun _ => False) W w') := fun W' hW' x k y W hy hW => by
    have hF := hW'.trans hW
    have hB := HB5.out.call hF
    unfold A.nxtP at hy
    split at hy
    case isFalse => cases hy
    rename_i hin
    injection hy with hy
    subst hy
    have hI : A.InP a b x := ⟨⟨hin.1, hin.2.1⟩, hin.2.2.1, hin.2.2.2.1⟩
    exact ⟨okP_small (BPr.of_in HT.out (leadP_in HT.out hI hin.2.2.2.2.1 hin.2.2.2.2.2)), relate1_any hB.ba hB.bb (HM.out.keep0 hB.fr) (HM'.out.keep0 hB.fr) HT.out x k hI hin.2.2.2.2.1 hin.2.2.2.2.2⟩
  have e0' : w4.cell? ⟨w.heap.size, 0, none⟩ = some (.int .i64 (L : Int)) := by rw [e0, ← hL]; rfl
  have e1' : w4.cell? ⟨w.heap.size, 1, none⟩ = some (.int .i64 a.start) := e1
  have e2' : w4.cell? ⟨w.heap.size, 2, none⟩ = some (.slice A1 a.next.length c1) := e2
  have e3' : w4.cell? ⟨w.heap.size, 3, none⟩ = some (.slice A2 a.fin.length c2) := e3
  have g0' : w4.cell? ⟨w.heap.size + 1, 0, none⟩ = some (.int .i64 b.letters) := g0
  have g1' : w4.cell? ⟨w.heap.size + 1, 1, none⟩ = some (.int .i64 b.start) := g1
  have g2' : w4.cell? ⟨w.heap.size + 1, 2, none⟩ = some (.slice B1 b.next.length d1) := g2
  have g3' : w4.cell? ⟨w.heap.size + 1, 3, none⟩ = some (.slice B2 b.fin.length d2) := g3
  have HSTA : Hid (∀ W, Frm (fun _ => False) w4 W → Calls Try.prog 35 #[.agg #[.int .i64 (L : Int), .int .i64 a.start, .slice A1 a.next.length c1, .slice A2 a.fin.length c2], .agg #[.int .i64 b.letters, .int .i64 b.start, .slice B1 b.next.length d1, .slice B2 b.fin.length d2]] W fun e w' => e = .returned (pairV (a.start, b.start)) ∧ Frm (fun _ => False) W w') := fun W hW => by
    rw [← hL]
    exact starts_any (HM.out.keep0 (HB5.out.fr.trans hW)) (HM'.out.keep0 (HB5.out.fr.trans hW))
  have HKK : Hid (∀ W, Frm (fun _ => False) w4 W → _) := fun W hW => (⟨hW.cell id e0', hW.cell id e1', hW.cell id e2', hW.cell id e3', hW.cell id g0', hW.cell id g1', hW.cell id g2', hW.cell id g3', hW⟩ : W.cell? ⟨w.heap.size, 0, none⟩ = some (.int .i64 (L : Int)) ∧ W.cell? ⟨w.heap.size, 1, none⟩ = some (.int .i64 a.start) ∧ W.cell? ⟨w.heap.size, 2, none⟩ = some (.slice A1 a.next.length c1) ∧ W.cell? ⟨w.heap.size, 3, none⟩ = some (.slice A2 a.fin.length c2) ∧ W.cell? ⟨w.heap.size + 1, 0, none⟩ = some (.int .i64 b.letters) ∧ W.cell? ⟨w.heap.size + 1, 1, none⟩ = some (.int .i64 b.start) ∧ W.cell? ⟨w.heap.size + 1, 2, none⟩ = some (.slice B1 b.next.length d1) ∧ W.cell? ⟨w.heap.size + 1, 3, none⟩ = some (.slice B2 b.fin.length d2) ∧ Frm (fun _ => False) w4 W)
  clear e0 e1 e2 e3 g0 g1 g2 g3 hL
  go_region_held3 (fun w' => w'.cell? ⟨w.heap.size, 0, none⟩ = some (.int .i64 (L : Int)) ∧ w'.cell? ⟨w.heap.size, 1, none⟩ = some (.int .i64 a.start) ∧ w'.cell? ⟨w.heap.size, 2, none⟩ = some (.slice A1 a.next.length c1) ∧ w'.cell? ⟨w.heap.size, 3, none⟩ = some (.slice A2 a.fin.length c2) ∧ w'.cell? ⟨w.heap.size + 1, 0, none⟩ = some (.int .i64 b.letters) ∧ w'.cell? ⟨w.heap.size + 1, 1, none⟩ = some (.int .i64 b.start) ∧ w'.cell? ⟨w.heap.size + 1, 2, none⟩ = some (.slice B1 b.next.length d1) ∧ w'.cell? ⟨w.heap.size + 1, 3, none⟩ = some (.slice B2 b.fin.length d2) ∧ Frm (fun _ => False) w4 w')
    (first | exact HKK.out _ (Frm.refl _ _) | exact HKK.out _ (Frm.refl _ _).drew | exact HKK.out _ (Frm.trans (E := fun _ => False) (w := w4) (Frm.trans (E := fun _ => False) (w := w4) f5 f6) f7) | exact HKK.out _ (Frm.trans (E := fun _ => False) (w := w4) f5 f6) | exact HKK.out _ f5)
    (first | (go_at_call 35; obtain ⟨-, -, -, -, -, -, -, -, hFx⟩ := ‹_ ∧ _ ∧ _ ∧ _ ∧ _ ∧ _ ∧ _ ∧ _ ∧ Frm (fun _ => False) w4 _›; refine (HSTA.out _ hFx).mono ?_; clear hFx; rintro e w5 ⟨rfl, f5⟩) | (go_at_call 36; refine (nowhere_any _).mono ?_; rintro e w6 ⟨rfl, f6⟩) | (go_at_call 37; have hFx := Frm.trans (E := fun _ => False) (w := w4) f5 f6; refine (searchP_any (HNX.out _ hFx) HOK1.out HOK2.out HLL.out (by omega) (by omega) HSR2.out).mono ?_; clear hFx; rintro e w7 ⟨uT, uR, rfl, o7, r7, f7⟩))
  all_goals
    have F7 := Frm.trans (E := fun _ => False) (w := w4) (Frm.trans (E := fun _ => False) (w := w4) f5 f6) f7
    have HF7 := Lib.hid (HB5.out.fr.trans F7)
    have hsz : w.heap.size ≤ w6.heap.size := by have := HB5.out.fr.1; have := (Frm.trans (E := fun _ => False) (w := w4) f5 f6).1; omega
    rw [List.length_map, List.flatMap_map] at o7
    have HO7 : Hid (w7.ownsRow w.heap.size 57 2 uT zs.length (zs.flatMap encP)) := own_base_ o7 hsz
    obtain ⟨g, cap, rfl, hg⟩ := own_some HO7.out HZ0.out
    clear o7 r7 f5 f6 f7 F7 hsz HKK HNX HSTA e0' e1' e2' e3' g0' g1' g2' g3'
    clear ‹_ ∧ _ ∧ _ ∧ _ ∧ _ ∧ _ ∧ _ ∧ _ ∧ Frm (fun _ => False) w4 _›
    go_wp2_with fail
    refine (sortP_any HO7.out HZ.out).mono ?_
    rintro _ w8 ⟨rfl, zs', hp, hs, ho, f8⟩
    have HP := Lib.hid hp
    have HS := Lib.hid hs
    have HO8 := Lib.hid ho
    have HF8 : Hid (Frm (fun _ => False) w w8) := Frm.mono (E := fun b => w.heap.size ≤ b) ((HF7.out.mono fun _ _ h => h.elim).trans (f8.mono fun b _ h => by omega)) fun b hb h => by omega
    clear hp hs ho f8
    go_wp2_with fail
    refine bodyPost_ret (v := .tuple #[.slice (some ⟨g, 0, none⟩) zs.length cap, .int .i64 0]) (by simp [results, Try.results21, go_sem]) rfl ?_
    exact ⟨_, zs', rfl, HP.out, HS.out, HO8.out, HF8.out⟩
end Go.Proofs.Ytldmjpnldgekaaa
end
section
namespace Go.Proofs.Ytldmjpnldgekaaa.A
theorem nodup_nat : ∀ (N : Nat) (l : List Nat), l.Nodup → (∀ x ∈ l, x < N) → l.length ≤ N
  | 0, l, _, h => by
    rcases l with _ | ⟨x, r⟩
    · exact Nat.le_refl _
    · exact absurd (h x List.mem_cons_self) (by omega)
  | N + 1, l, hn, h => by
    have h1 := nodup_nat N (l.erase N) (hn.erase N) fun x hx => by
      have h2 := h x (List.mem_of_mem_erase hx)
      have h3 : x ≠ N := fun e => by subst e; exact (hn.not_mem_erase) hx
      omega
    have h4 : l.length ≤ (l.erase N).length + 1 := by
      rw [List.length_erase]
      split <;> omega
    omega
theorem nodup_in {a b : Mac} {l : List Pr} (hn : l.Nodup) (h : ∀ p ∈ l, InP a b p) : l.length ≤ (1 + a.next.length) * (1 + b.next.length) := by
  have h1 := nodup_nat ((1 + a.next.length) * (1 + b.next.length)) (l.map fun p => (place b.next.length p).toNat) ?_ ?_
  · simpa using h1
  · rw [List.nodup_iff_pairwise_ne, List.pairwise_map]
    refine (List.Pairwise.and_mem.1 (List.nodup_iff_pairwise_ne.1 hn)).imp fun {x y} hxy e => hxy.2.2 ?_
    have hx := place_in (h x hxy.1)
    have hy := place_in (h y hxy.2.1)
    exact place_inj (h x hxy.1) (h y hxy.2.1) (by omega)
  · intro x hx
    obtain ⟨p, hp, rfl⟩ := List.mem_map.1 hx
    have h1 := place_in (h p hp)
    have h2 : (((1 + a.next.length) * (1 + b.next.length) : Nat) : Int) = (1 + (a.next.length : Int)) * (1 + b.next.length) := by simp
    omega
/-- A pair that a word leads to, not nowhere twice. -/
def GoodP (a b : Mac) (z : Pr) : Prop := InP a b z ∧ z ≠ (-1, -1) ∧ ∃ w, OkW a w ∧ z = runP a b (a.start, b.start) w
theorem GoodP.lead {a b : Mac} (h2 : Two a b) {z : Pr} (h : GoodP a b z) {k : Int} (h0 : 0 ≤ k) (hk : k < a.letters) (hne : leadP a b z k ≠ (-1, -1)) : GoodP a b (leadP a b z k) := by
  obtain ⟨h1, _, w, hw, e⟩ := h
  refine ⟨h2.lead h1 h0 hk, hne, w ++ [k], hw.app fun x hx => by rw [List.mem_singleton.1 hx]; exact ⟨h0, hk⟩, ?_⟩
  rw [runP_snoc, e]
structure Fd (a b : Mac) (ts : List Pr) : Prop where
  nd : ts.Nodup
  good : ∀ z ∈ ts, GoodP a b z
theorem Fd.len {a b : Mac} {ts : List Pr} (h : Fd a b ts) : ts.length ≤ (1 + a.next.length) * (1 + b.next.length) := nodup_in h.nd fun z hz => (h.good z hz).1
theorem Fd.num {a b : Mac} {ts : List Pr} (h : Fd a b ts) {y : Pr} (hy : y ≠ (-1, -1) → GoodP a b y) : Fd a b (numO (-1, -1) y ts).2 ∧ (∀ z ∈ ts, z ∈ (numO (-1, -1) y ts).2) ∧ (∀ (i : Nat) (z : Pr), ts[i]? = some z → (numO (-1, -1) y ts).2[i]? = some z) ∧ (y = (-1, -1) ∨ y ∈ (numO (-1, -1) y ts).2) := by
  unfold numO
  by_cases e : y = (-1, -1)
  · rw [if_pos e]
    exact ⟨h, fun _ h => h, fun _ _ h => h, .inl e⟩
  · rw [if_neg e]
    by_cases hm : y ∈ ts
    · rw [if_pos hm]
      exact ⟨h, fun _ h => h, fun _ _ h => h, .inr hm⟩
    · rw [if_neg hm]
      refine ⟨⟨?_, fun z hz => ?_⟩, fun z hz => List.mem_append.2 (.inl hz), fun i z hz => ?_, .inr (List.mem_append.2 (.inr List.mem_cons_self))⟩
      · rw [List.nodup_append]
        exact ⟨h.nd, by simp, fun x hx z hz e' => hm (by rw [List.mem_singleton.1 hz] at e'; rw [← e']; exact hx)⟩
      · rcases List.mem_append.1 hz with hz | hz
        · exact h.good z hz
        · rw [List.mem_singleton.1 hz]; exact hy e
      · have hi : i < ts.length := (List.getElem?_eq_some_iff.1 hz).1
        rw [List.getElem?_append_left hi]; exact hz
theorem rowS_ok {a b : Mac} (h2 : Two a b) (hN : (1 + a.next.length) * (1 + b.next.length) ≤ 20000) {x : Pr} (hx : GoodP a b x) : ∀ (ks : List Nat) (ts : List Pr) (row : List Int), (∀ k ∈ ks, (k : Int) < a.letters) → Fd a b ts →
    ∃ ts' row', rowS (nxtP a b) (-1, -1) 20000 x ks ts row = some (ts', row') ∧ Fd a b ts' ∧ (∀ z ∈ ts, z ∈ ts') ∧ (∀ (i : Nat) (z : Pr), ts[i]? = some z → ts'[i]? = some z) ∧ ∀ k ∈ ks, leadP a b x k = (-1, -1) ∨ leadP a b x k ∈ ts'
  | [], ts, row, _, hF => ⟨ts, row, rfl, hF, fun _ h => h, fun _ _ h => h, fun _ h => by cases h⟩
  | k :: ks, ts, row, hk, hF => by
    have hkk := hk k List.mem_cons_self
    obtain ⟨⟨h3, h4⟩, h5, h6⟩ := hx.1
    have hnx : nxtP a b x (k : Int) = some (leadP a b x k) := by
      unfold nxtP
      rw [if_pos ⟨h3, h4, h5, h6, by omega, hkk⟩]
    unfold rowS
    rw [hnx]
    dsimp only
    obtain ⟨g1, g2, g3, g4⟩ := hF.num (y := leadP a b x k) fun hne => hx.lead h2 (by omega) hkk hne
    have hl := g1.len
    rw [if_neg (by omega)]
    obtain ⟨ts', row', e1, e2, e3, e4, e5⟩ := rowS_ok h2 hN hx ks _ (row ++ [(numO (-1, -1) (leadP a b x k) ts).1]) (fun k hk' => hk k (List.mem_cons_of_mem _ hk')) g1
    refine ⟨ts', row', e1, e2, fun z hz => e3 z (g2 z hz), fun i z hz => e4 i z (g3 i z hz), fun k' hk' => ?_⟩
    rcases List.mem_cons.1 hk' with rfl | hk'
    · rcases g4 with g4 | g4
      · exact .inl g4
      · exact .inr (e3 _ g4)
    · exact e5 k' hk'
theorem srchO_ok {a b : Mac} (h2 : Two a b) (hN : (1 + a.next.length) * (1 + b.next.length) ≤ 20000) : ∀ (f at_ : Nat) (ts : List Pr) (rows : List (List Int)), Fd a b ts → (1 + a.next.length) * (1 + b.next.length) ≤ f + at_ → (∀ i, i < at_ → ∀ z, ts[i]? = some z → ∀ k : Nat, (k : Int) < a.letters → leadP a b z k = (-1, -1) ∨ leadP a b z k ∈ ts) →
    ∃ ts' rows', srchO (nxtP a b) (-1, -1) a.letters.toNat 20000 f at_ ts rows = some (ts', rows') ∧ Fd a b ts' ∧ (∀ z ∈ ts, z ∈ ts') ∧ ∀ z ∈ ts', ∀ k : Nat, (k : Int) < a.letters → leadP a b z k = (-1, -1) ∨ leadP a b z k ∈ ts'
  | f, at_, ts, rows, hF, hf, hc => by
    unfold srchO
    by_cases hlt : at_ < ts.length
    · rw [dif_pos hlt]
      have hl := hF.len
      match f, hf with
      | 0, hf => omega
      | f + 1, hf =>
        dsimp only
        obtain ⟨ts1, row1, e1, e2, e3, e4, e5⟩ := rowS_ok h2 hN (hF.good _ (List.getElem_mem hlt)) (List.range a.letters.toNat) ts [] (fun k hk => by have := List.mem_range.1 hk; omega) hF
        rw [e1]
        dsimp only
        obtain ⟨ts', rows', d1, d2, d3, d4⟩ := srchO_ok h2 hN f (at_ + 1) ts1 (rows ++ [row1]) e2 (by omega) fun i hi z hz k hk => by
          by_cases e : i = at_
          · subst e
            have hz' := e4 i ts[i] (List.getElem?_eq_getElem hlt)
            rw [hz'] at hz
            injection hz with hz
            subst hz
            exact e5 k (List.mem_range.2 (by omega))
          · have hi' : i < ts.length := by omega
            have hz' := e4 i ts[i] (List.getElem?_eq_getElem hi')
            rw [hz'] at hz
            injection hz with hz
            subst hz
            rcases hc i (by omega) _ (List.getElem?_eq_getElem hi') k hk with h | h
            · exact .inl h
            · exact .inr (e3 _ h)
        exact ⟨ts', rows', d1, d2, fun z hz => d3 z (e3 z hz), d4⟩
    · rw [dif_neg hlt]
      refine ⟨ts, rows, rfl, hF, fun _ h => h, fun z hz k hk => ?_⟩
      obtain ⟨i, hi, rfl⟩ := List.getElem_of_mem hz
      exact hc i (by omega) _ (List.getElem?_eq_getElem hi) k hk
theorem search_ok {a b : Mac} (h2 : Two a b) (hN : (1 + a.next.length) * (1 + b.next.length) ≤ 20000) (hst : (a.start, b.start) ≠ (-1, -1)) {f : Nat} (hf : 20000 ≤ f) :
    ∃ ts rows, searchO (nxtP a b) f (a.start, b.start) (-1, -1) a.letters.toNat 20000 = some (ts, rows) ∧ Fd a b ts ∧ (a.start, b.start) ∈ ts ∧ ∀ z ∈ ts, ∀ k : Nat, (k : Int) < a.letters → leadP a b z k = (-1, -1) ∨ leadP a b z k ∈ ts := by
  have hF : Fd a b [(a.start, b.start)] := ⟨by simp, fun z hz => by
    rw [List.mem_singleton.1 hz]
    exact ⟨⟨h2.fa.start, h2.fb.start⟩, hst, [], (fun k hk => by cases hk), rfl⟩⟩
  unfold searchO
  have e : (numO (-1, -1) (a.start, b.start) []).2 = [(a.start, b.start)] := by
    unfold numO
    rw [if_neg hst]
    simp
  rw [e]
  obtain ⟨ts', rows', d1, d2, d3, d4⟩ := srchO_ok h2 hN f 0 [(a.start, b.start)] [] hF (by omega) fun i hi => by omega
  exact ⟨ts', rows', d1, d2, d3 _ List.mem_cons_self, d4⟩
theorem ord_lt {x y : Pr} (h : ¬ ord y x < 0) (hne : x ≠ y) : ord x y < 0 := by
  obtain ⟨x1, x2⟩ := x
  obtain ⟨y1, y2⟩ := y
  unfold ord at h ⊢
  dsimp only at h ⊢
  by_cases e : x1 = y1
  · subst e
    have hne2 : x2 ≠ y2 := fun e => hne (by rw [e])
    rw [if_neg (by simp)] at h ⊢
    omega
  · rw [if_pos e]
    rw [if_pos (fun e' => e e'.symm)] at h
    omega
theorem rel_sorted {a b : Mac} : ∀ (l : List Pr) (last : Pr), (∀ p ∈ l, InP a b p) → l.Nodup → l.Pairwise (fun x y => ¬ ord y x < 0) → (∀ p ∈ l, ord last p < 0) → relFrom a b last l = true
  | [], _, _, _, _, _ => rfl
  | p :: l, last, hi, hn, hs, hl => by
    unfold relFrom
    rw [Bool.and_eq_true, Bool.and_eq_true]
    refine ⟨okPair_in.2 (hi p List.mem_cons_self), by simpa using hl p List.mem_cons_self, rel_sorted l p (fun q hq => hi q (List.mem_cons_of_mem _ hq)) (List.nodup_cons.1 hn).2 (List.pairwise_cons.1 hs).2 fun q hq => ?_⟩
    exact ord_lt ((List.pairwise_cons.1 hs).1 q hq) fun e => (List.nodup_cons.1 hn).1 (by rw [e]; exact hq)
/-- What the search finds, sorted, shows that two machines are the same. -/
theorem check_sorted {a b : Mac} (hf : fit a b = 0) (hd : ¬ ∃ w, Dist a b w) {ts l : List Pr} (hF : Fd a b ts) (hst : (a.start, b.start) ∈ ts) (hc : ∀ z ∈ ts, ∀ k : Nat, (k : Int) < a.letters → leadP a b z k = (-1, -1) ∨ leadP a b z k ∈ ts) (hp : l.Perm ts) (hs : l.Pairwise (fun x y => ¬ ord y x < 0)) : check a b l = 0 := by
  unfold check
  rw [if_pos hf]
  have hin : ∀ p ∈ l, InP a b p := fun p hp' => (hF.good p (hp.mem_iff.1 hp')).1
  have hrel : isRel a b l = true := rel_sorted l (-1, -1) hin (hp.nodup_iff.2 hF.nd) hs fun p hp' => by
    have h1 := hF.good p (hp.mem_iff.1 hp')
    obtain ⟨⟨⟨h2, _⟩, h3, _⟩, h4, _⟩ := h1
    obtain ⟨p1, p2⟩ := p
    unfold ord
    dsimp only at h2 h3 ⊢
    by_cases e : (-1 : Int) ≠ p1
    · rw [if_pos e]; omega
    · rw [if_neg e]
      have e1 : p1 = -1 := by omega
      have : p2 ≠ -1 := fun e2 => h4 (by rw [e1, e2])
      omega
  rw [if_pos hrel]
  have hsh : shows a b l = true := by
    unfold shows
    rw [Bool.and_eq_true, List.all_eq_true]
    refine ⟨among_iff.2 (.inr (hp.mem_iff.2 hst)), fun p hp' => ?_⟩
    have hp2 := hp.mem_iff.1 hp'
    obtain ⟨_, _, w, hw, e⟩ := hF.good p hp2
    rw [Bool.and_eq_true, List.all_eq_true]
    refine ⟨?_, fun k hk => ?_⟩
    · rcases hag : agree a b p with _ | _
      · exact absurd ⟨w, hw, by rw [← e]; exact hag⟩ hd
      · rfl
    · have hk' := List.mem_range.1 hk
      rcases hc p hp2 k (by omega) with h | h
      · exact among_iff.2 (.inl h)
      · exact among_iff.2 (.inr (hp.mem_iff.2 h))
  rw [if_pos hsh]
theorem check_nil {a b : Mac} (hf : fit a b = 0) (hst : (a.start, b.start) = (-1, -1)) : check a b [] = 0 := by
  unfold check
  have h1 : isRel a b [] = true := rfl
  have h2 : shows a b [] = true := by
    unfold shows
    rw [Bool.and_eq_true]
    exact ⟨among_iff.2 (.inl hst), rfl⟩
  rw [if_pos hf, if_pos h1, if_pos h2]
end Go.Proofs.Ytldmjpnldgekaaa.A
end
section
namespace Go.Proofs.Ytldmjpnldgekaaa.A
theorem rule_and : Rule (fun a b => a && b) := ⟨rfl, by decide⟩
theorem rule_or : Rule (fun a b => a || b) := ⟨rfl, by decide⟩
/-- A machine accepts a word just if the rule takes it. -/
structure JoinOf (T : Bool → Bool → Bool) (a b m : Mac) : Prop where
  ll : m.letters = a.letters
  is : ∀ l u v w, from_ a a.start l = some u → from_ b b.start l = some v → from_ m m.start l = some w → ends m w = T (ends a u) (ends b v)
theorem JoinOf.eqv {T : Bool → Bool → Bool} {a b m m' : Mac} (hl : a.letters = b.letters) (h : JoinOf T a b m) (h' : JoinOf T a b m') : Eqv m m' m.start m'.start := fun l u v h1 h2 => by
  obtain ⟨s, hs⟩ := from_two h.ll l m.start a.start u h1
  obtain ⟨t, ht⟩ := from_two (h.ll.trans hl) l m.start b.start u h1
  rw [h.is l s t u hs ht h1, h'.is l s t v hs ht h2]
theorem JoinOf.of {T : Bool → Bool → Bool} {a b x y m : Mac} (hx : x.letters = a.letters) (hy : y.letters = b.letters) (ea : Eqv a x a.start x.start) (eb : Eqv b y b.start y.start) (h : JoinOf T x y m) : JoinOf T a b m :=
  ⟨h.ll.trans hx, fun l u v w h1 h2 h3 => by
    obtain ⟨s, hs⟩ := from_two hx.symm l a.start x.start u h1
    obtain ⟨t, ht⟩ := from_two hy.symm l b.start y.start v h2
    rw [h.is l s t w hs ht h3, ea l u s h1 hs, eb l v t h2 ht]⟩
theorem JoinOf.least {T : Bool → Bool → Bool} {a b m o : Mac} (h : JoinOf T a b m) (ho : LeastOf m o) : JoinOf T a b o :=
  ⟨ho.ll.trans h.ll, fun l u v w h1 h2 h3 => by
    obtain ⟨s, hs⟩ := from_two ho.ll l o.start m.start w h3
    rw [← ho.eqv l s w hs h3]
    exact h.is l u v s h1 h2 hs⟩
/-- A machine whose states stand for pairs. -/
theorem join_sim {T : Bool → Bool → Bool} {x y m : Mac} (hl : x.letters = y.letters) (hm : m.letters = x.letters) {R : Int → Int → Int → Prop} (h0 : R x.start y.start m.start) (he : ∀ s t z, R s t z → ends m z = T (ends x s) (ends y t)) (hs : ∀ s t z, R s t z → ∀ k : Nat, (k : Int) < x.letters → R (lead x s k) (lead y t k) (lead m z k)) : JoinOf T x y m := by
  refine ⟨hm, ?_⟩
  have key : ∀ (l : List Int) (s t z : Int), R s t z → ∀ u v w, from_ x s l = some u → from_ y t l = some v → from_ m z l = some w → ends m w = T (ends x u) (ends y v) := by
    intro l
    induction l with
    | nil =>
      intro s t z hR u v w h1 h2 h3
      injection h1 with h1
      injection h2 with h2
      injection h3 with h3
      subst h1 h2 h3
      exact he _ _ _ hR
    | cons k l ih =>
      intro s t z hR u v w h1 h2 h3
      rw [from_] at h1 h2 h3
      split at h1
      · rename_i hk
        rw [if_pos (by rw [← hl]; exact hk)] at h2
        rw [if_pos (by rw [hm]; exact hk)] at h3
        have := hs s t z hR k.toNat (by omega)
        rw [show ((k.toNat : Nat) : Int) = k by omega] at this
        exact ih _ _ _ this u v w h1 h2 h3
      · cases h1
  exact fun l u v w h1 h2 h3 => key l _ _ _ h0 u v w h1 h2 h3
def nxJ (T : Bool → Bool → Bool) (x y : Mac) (p : Pr) (k : Int) : Option Pr := if -1 ≤ p.1 ∧ p.1 < x.next.length ∧ -1 ≤ p.2 ∧ p.2 < y.next.length ∧ 0 ≤ k ∧ k < x.letters then some (cnt T (leadP x y p k)) else none
def DJ (T : Bool → Bool → Bool) (x y : Mac) (p : Pr) : Prop := InP x y p ∧ cnt T p = p ∧ p ≠ (-1, -1)
section
variable {T : Bool → Bool → Bool} {x y : Mac}
theorem cnt_or (p : Pr) : cnt T p = p ∨ cnt T p = (-1, -1) := by
  unfold cnt
  split
  · exact .inl rfl
  · exact .inr rfl
theorem cnt_cnt (p : Pr) : cnt T (cnt T p) = cnt T p := by
  rcases cnt_or (T := T) p with h | h
  · rw [h, h]
  · rw [h]
    unfold cnt
    split <;> rfl
theorem cnt_dead (hT : Rule T) {p : Pr} (h : cnt T p = (-1, -1)) : ¬ T (decide (p.1 ≠ -1)) (decide (p.2 ≠ -1)) = true := fun ht => by
  unfold cnt at h
  rw [if_pos ht] at h
  subst h
  have := hT.ff
  simp [this] at ht
theorem lead_there {m : Mac} {s k : Int} (h : lead m s k ≠ -1) : s ≠ -1 := fun e => h (by rw [e, lead_neg])
theorem cnt_lead (hT : Rule T) {p : Pr} {k : Int} (h : cnt T p = (-1, -1)) : cnt T (leadP x y p k) = (-1, -1) := by
  have h1 := cnt_dead hT h
  unfold cnt
  rw [if_neg]
  exact fun ht => h1 (hT.mono _ _ _ _ (fun e => decide_eq_true (lead_there (of_decide_eq_true e))) (fun e => decide_eq_true (lead_there (of_decide_eq_true e))) ht)
theorem ends_there {m : Mac} {s : Int} (h : ends m s = true) : s ≠ -1 := fun e => by rw [e, ends_neg] at h; cases h
theorem cnt_ends (hT : Rule T) {p : Pr} (h : cnt T p = (-1, -1)) : T (ends x p.1) (ends y p.2) = false := by
  have h1 := cnt_dead hT h
  cases e : T (ends x p.1) (ends y p.2) with
  | false => rfl
  | true => exact absurd (hT.mono _ _ _ _ (fun e => decide_eq_true (ends_there e)) (fun e => decide_eq_true (ends_there e)) e) h1
theorem DJ.dom (fx : Fits x) (fy : Fits y) (hl : x.letters = y.letters) : Dom (nxJ T x y) ((-1, -1) : Pr) x.letters.toNat (DJ T x y) ((1 + x.next.length) * (1 + y.next.length)) := by
  refine ⟨fun p hp k hk => ?_, fun ts h1 h2 => nodup_in h1 fun p hp => (h2 p hp).1⟩
  obtain ⟨⟨⟨h1, h2⟩, h3, h4⟩, h5, h6⟩ := hp
  refine ⟨cnt T (leadP x y p k), by unfold nxJ; rw [if_pos ⟨h1, h2, h3, h4, by omega, by omega⟩], ?_⟩
  by_cases e : cnt T (leadP x y p k) = (-1, -1)
  · exact .inl e
  · right
    rcases cnt_or (T := T) (leadP x y p k) with h | h
    · rw [h] at e ⊢
      exact ⟨⟨fx.lead ⟨h1, h2⟩ (by omega) (by omega), fy.lead ⟨h3, h4⟩ (by omega) (by omega)⟩, h, e⟩
    · exact absurd h e
/-- The machine of the pairs that are found. -/
def pairsM (T : Bool → Bool → Bool) (x y : Mac) (ts : List Pr) (rows : List (List Int)) : Mac := macOf x.letters ts rows fun p => T (ends x p.1) (ends y p.2)
theorem pairs_join (hT : Rule T) (fx : Fits x) (fy : Fits y) (hl : x.letters = y.letters) {ts : List Pr} {rows : List (List Int)} (F : Found (nxJ T x y) ((-1, -1) : Pr) x.letters.toNat (DJ T x y) (cnt T (x.start, y.start)) ts rows) : JoinOf T x y (pairsM T x y ts rows) := by
  have hl0 := fx.letters
  have hne : cnt T (x.start, y.start) ≠ (-1, -1) := (F.dom _ (List.mem_of_getElem? F.first)).2.2
  refine join_sim hl rfl (R := fun s t z => In x s ∧ In y t ∧ ((cnt T (s, t) = (-1, -1) ∧ z = -1) ∨ ∃ j : Nat, ts[j]? = some (s, t) ∧ z = (j : Int))) ⟨fx.start, fy.start, Or.inr ⟨0, ?_, rfl⟩⟩ (fun s t z hR => ?_) (fun s t z hR k hk => ?_)
  · rcases cnt_or (T := T) (x.start, y.start) with h | h
    · have := F.first
      rwa [h] at this
    · exact absurd h hne
  · obtain ⟨_, _, ⟨h1, rfl⟩ | ⟨j, hj, rfl⟩⟩ := hR
    · rw [ends_neg]
      exact (cnt_ends hT h1).symm
    · exact F.ends hj
  · obtain ⟨h1, h2, h3⟩ := hR
    refine ⟨fx.lead h1 (by omega) hk, fy.lead h2 (by omega) (by omega), ?_⟩
    rcases h3 with ⟨h3, rfl⟩ | ⟨j, hj, rfl⟩
    · rw [lead_neg]
      exact Or.inl ⟨cnt_lead (x := x) (y := y) (k := k) hT h3, rfl⟩
    · obtain ⟨q, g1, g2⟩ := F.lead (e := fun p => T (ends x p.1) (ends y p.2)) (l := x.letters) hj (j := k) (by omega)
      unfold nxJ at g1
      rw [if_pos ⟨h1.1, h1.2, h2.1, h2.2, by omega, hk⟩] at g1
      injection g1 with g1
      subst g1
      rcases g2 with ⟨g2, g3⟩ | ⟨i, g2, g3⟩
      · exact Or.inl ⟨g2, g3⟩
      · have hd := (F.dom _ (List.mem_of_getElem? g2)).2.2
        rcases cnt_or (T := T) (leadP x y (s, t) k) with h | h
        · rw [h] at g2
          exact Or.inr ⟨i, g2, g3⟩
        · exact absurd h hd
theorem no_join (hT : Rule T) (hl : x.letters = y.letters) (h : cnt T (x.start, y.start) = (-1, -1)) : JoinOf T x y (noM x) := by
  refine join_sim hl rfl (R := fun s t z => cnt T (s, t) = (-1, -1) ∧ z = -1) ⟨h, rfl⟩ (fun s t z hR => ?_) (fun s t z hR k hk => ?_)
  · obtain ⟨h1, rfl⟩ := hR
    rw [ends_neg]
    exact (cnt_ends hT h1).symm
  · obtain ⟨h1, rfl⟩ := hR
    rw [lead_neg]
    exact ⟨cnt_lead (x := x) (y := y) (k := k) hT h1, rfl⟩
end
end Go.Proofs.Ytldmjpnldgekaaa.A
end
section
namespace Go.Proofs.Ytldmjpnldgekaaa.A
theorem addAr_length (s : Int) : ∀ (row : List Int) (k : Int) (acc : List (List Ar)), (addAr s k row acc).length = acc.length
  | [], _, _ => rfl
  | x :: r, k, acc => by
    rw [addAr, addAr_length s r]
    split <;> simp
theorem addRows_length : ∀ (rows : List (List Int)) (s : Int) (acc : List (List Ar)), (addRows s rows acc).length = acc.length
  | [], _, _ => rfl
  | row :: r, s, acc => by rw [addRows, addRows_length r, addAr_length]
theorem addAr_mem (s : Int) (q : Nat) (a : Ar) : ∀ (row : List Int) (k : Int) (acc : List (List Ar)), q < acc.length → (∀ x ∈ row, -1 ≤ x ∧ x < acc.length) →
    (a ∈ (addAr s k row acc).getD q [] ↔ a ∈ acc.getD q [] ∨ ∃ j : Nat, j < row.length ∧ row.getD j 0 = q ∧ a = (s, k + j))
  | [], k, acc, hq, h => by simp [addAr]
  | x :: r, k, acc, hq, h => by
    have hx := h x (.head _)
    have hr : ∀ y ∈ r, -1 ≤ y ∧ y < acc.length := fun y hy => h y (.tail _ hy)
    rw [addAr]
    have tailEq : (∃ j : Nat, j < (x :: r).length ∧ (x :: r).getD j 0 = q ∧ a = (s, k + j)) ↔ ((x = q ∧ a = (s, k)) ∨ ∃ j : Nat, j < r.length ∧ r.getD j 0 = q ∧ a = (s, k + 1 + j)) := by
      constructor
      · rintro ⟨j, h1, h2, h3⟩
        cases j with
        | zero => exact .inl ⟨by simpa using h2, by simpa using h3⟩
        | succ j => exact .inr ⟨j, by simpa using h1, by simpa using h2, by rw [h3]; congr 1; omega⟩
      · rintro (⟨h1, h2⟩ | ⟨j, h1, h2, h3⟩)
        · exact ⟨0, by simp, by simpa using h1, by simpa using h2⟩
        · exact ⟨j + 1, by simpa using h1, by simpa using h2, by rw [h3]; congr 1; omega⟩
    rw [tailEq]
    split
    · rename_i e
      rw [addAr_mem s q a r (k + 1) acc hq hr]
      constructor
      · rintro (h1 | h1)
        · exact .inl h1
        · exact .inr (.inr h1)
      · rintro (h1 | ⟨h1, _⟩ | h1)
        · exact .inl h1
        · omega
        · exact .inr h1
    · rename_i e
      have hxn : x.toNat < acc.length := by omega
      rw [addAr_mem s q a r (k + 1) _ (by simpa using hq) (by simpa using hr)]
      have hset : a ∈ (acc.set x.toNat (acc.getD x.toNat [] ++ [(s, k)])).getD q [] ↔ a ∈ acc.getD q [] ∨ (x = q ∧ a = (s, k)) := by
        by_cases hxq : x = q
        · subst_vars
          simp [hq]
        · have : x.toNat ≠ q := by omega
          simp [this, hxq]
      rw [hset, or_assoc]
theorem addRows_mem (q : Nat) (a : Ar) : ∀ (rows : List (List Int)) (s : Int) (acc : List (List Ar)), q < acc.length → (∀ row ∈ rows, ∀ x ∈ row, -1 ≤ x ∧ x < acc.length) →
    (a ∈ (addRows s rows acc).getD q [] ↔ a ∈ acc.getD q [] ∨ ∃ i j : Nat, i < rows.length ∧ j < (rows.getD i []).length ∧ (rows.getD i []).getD j 0 = q ∧ a = (s + i, (j : Int)))
  | [], s, acc, hq, h => by simp [addRows]
  | row :: r, s, acc, hq, h => by
    rw [addRows, addRows_mem q a r (s + 1) _ (by rw [addAr_length]; exact hq) (by rw [addAr_length]; exact fun y hy => h y (.tail _ hy)), addAr_mem s q a row 0 acc hq (h row (.head _)), or_assoc]
    apply or_congr Iff.rfl
    constructor
    · rintro (⟨j, h1, h2, h3⟩ | ⟨i, j, h0, h1, h2, h3⟩)
      · exact ⟨0, j, by simp, by simpa using h1, by simpa using h2, by rw [h3]; simp⟩
      · exact ⟨i + 1, j, by simpa using h0, by simpa using h1, by simpa using h2, by rw [h3]; congr 1; omega⟩
    · rintro ⟨i, j, h0, h1, h2, h3⟩
      cases i with
      | zero => exact .inl ⟨j, by simpa using h1, by simpa using h2, by rw [h3]; simp⟩
      | succ i => exact .inr ⟨i, j, by simpa using h0, by simpa using h1, by simpa using h2, by rw [h3]; congr 1; omega⟩
theorem arrive_length (m : Mac) : (arrive m).length = m.next.length := by simp [arrive, addRows_length]
/-- The ways into a state: the states and letters that lead to it. -/
theorem arrive_mem {m : Mac} (hf : Fits m) {q : Nat} (hq : q < m.next.length) (a : Ar) : a ∈ (arrive m).getD q [] ↔ ((0 ≤ a.1 ∧ a.1 < m.next.length) ∧ (0 ≤ a.2 ∧ a.2 < m.letters)) ∧ lead m a.1 a.2 = q := by
  unfold arrive
  rw [addRows_mem q a _ 0 _ (by simpa using hq) (by
    intro row hr x hx
    have := (hf.rows row hr).2 x hx
    simpa [In] using this)]
  have e0 : (List.replicate m.next.length ([] : List Ar)).getD q [] = [] := by simp [hq]
  rw [e0]
  constructor
  · rintro (h | ⟨i, j, h0, h1, h2, h3⟩)
    · cases h
    · have hm : m.next.getD i [] ∈ m.next := by
        rw [show m.next.getD i [] = m.next[i] by simp [h0]]
        exact List.getElem_mem h0
      have hl := (hf.rows _ hm).1
      subst h3
      refine ⟨⟨⟨by simp, by simpa using h0⟩, by simp, by simp; omega⟩, ?_⟩
      rw [← h2]
      unfold lead
      rw [if_neg (by simp)]
      simp
  · rintro ⟨⟨⟨h1, h2⟩, h3, h4⟩, h5⟩
    right
    obtain ⟨s, k⟩ := a
    have h0 : s.toNat < m.next.length := by simp at h1 h2; omega
    have hm : m.next.getD s.toNat [] ∈ m.next := by
      rw [show m.next.getD s.toNat [] = m.next[s.toNat] by simp [h0]]
      exact List.getElem_mem h0
    have hl := (hf.rows _ hm).1
    refine ⟨s.toNat, k.toNat, h0, by simp at h3 h4; omega, ?_, ?_⟩
    · have h5' := h5
      unfold lead at h5'
      rw [if_neg (by simp at h1 ⊢; omega)] at h5'
      exact h5'
    · simp at h1 h3 ⊢
      constructor <;> omega
theorem addAr_short (s : Int) (q : Nat) : ∀ (row : List Int) (k : Int) (acc : List (List Ar)), ((addAr s k row acc).getD q []).length ≤ (acc.getD q []).length + row.length
  | [], k, acc => by simp [addAr]
  | x :: r, k, acc => by
    rw [addAr]
    refine Nat.le_trans (addAr_short s q r (k + 1) _) ?_
    rw [List.length_cons]
    split
    · omega
    · by_cases h : x.toNat = q ∧ x.toNat < acc.length
      · obtain ⟨h1, h2⟩ := h
        subst h1
        simp [h2]; omega
      · have : (acc.set x.toNat (acc.getD x.toNat [] ++ [(s, k)])).getD q [] = acc.getD q [] := by
          simp only [List.getD_eq_getElem?_getD, List.getElem?_set]
          split
          · rename_i e
            have : ¬ x.toNat < acc.length := fun h2 => h ⟨e, h2⟩
            subst e
            simp [this]
          · rfl
        rw [this]; omega
theorem addRows_short (q l : Nat) : ∀ (rows : List (List Int)) (s : Int) (acc : List (List Ar)), (∀ row ∈ rows, row.length ≤ l) → ((addRows s rows acc).getD q []).length ≤ (acc.getD q []).length + rows.length * l
  | [], s, acc, _ => by simp [addRows]
  | row :: r, s, acc, h => by
    rw [addRows]
    refine Nat.le_trans (addRows_short q l r (s + 1) _ fun y hy => h y (.tail _ hy)) ?_
    have h1 := addAr_short s q row 0 acc
    have h2 := h row (.head _)
    rw [List.length_cons, Nat.succ_mul]
    omega
theorem waysOk_all {m : Mac} (hf : Fits m) (hn : m.next.length ≤ 100000) (hl : m.letters ≤ 300) : waysOk m = true := by
  unfold waysOk
  simp only [Bool.and_eq_true, decide_eq_true_eq, List.all_eq_true]
  refine ⟨arrive_length m, fun l hl' => ?_⟩
  obtain ⟨q, hq, e⟩ := List.getElem_of_mem hl'
  have hq' : q < m.next.length := by rw [← arrive_length m]; exact hq
  have e1 : (arrive m).getD q [] = l := by simp [hq, e]
  refine ⟨?_, fun a ha => ?_⟩
  · rw [← e1]
    refine Nat.le_trans (addRows_short q 300 m.next 0 _ fun row hr => ?_) ?_
    · have := (hf.rows row hr).1; omega
    · simp [hq']
      omega
  · rw [← e1] at ha
    exact ((arrive_mem hf hq' a).1 ha).1.1
end Go.Proofs.Ytldmjpnldgekaaa.A
end
section
namespace Go.Proofs.Ytldmjpnldgekaaa.A
/-- The search for what lives. -/
structure Lv (m : Mac) (at_ : Nat) (al : List Bool) (kn : List Int) : Prop where
  len : al.length = m.next.length
  rng : ∀ x ∈ kn, 0 ≤ x ∧ x < m.next.length
  nd : kn.Nodup
  mem : ∀ s : Nat, s < m.next.length → (al.getD s false = true ↔ (s : Int) ∈ kn)
  live : ∀ x ∈ kn, Alive m x
  fin : ∀ s : Nat, s < m.next.length → m.fin.getD s false = true → (s : Int) ∈ kn
  done : ∀ i, i < at_ → i < kn.length → ∀ a ∈ (arrive m).getD (kn.getD i 0).toNat [], a.1 ∈ kn
theorem Lv.count {m : Mac} {i : Nat} {al : List Bool} {kn : List Int} (h : Lv m i al kn) : kn.length ≤ m.next.length := by
  have h1 : (kn.map Int.toNat).Nodup := by
    unfold List.Nodup
    rw [List.pairwise_map]
    refine h.nd.imp_of_mem fun {x y} hx hy hne e => hne ?_
    have := h.rng x hx
    have := h.rng y hy
    omega
  have := nodup_nat m.next.length (kn.map Int.toNat) h1 (by
    intro x hx
    obtain ⟨y, hy, rfl⟩ := List.mem_map.1 hx
    have := h.rng y hy
    omega)
  simpa using this
theorem reach1_ok {m : Mac} {i : Nat} : ∀ (ways : List Ar) (al : List Bool) (kn : List Int), Lv m i al kn → i ≤ kn.length → (∀ a ∈ ways, (0 ≤ a.1 ∧ a.1 < m.next.length) ∧ Alive m a.1) →
    Lv m i (ways.foldl reach1 (al, kn)).1 (ways.foldl reach1 (al, kn)).2 ∧ (∃ t, (ways.foldl reach1 (al, kn)).2 = kn ++ t) ∧ ∀ a ∈ ways, a.1 ∈ (ways.foldl reach1 (al, kn)).2
  | [], al, kn, h, hi, hw => ⟨h, ⟨[], by simp⟩, by simp⟩
  | a :: r, al, kn, h, hi, hw => by
    obtain ⟨⟨h1, h2⟩, h3⟩ := hw a (.head _)
    have hr : ∀ b ∈ r, (0 ≤ b.1 ∧ b.1 < m.next.length) ∧ Alive m b.1 := fun b hb => hw b (.tail _ hb)
    have ea : ((a.1.toNat : Nat) : Int) = a.1 := by omega
    have ha : a.1.toNat < m.next.length := by omega
    rw [List.foldl_cons]
    by_cases hg : al.getD a.1.toNat false = true
    · have e : reach1 (al, kn) a = (al, kn) := by unfold reach1; rw [if_pos hg]
      rw [e]
      obtain ⟨k1, k2, k3⟩ := reach1_ok r al kn h hi hr
      refine ⟨k1, k2, fun b hb => ?_⟩
      rcases List.mem_cons.1 hb with rfl | hb
      · obtain ⟨t, et⟩ := k2
        rw [et]
        have := (h.mem _ ha).1 hg
        rw [ea] at this
        exact List.mem_append_left _ this
      · exact k3 b hb
    · have e : reach1 (al, kn) a = (al.set a.1.toNat true, kn ++ [a.1]) := by unfold reach1; rw [if_neg hg]
      rw [e]
      have hni : a.1 ∉ kn := fun hk => hg ((h.mem _ ha).2 (by rw [ea]; exact hk))
      have hg' : Lv m i (al.set a.1.toNat true) (kn ++ [a.1]) := by
        refine ⟨by simpa using h.len, ?_, ?_, ?_, ?_, ?_, ?_⟩
        · intro x hx
          rcases List.mem_append.1 hx with hx | hx
          · exact h.rng x hx
          · rw [List.mem_singleton.1 hx]; exact ⟨h1, h2⟩
        · rw [List.nodup_append]
          refine ⟨h.nd, by simp, ?_⟩
          intro x hx y hy exy
          rw [List.mem_singleton.1 hy] at exy
          exact hni (exy ▸ hx)
        · intro s hs
          have hla : a.1.toNat < al.length := by rw [h.len]; exact ha
          rw [List.mem_append, List.mem_singleton, ← h.mem s hs]
          simp only [List.getD_eq_getElem?_getD, List.getElem?_set, hla, if_true]
          by_cases e1 : a.1.toNat = s
          · simp [e1]; right; omega
          · rw [if_neg e1]
            constructor
            · exact .inl
            · rintro (h5 | h5)
              · exact h5
              · omega
        · intro x hx
          rcases List.mem_append.1 hx with hx | hx
          · exact h.live x hx
          · rw [List.mem_singleton.1 hx]; exact h3
        · exact fun s hs hfn => List.mem_append_left _ (h.fin s hs hfn)
        · intro j hj hj2 b hb
          have hjk : j < kn.length := by omega
          have e1 : (kn ++ [a.1]).getD j 0 = kn.getD j 0 := by simp [List.getElem?_append, hjk]
          rw [e1] at hb
          exact List.mem_append_left _ (h.done j hj hjk b hb)
      obtain ⟨k1, ⟨t, k2⟩, k3⟩ := reach1_ok r _ _ hg' (by simp; omega) hr
      refine ⟨k1, ⟨a.1 :: t, by rw [k2]; simp⟩, fun b hb => ?_⟩
      rcases List.mem_cons.1 hb with rfl | hb
      · rw [k2]; simp
      · exact k3 b hb
theorem livO_ok {m : Mac} (hf : Fits m) : ∀ (f i : Nat) (al : List Bool) (kn : List Int), Lv m i al kn → i ≤ kn.length → m.next.length ≤ f + i → ∃ al2 kn2, livO (arrive m) f i al kn = some al2 ∧ Lv m kn2.length al2 kn2
  | f, i, al, kn, h, hi, hfu => by
    unfold livO
    by_cases hlt : i < kn.length
    · rw [dif_pos hlt]
      have hc := h.count
      match f, hfu with
      | 0, hfu => omega
      | f + 1, hfu =>
        simp only
        have hk := h.rng _ (List.getElem_mem hlt)
        have hkn : kn[i].toNat < m.next.length := by omega
        have hw : ∀ a ∈ (arrive m).getD kn[i].toNat [], (0 ≤ a.1 ∧ a.1 < m.next.length) ∧ Alive m a.1 := by
          intro a ha
          obtain ⟨⟨k1, k2⟩, k3⟩ := (arrive_mem hf hkn a).1 ha
          refine ⟨k1, Alive.step k2.1 k2.2 ?_⟩
          rw [k3, show ((kn[i].toNat : Nat) : Int) = kn[i] by omega]
          exact h.live _ (List.getElem_mem hlt)
        obtain ⟨k1, ⟨t, k2⟩, k3⟩ := reach1_ok _ al kn h hi hw
        refine livO_ok hf f (i + 1) _ _ ⟨k1.len, k1.rng, k1.nd, k1.mem, k1.live, k1.fin, ?_⟩ ?_ (by omega)
        · intro j hj hj2 b hb
          by_cases e : j < i
          · exact k1.done j e hj2 b hb
          · have ej : j = i := by omega
            subst ej
            rw [k2] at hb
            have e1 : (kn ++ t).getD j 0 = kn[j] := by simp [List.getElem?_append, hlt]
            rw [e1] at hb
            exact k3 b hb
        · rw [k2]; simp; omega
    · rw [dif_neg hlt]
      have : i = kn.length := by omega
      subst this
      exact ⟨al, kn, rfl, h⟩
theorem trues_mem (l : List Bool) (x : Int) : ∀ k, (x ∈ trues l k ↔ (0 ≤ x ∧ x < k) ∧ l.getD x.toNat false = true)
  | 0 => by simp [trues]; omega
  | k + 1 => by
    unfold trues
    by_cases h : l.getD k false = true
    · rw [if_pos h, List.mem_append, List.mem_singleton, trues_mem l x k]
      constructor
      · rintro (⟨h1, h2⟩ | rfl)
        · exact ⟨⟨h1.1, by omega⟩, h2⟩
        · exact ⟨by omega, by simpa using h⟩
      · rintro ⟨h1, h2⟩
        by_cases e : x = k
        · exact .inr e
        · exact .inl ⟨⟨h1.1, by omega⟩, h2⟩
    · rw [if_neg h, trues_mem l x k]
      constructor
      · rintro ⟨h1, h2⟩
        exact ⟨⟨h1.1, by omega⟩, h2⟩
      · rintro ⟨h1, h2⟩
        refine ⟨⟨h1.1, ?_⟩, h2⟩
        by_cases h3 : x < k
        · exact h3
        · have : x = k := by omega
          subst this
          exact absurd (by simpa using h2) h
theorem trues_nd (l : List Bool) : ∀ k, (trues l k).Nodup
  | 0 => by simp [trues]
  | k + 1 => by
    unfold trues
    split
    · rw [List.nodup_append]
      refine ⟨trues_nd l k, by simp, ?_⟩
      intro x hx y hy e
      have := trues_in l k x hx
      rw [List.mem_singleton.1 hy] at e
      omega
    · exact trues_nd l k
/-- What lives, told: some fuel is enough. -/
theorem liv_ok {m : Mac} (hf : Fits m) {f : Nat} (hfu : m.next.length ≤ f) : ∃ al, livO (arrive m) f 0 m.fin (trues m.fin m.next.length) = some al ∧ al.length = m.next.length ∧ ∀ s : Nat, s < m.next.length → (al.getD s false = true ↔ Alive m s) := by
  have h0 : Lv m 0 m.fin (trues m.fin m.next.length) := by
    refine ⟨hf.fin.symm, fun x hx => ((trues_mem _ x _).1 hx).1, trues_nd _ _, ?_, ?_, ?_, fun i hi => absurd hi (Nat.not_lt_zero i)⟩
    · intro s hs
      rw [trues_mem]
      simp [hs]
    · intro x hx
      obtain ⟨h1, h2⟩ := (trues_mem _ x _).1 hx
      refine .fin ?_
      simp [ends] at h2 ⊢
      exact ⟨by omega, h2⟩
    · intro s hs hfn
      rw [trues_mem]
      simp [hs]
      simpa using hfn
  obtain ⟨al, kn, h1, h2⟩ := livO_ok hf f 0 _ _ h0 (Nat.zero_le _) (by omega)
  refine ⟨al, h1, h2.len, fun s hs => ?_⟩
  rw [h2.mem s hs]
  constructor
  · exact h2.live _
  · intro h
    have hi : In m (s : Int) := ⟨by omega, by omega⟩
    refine Alive.ind hf (p := fun s => s ∈ kn) ?_ ?_ hi h
    · intro s hi he
      simp [ends] at he
      have := h2.fin s.toNat (by have := hi.1; have := hi.2; omega) (by simpa using he.2)
      have e : ((s.toNat : Nat) : Int) = s := by have := hi.1; omega
      rw [e] at this
      exact this
    · intro s k hi hk hl hm
      have hr := h2.rng _ hm
      obtain ⟨j, hj, ej⟩ := List.getElem_of_mem hm
      have e1 : kn.getD j 0 = lead m s k := by simp [hj, ej]
      have hs1 : s ≠ -1 := by
        intro e
        subst e
        simp [lead] at hr
      refine h2.done j hj hj (s, k) ?_
      rw [e1]
      have hlt : (lead m s k).toNat < m.next.length := by omega
      refine (arrive_mem hf hlt (s, k)).2 ⟨⟨⟨?_, hi.2⟩, hk, hl⟩, ?_⟩
      · have := hi.1; simp; omega
      · simp; omega
end Go.Proofs.Ytldmjpnldgekaaa.A
end
section
namespace Go.Proofs.Ytldmjpnldgekaaa.A
/-- What the rows of a partition hold, as numbers: row, place, class, begin, end, marked. -/
structure Gh where
  r : Nat → Nat
  p : Nat → Nat
  c : Nat → Nat
  b : Nat → Nat
  e : Nat → Nat
  m : Nat → Nat
/-- A partition of the states that are in A (of n), of which those in M are marked. -/
structure Part (n N K : Nat) (A M : Nat → Prop) (g : Gh) (d : Pd) : Prop where
  rl : d.row.length = N
  pl : d.place.length = n
  cl : d.cls.length = n
  bl : d.beg.length = K
  fl : d.fin.length = K
  ml : d.mkd.length = K
  er : ∀ i, i < N → d.row.getD i 0 = (g.r i : Int)
  ep : ∀ s, s < n → A s → d.place.getD s 0 = (g.p s : Int)
  ec : ∀ s, s < n → A s → d.cls.getD s 0 = (g.c s : Int)
  ed : ∀ s, s < n → ¬ A s → d.cls.getD s 0 = -1
  eb : ∀ k, k < K → d.beg.getD k 0 = (g.b k : Int)
  ef : ∀ k, k < K → d.fin.getD k 0 = (g.e k : Int)
  em : ∀ k, k < K → d.mkd.getD k 0 = (g.m k : Int)
  rp : ∀ i, i < N → g.r i < n ∧ A (g.r i) ∧ g.p (g.r i) = i
  pr : ∀ s, s < n → A s → g.p s < N ∧ g.r (g.p s) = s ∧ g.c s < K
  be : ∀ k, k < K → g.b k < g.e k ∧ g.e k ≤ N ∧ g.b k + g.m k ≤ g.e k
  io : ∀ s, s < n → A s → ∀ k, k < K → (g.c s = k ↔ g.b k ≤ g.p s ∧ g.p s < g.e k)
  mm : ∀ s, s < n → A s → (M s ↔ g.p s < g.b (g.c s) + g.m (g.c s))
theorem getD_setH {l : List Int} {i j : Nat} {x : Int} (hi : i < l.length) : (l.set i x).getD j 0 = if i = j then x else l.getD j 0 := by
  simp only [List.getD_eq_getElem?_getD, List.getElem?_set, hi, if_true]
  split <;> simp
theorem natO_is {l : List Int} {i n : Nat} (hi : i < l.length) (h : l.getD i 0 = (n : Int)) : natO l i = some n := by
  unfold natO
  rw [if_pos ⟨hi, by omega⟩, h]
  simp
/-- The numbers behind a mark. -/
def Gh.mark (g : Gh) (s : Nat) : Gh :=
  { g with
    r := fun i => if i = g.b (g.c s) + g.m (g.c s) then s else if i = g.p s then g.r (g.b (g.c s) + g.m (g.c s)) else g.r i
    p := fun t => if t = s then g.b (g.c s) + g.m (g.c s) else if t = g.r (g.b (g.c s) + g.m (g.c s)) then g.p s else g.p t
    m := fun k => if k = g.c s then g.m k + 1 else g.m k }
theorem Part.mark {n N K : Nat} {A M : Nat → Prop} {g : Gh} {d : Pd} (h : Part n N K A M g d) (hN : N ≤ big) {s : Nat} (hs : s < n) (hA : A s) (hM : ¬ M s) :
    ∃ d', markO d s = some (d', decide (g.m (g.c s) = 0)) ∧ Part n N K A (fun t => t = s ∨ M t) (g.mark s) d' ∧ d'.cls = d.cls := by
  obtain ⟨p1, p2, p3⟩ := h.pr s hs hA
  obtain ⟨b1, b2, b3⟩ := h.be _ p3
  obtain ⟨i1, i2⟩ := (h.io s hs hA _ p3).1 rfl
  have m1 : ¬ g.p s < g.b (g.c s) + g.m (g.c s) := fun h2 => hM ((h.mm s hs hA).2 h2)
  have hbm : g.b (g.c s) + g.m (g.c s) < N := by omega
  obtain ⟨o1, o2, o3⟩ := h.rp _ hbm
  have hoc : g.c (g.r (g.b (g.c s) + g.m (g.c s))) = g.c s := (h.io _ o1 o2 _ p3).2 (by rw [o3]; omega)
  have hoM : ¬ M (g.r (g.b (g.c s) + g.m (g.c s))) := by
    rw [h.mm _ o1 o2, o3, hoc]
    omega
  refine ⟨d.marked s (g.c s) (g.p s) (g.b (g.c s)) (g.m (g.c s)) (g.r (g.b (g.c s) + g.m (g.c s))), ?_, ?_, rfl⟩
  · unfold markO
    rw [natO_is (by rw [h.cl]; exact hs) (h.ec s hs hA), Option.bind_some, natO_is (by rw [h.pl]; exact hs) (h.ep s hs hA), Option.bind_some, natO_is (by rw [h.bl]; exact p3) (h.eb _ p3), Option.bind_some, natO_is (by rw [h.ml]; exact p3) (h.em _ p3), Option.bind_some, natO_is (by rw [h.rl]; exact hbm) (h.er _ hbm), Option.bind_some, if_pos ⟨by rw [h.rl]; exact p1, by rw [h.pl]; exact o1, by rw [h.rl]; exact hN⟩]
  · generalize ho : g.r (g.b (g.c s) + g.m (g.c s)) = ot at *
    generalize hB : g.b (g.c s) + g.m (g.c s) = B at *
    have hB' : (g.b (g.c s) : Int) + (g.m (g.c s) : Int) = (B : Int) := by omega
    have er' : ∀ i, (g.mark s).r i = if i = B then s else if i = g.p s then ot else g.r i := by
      intro i; simp only [Gh.mark, hB, ho]
    have ep' : ∀ t, (g.mark s).p t = if t = s then B else if t = ot then g.p s else g.p t := by
      intro t; simp only [Gh.mark, hB, ho]
    have em' : ∀ k, (g.mark s).m k = if k = g.c s then g.m k + 1 else g.m k := fun k => rfl
    have hso : s = ot ↔ g.p s = B := by
      constructor
      · intro e; rw [e]; exact o3
      · intro e; rw [← p2, e]; exact ho
    have hc' : ∀ i, i < N → g.c ((g.mark s).r i) = g.c (g.r i) := by
      intro i hi
      rw [er']
      split
      · rename_i e; rw [e, ho, hoc]
      · split
        · rename_i e; rw [e, p2, hoc]
        · rfl
    have hrl : (d.row.set (g.p s) (ot : Int)).length = N := by simpa using h.rl
    have hpl : (d.place.set ot (g.p s : Int)).length = n := by simpa using h.pl
    refine ⟨by simpa [Pd.marked] using h.rl, by simpa [Pd.marked] using h.pl, h.cl, h.bl, h.fl, by simpa [Pd.marked] using h.ml, ?_, ?_, h.ec, h.ed, h.eb, h.ef, ?_, ?_, ?_, ?_, ?_, ?_⟩
    · intro i hi
      rw [er']
      simp only [Pd.marked, hB]
      rw [getD_setH (by rw [hrl]; exact hbm), getD_setH (by rw [h.rl]; exact p1)]
      by_cases e1 : i = B
      · rw [if_pos e1.symm, if_pos e1]
      · rw [if_neg (fun e => e1 e.symm), if_neg e1]
        by_cases e2 : i = g.p s
        · rw [if_pos e2.symm, if_pos e2]
        · rw [if_neg (fun e => e2 e.symm), if_neg e2]
          exact h.er i hi
    · intro t ht hAt
      rw [ep']
      simp only [Pd.marked, hB']
      rw [getD_setH (by rw [hpl]; exact hs), getD_setH (by rw [h.pl]; exact o1)]
      by_cases e1 : t = s
      · rw [if_pos e1.symm, if_pos e1]
      · rw [if_neg (fun e => e1 e.symm), if_neg e1]
        by_cases e2 : t = ot
        · rw [if_pos e2.symm, if_pos e2]
        · rw [if_neg (fun e => e2 e.symm), if_neg e2]
          exact h.ep t ht hAt
    · intro k hk
      rw [em']
      simp only [Pd.marked]
      rw [getD_setH (by rw [h.ml]; exact p3)]
      by_cases e1 : k = g.c s
      · rw [if_pos e1.symm, if_pos e1, e1]; omega
      · rw [if_neg (fun e => e1 e.symm), if_neg e1]
        exact h.em k hk
    · intro i hi
      obtain ⟨k1, k2, k3⟩ := h.rp i hi
      rw [er']
      split
      · rename_i e
        exact ⟨hs, hA, by rw [ep', if_pos rfl, e]⟩
      · split
        · rename_i e1 e2
          refine ⟨o1, o2, ?_⟩
          rw [ep', if_neg (fun e => e1 (by rw [e2]; exact hso.1 e.symm)), if_pos rfl, e2]
        · rename_i e1 e2
          refine ⟨k1, k2, ?_⟩
          rw [ep', if_neg (fun e => e2 (by rw [← e]; exact k3.symm)), if_neg (fun e => e1 (by rw [← o3, ← e]; exact k3.symm))]
          exact k3
    · intro t ht hAt
      obtain ⟨k1, k2, k3⟩ := h.pr t ht hAt
      rw [ep']
      split
      · rename_i e
        exact ⟨hbm, by rw [er', if_pos rfl, e], k3⟩
      · split
        · rename_i e1 e2
          refine ⟨p1, ?_, k3⟩
          rw [er', if_neg (fun e => e1 (by rw [e2]; exact (hso.2 e).symm)), if_pos rfl, e2]
        · rename_i e1 e2
          refine ⟨k1, ?_, k3⟩
          rw [er', if_neg (fun e => e2 (by rw [← k2, e]; exact ho)), if_neg (fun e => e1 (by rw [← k2, e, p2]))]
          exact k2
    · intro k hk
      obtain ⟨k1, k2, k3⟩ := h.be k hk
      refine ⟨k1, k2, ?_⟩
      rw [em']
      show g.b k + _ ≤ g.e k
      split
      · rename_i e
        subst e
        omega
      · exact k3
    · intro t ht hAt k hk
      rw [ep']
      show g.c t = k ↔ g.b k ≤ _ ∧ _ < g.e k
      have key := h.io t ht hAt k hk
      have keys := h.io s hs hA k hk
      have keyo := h.io ot o1 o2 k hk
      rw [hoc, o3] at keyo
      split
      · rename_i e
        rw [e]
        exact keyo
      · split
        · rename_i e
          rw [e, hoc]
          exact keys
        · exact key
    · intro t ht hAt
      rw [ep', em']
      show _ ↔ _ < g.b (g.c t) + (if g.c t = g.c s then g.m (g.c t) + 1 else g.m (g.c t))
      have key := h.mm t ht hAt
      by_cases e1 : t = s
      · subst e1
        simp; omega
      · rw [if_neg e1]
        by_cases e2 : t = ot
        · subst e2
          rw [if_pos rfl, hoc, if_pos rfl]
          have : g.p s ≠ B := fun e => e1 (hso.2 e).symm
          constructor
          · rintro (h1 | h1)
            · exact absurd h1 e1
            · exact absurd h1 hoM
          · intro h1; omega
        · rw [if_neg e2]
          have hne : g.p t ≠ B := by
            intro e
            have := (h.pr t ht hAt).2.1
            rw [e, ho] at this
            exact e2 this.symm
          rw [show (t = s ∨ M t) ↔ M t from ⟨fun h => h.resolve_left e1, .inr⟩, key]
          split
          · rename_i e; rw [e]; omega
          · rfl
end Go.Proofs.Ytldmjpnldgekaaa.A
end
section
namespace Go.Proofs.Ytldmjpnldgekaaa.A
theorem clsTo_get {row cls : List Int} {r : Nat → Nat} {b n : Nat} (s : Nat) : ∀ k, (∀ i, i < k → row.getD (b + i) 0 = (r (b + i) : Int) ∧ r (b + i) < cls.length) →
    (clsTo row b n k cls).getD s 0 = if (∃ i, i < k ∧ r (b + i) = s) then (n : Int) else cls.getD s 0
  | 0, _ => by
    rw [if_neg (fun ⟨i, hi, _⟩ => absurd hi (Nat.not_lt_zero i))]
    rfl
  | k + 1, h => by
    rw [clsTo_succ, (h k (Nat.lt_succ_self k)).1, Int.toNat_natCast, getD_setH (by rw [clsTo_len]; exact (h k (Nat.lt_succ_self k)).2), clsTo_get s k (fun i hi => h i (by omega))]
    by_cases e : r (b + k) = s
    · rw [if_pos e, if_pos ⟨k, Nat.lt_succ_self k, e⟩]
    · rw [if_neg e]
      by_cases e2 : ∃ i, i < k ∧ r (b + i) = s
      · obtain ⟨i, hi, e3⟩ := e2
        rw [if_pos ⟨i, hi, e3⟩, if_pos ⟨i, by omega, e3⟩]
      · rw [if_neg e2, if_neg]
        rintro ⟨i, hi, e3⟩
        by_cases hk : i = k
        · exact e (hk ▸ e3)
        · exact e2 ⟨i, by omega, e3⟩
theorem set_self {l : List Int} {k : Nat} {x : Int} (h : k < l.length) (e : l.getD k 0 = x) : l.set k x = l := by
  subst e
  have : l.getD k 0 = l[k] := by simp [h]
  rw [this]
  exact List.set_getElem_self h
theorem getD_app1 {l : List Int} {x : Int} {n j : Nat} (h : l.length = n) : (l ++ [x]).getD j 0 = if j = n then x else l.getD j 0 := by
  subst h
  by_cases e : j = l.length
  · subst e; simp
  · rw [if_neg e]
    rcases Nat.lt_or_ge j l.length with hj | hj
    · simp [List.getElem?_append, hj]
    · have h1 : l.length + 1 ≤ j := by omega
      simp [h1, hj]
/-- The numbers behind a cut: the class k keeps [u, v), the new class takes [x, y). -/
def Gh.cut (g : Gh) (K k u v x y : Nat) : Gh :=
  { g with
    c := fun t => if x ≤ g.p t ∧ g.p t < y then K else g.c t
    b := fun j => if j = K then x else if j = k then u else g.b j
    e := fun j => if j = K then y else if j = k then v else g.e j
    m := fun j => if j = K then 0 else if j = k then 0 else g.m j }
def Pd.cut (d : Pd) (K k u v x y : Nat) : Pd := { d with cls := clsTo d.row x K (y - x) d.cls, beg := d.beg.set k (u : Int) ++ [(x : Int)], fin := d.fin.set k (v : Int) ++ [(y : Int)], mkd := d.mkd.set k 0 ++ [0] }
theorem Part.cut {n N K : Nat} {A M : Nat → Prop} {g : Gh} {d : Pd} (h : Part n N K A M g d) {k u v x y : Nat} (hk : k < K) (hxy : x < y) (huv : u < v) (hd : v ≤ x ∨ y ≤ u)
    (hall : ∀ i, (g.b k ≤ i ∧ i < g.e k) ↔ (x ≤ i ∧ i < y) ∨ (u ≤ i ∧ i < v)) : Part n N (K + 1) A (fun t => M t ∧ g.c t ≠ k) (g.cut K k u v x y) (d.cut K k u v x y) := by
  obtain ⟨b1, b2, b3⟩ := h.be k hk
  have hyN : y ≤ N := by have := (hall (y - 1)).2 (.inl ⟨by omega, by omega⟩); omega
  have hvN : v ≤ N := by have := (hall (v - 1)).2 (.inr ⟨by omega, by omega⟩); omega
  have hrow : ∀ i, i < y - x → d.row.getD (x + i) 0 = (g.r (x + i) : Int) ∧ g.r (x + i) < d.cls.length := by
    intro i hi
    exact ⟨h.er _ (by omega), by rw [h.cl]; exact (h.rp _ (by omega)).1⟩
  have hex : ∀ t, t < n → A t → ((∃ i, i < y - x ∧ g.r (x + i) = t) ↔ x ≤ g.p t ∧ g.p t < y) := by
    intro t ht hA
    constructor
    · rintro ⟨i, hi, rfl⟩
      rw [(h.rp _ (by omega)).2.2]
      omega
    · rintro ⟨h1, h2⟩
      exact ⟨g.p t - x, by omega, by rw [show x + (g.p t - x) = g.p t by omega]; exact (h.pr t ht hA).2.1⟩
  have hin : ∀ t, t < n → A t → x ≤ g.p t → g.p t < y → g.c t = k := fun t ht hA h1 h2 => (h.io t ht hA k hk).2 ((hall _).2 (.inl ⟨h1, h2⟩))
  refine ⟨h.rl, h.pl, by simp only [Pd.cut]; rw [clsTo_len]; exact h.cl, by simp [Pd.cut, h.bl], by simp [Pd.cut, h.fl], by simp [Pd.cut, h.ml], h.er, h.ep, ?_, ?_, ?_, ?_, ?_, h.rp, ?_, ?_, ?_, ?_⟩
  · intro t ht hA
    simp only [Pd.cut, Gh.cut]
    rw [clsTo_get (r := g.r) t _ hrow]
    by_cases e : x ≤ g.p t ∧ g.p t < y
    · rw [if_pos ((hex t ht hA).2 e), if_pos e]
    · rw [if_neg (fun e2 => e ((hex t ht hA).1 e2)), if_neg e]
      exact h.ec t ht hA
  · intro t ht hA
    simp only [Pd.cut]
    rw [clsTo_get (r := g.r) t _ hrow, if_neg]
    · exact h.ed t ht hA
    · rintro ⟨i, hi, rfl⟩
      exact hA (h.rp _ (by omega)).2.1
  · intro j hj
    simp only [Pd.cut, Gh.cut]
    rw [getD_app1 (n := K) (by simp [h.bl])]
    split
    · rfl
    · rw [getD_setH (by rw [h.bl]; exact hk)]
      by_cases e : j = k
      · rw [if_pos e.symm, if_pos e]
      · rw [if_neg (fun e2 => e e2.symm), if_neg e]
        exact h.eb j (by omega)
  · intro j hj
    simp only [Pd.cut, Gh.cut]
    rw [getD_app1 (n := K) (by simp [h.fl])]
    split
    · rfl
    · rw [getD_setH (by rw [h.fl]; exact hk)]
      by_cases e : j = k
      · rw [if_pos e.symm, if_pos e]
      · rw [if_neg (fun e2 => e e2.symm), if_neg e]
        exact h.ef j (by omega)
  · intro j hj
    simp only [Pd.cut, Gh.cut]
    rw [getD_app1 (n := K) (by simp [h.ml])]
    split
    · rfl
    · rw [getD_setH (by rw [h.ml]; exact hk)]
      by_cases e : j = k
      · rw [if_pos e.symm, if_pos e]; rfl
      · rw [if_neg (fun e2 => e e2.symm), if_neg e]
        exact h.em j (by omega)
  · intro t ht hA
    obtain ⟨k1, k2, k3⟩ := h.pr t ht hA
    refine ⟨k1, k2, ?_⟩
    simp only [Gh.cut]
    split <;> omega
  · intro j hj
    simp only [Gh.cut]
    by_cases e1 : j = K
    · simp only [e1, if_true]; omega
    · simp only [e1, if_false]
      by_cases e2 : j = k
      · simp only [e2, if_true]; omega
      · simp only [e2, if_false]
        exact h.be j (by omega)
  · intro t ht hA j hj
    simp only [Gh.cut]
    obtain ⟨k1, k2, k3⟩ := h.pr t ht hA
    have hik := h.io t ht hA k hk
    have hal := hall (g.p t)
    by_cases e0 : x ≤ g.p t ∧ g.p t < y
    · rw [if_pos e0]
      by_cases e1 : j = K
      · simp only [e1, if_true]; exact ⟨fun _ => e0, fun _ => trivial⟩
      · simp only [e1, if_false]
        have hck := hin t ht hA e0.1 e0.2
        by_cases e2 : j = k
        · simp only [e2, if_true]; omega
        · simp only [e2, if_false]
          have := h.io t ht hA j (by omega)
          omega
    · rw [if_neg e0]
      by_cases e1 : j = K
      · simp only [e1, if_true]; omega
      · simp only [e1, if_false]
        by_cases e2 : j = k
        · simp only [e2, if_true]; omega
        · simp only [e2, if_false]
          exact h.io t ht hA j (by omega)
  · intro t ht hA
    simp only [Gh.cut]
    obtain ⟨k1, k2, k3⟩ := h.pr t ht hA
    have hmm := h.mm t ht hA
    by_cases e0 : x ≤ g.p t ∧ g.p t < y
    · rw [if_pos e0]
      have hck := hin t ht hA e0.1 e0.2
      simp only [if_true]
      constructor
      · rintro ⟨_, h2⟩; exact absurd hck h2
      · intro h2; omega
    · rw [if_neg e0]
      have e1 : g.c t ≠ K := by omega
      simp only [e1, if_false]
      by_cases e2 : g.c t = k
      · simp only [e2, if_true]
        have hik := (h.io t ht hA k hk).1 e2
        have hal := (hall (g.p t)).1 hik
        constructor
        · rintro ⟨_, h2⟩; exact absurd rfl h2
        · intro h2; omega
      · simp only [e2, if_false]
        rw [hmm]
        exact ⟨fun h => h.1, fun h => ⟨h, e2⟩⟩
/-- The numbers behind a class that is wholly marked: its marks go. -/
theorem Part.unmark {n N K : Nat} {A M : Nat → Prop} {g : Gh} {d : Pd} (h : Part n N K A M g d) {k : Nat} (hk : k < K) (he : g.b k + g.m k = g.e k) : Part n N K A (fun t => M t ∧ g.c t ≠ k) { g with m := fun j => if j = k then 0 else g.m j } { d with mkd := d.mkd.set k 0 } := by
  refine ⟨h.rl, h.pl, h.cl, h.bl, h.fl, by simp [h.ml], h.er, h.ep, h.ec, h.ed, h.eb, h.ef, ?_, h.rp, h.pr, ?_, h.io, ?_⟩
  · intro j hj
    show (d.mkd.set k 0).getD j 0 = ((if j = k then 0 else g.m j : Nat) : Int)
    rw [getD_setH (by rw [h.ml]; exact hk)]
    by_cases e : j = k
    · rw [if_pos e.symm, if_pos e]; rfl
    · rw [if_neg (fun e2 => e e2.symm), if_neg e]
      exact h.em j hj
  · intro j hj
    have := h.be j hj
    refine ⟨this.1, this.2.1, ?_⟩
    show g.b j + (if j = k then 0 else g.m j) ≤ g.e j
    split <;> omega
  · intro t ht hA
    have hmm := h.mm t ht hA
    show _ ↔ g.p t < g.b (g.c t) + (if g.c t = k then 0 else g.m (g.c t))
    by_cases e2 : g.c t = k
    · have hik := (h.io t ht hA k hk).1 e2
      simp only [e2, if_true]
      constructor
      · rintro ⟨_, h2⟩; exact absurd rfl h2
      · intro h2; omega
    · simp only [e2, if_false]
      rw [hmm]
      exact ⟨fun h => h.1, fun h => ⟨h, e2⟩⟩
/-- What a split comes to. -/
structure Spl (n K : Nat) (A M : Nat → Prop) (g g' : Gh) (k K' : Nat) (r : Bool) : Prop where
  more : K' = if r then K + 1 else K
  off : ∀ t, t < n → A t → g.c t ≠ k → g'.c t = g.c t
  new : ∀ t, t < n → A t → g.c t = k → g'.c t = k ∨ g'.c t = K
  tell : ∀ s t, s < n → t < n → A s → A t → g.c s = k → g.c t = k → (g'.c s = g'.c t ↔ (M s ↔ M t))
  marks : ∀ j, j < K → j ≠ k → g'.m j = g.m j
  none : g'.m k = 0
theorem Part.split {n N K : Nat} {A M : Nat → Prop} {g : Gh} {d : Pd} (h : Part n N K A M g d) (hN : N ≤ big) (hK : K ≤ big) {k : Nat} (hk : k < K) (hm : 0 < g.m k) :
    ∃ d' g' r K', splitO d k = some (d', r) ∧ Part n N K' A (fun t => M t ∧ g.c t ≠ k) g' d' ∧ Spl n K A M g g' k K' r ∧ d'.row = d.row ∧ d'.place = d.place := by
  obtain ⟨b1, b2, b3⟩ := h.be k hk
  have hpo : partOk d (g.b k) (g.e k) = true := by
    unfold partOk
    rw [List.all_eq_true]
    intro i hi
    have hi' := List.mem_range.1 hi
    have := (h.rp i (by omega)).1
    rw [h.er i (by omega), h.cl]
    simp; omega
  have hsp : splitO d k = some (d.splitted k (g.b k) (g.e k) (g.m k)) := by
    unfold splitO
    rw [natO_is (by rw [h.bl]; exact hk) (h.eb k hk), Option.bind_some, natO_is (by rw [h.fl]; exact hk) (h.ef k hk), Option.bind_some, natO_is (by rw [h.ml]; exact hk) (h.em k hk), Option.bind_some,
      if_pos ⟨hm, b3, by rw [h.rl]; exact b2, hpo, by rw [h.rl]; exact hN, by rw [h.bl]; exact hK, by rw [h.fl]; exact hK, by rw [h.ml]; exact hK⟩]
  have hmk : ∀ t, t < n → A t → g.c t = k → (M t ↔ g.p t < g.b k + g.m k) ∧ g.b k ≤ g.p t ∧ g.p t < g.e k := by
    intro t ht hA e
    have h1 := h.mm t ht hA
    rw [e] at h1
    exact ⟨h1, (h.io t ht hA k hk).1 e⟩
  have hlt : ∀ t, t < n → A t → g.c t < K := fun t ht hA => (h.pr t ht hA).2.2
  have hout : ∀ t, t < n → A t → g.c t ≠ k → ¬ (g.b k ≤ g.p t ∧ g.p t < g.e k) := fun t ht hA e e2 => e ((h.io t ht hA k hk).2 e2)
  by_cases c1 : g.b k + g.m k = g.e k
  · refine ⟨_, _, false, K, ?_, h.unmark hk c1, ⟨rfl, fun _ _ _ _ => rfl, fun _ _ _ e => .inl e, ?_, ?_, ?_⟩, rfl, rfl⟩
    · rw [hsp]; unfold Pd.splitted; rw [if_pos c1]
    · intro s t hs ht hAs hAt es et
      show g.c s = g.c t ↔ _
      have h1 := hmk s hs hAs es
      have h2 := hmk t ht hAt et
      rw [es, et, h1.1, h2.1]
      simp; omega
    · intro j hj e
      show (if j = k then 0 else g.m j) = g.m j
      rw [if_neg e]
    · show (if k = k then 0 else g.m k) = 0
      rw [if_pos rfl]
  · have key : ∀ u v x y, x < y → u < v → (v ≤ x ∨ y ≤ u) → (∀ i, (g.b k ≤ i ∧ i < g.e k) ↔ (x ≤ i ∧ i < y) ∨ (u ≤ i ∧ i < v)) → (∀ i, g.b k ≤ i → i < g.e k → ∀ j, g.b k ≤ j → j < g.e k → (((x ≤ i ∧ i < y) ↔ (x ≤ j ∧ j < y)) ↔ (i < g.b k + g.m k ↔ j < g.b k + g.m k))) → Part n N (K + 1) A (fun t => M t ∧ g.c t ≠ k) (g.cut K k u v x y) (d.cut K k u v x y) ∧ Spl n K A M g (g.cut K k u v x y) k (K + 1) true := by
      intro u v x y hxy huv hd hall hsame
      refine ⟨h.cut hk hxy huv hd hall, rfl, ?_, ?_, ?_, ?_, ?_⟩
      · intro t ht hA e
        have := hout t ht hA e
        have h2 := hall (g.p t)
        show (if x ≤ g.p t ∧ g.p t < y then K else g.c t) = g.c t
        rw [if_neg]
        intro h3
        exact this (h2.2 (.inl h3))
      · intro t ht hA e
        show (if x ≤ g.p t ∧ g.p t < y then K else g.c t) = k ∨ (if x ≤ g.p t ∧ g.p t < y then K else g.c t) = K
        split
        · exact .inr rfl
        · exact .inl e
      · intro s t hs ht hAs hAt es et
        obtain ⟨s1, s2, s3⟩ := hmk s hs hAs es
        obtain ⟨t1, t2, t3⟩ := hmk t ht hAt et
        rw [s1, t1, ← hsame _ s2 s3 _ t2 t3]
        show (if x ≤ g.p s ∧ g.p s < y then K else g.c s) = (if x ≤ g.p t ∧ g.p t < y then K else g.c t) ↔ _
        rw [es, et]
        have hne : K ≠ k := by omega
        by_cases e1 : x ≤ g.p s ∧ g.p s < y
        · by_cases e2 : x ≤ g.p t ∧ g.p t < y
          · simp [e1, e2]
          · rw [if_pos e1, if_neg e2]
            exact ⟨fun h => absurd h hne, fun h => absurd (h.1 e1) e2⟩
        · by_cases e2 : x ≤ g.p t ∧ g.p t < y
          · rw [if_neg e1, if_pos e2]
            exact ⟨fun h => absurd h.symm hne, fun h => absurd (h.2 e2) e1⟩
          · rw [if_neg e1, if_neg e2]
            exact ⟨fun _ => ⟨fun h => absurd h e1, fun h => absurd h e2⟩, fun _ => rfl⟩
      · intro j hj e
        show (if j = K then 0 else if j = k then 0 else g.m j) = g.m j
        rw [if_neg (by omega), if_neg e]
      · show (if k = K then 0 else if k = k then 0 else g.m k) = 0
        split <;> simp
    by_cases c2 : g.m k ≤ g.e k - (g.b k + g.m k)
    · obtain ⟨k1, k2⟩ := key (g.b k + g.m k) (g.e k) (g.b k) (g.b k + g.m k) (by omega) (by omega) (.inr (by omega)) (by omega) (by omega)
      refine ⟨_, _, true, K + 1, ?_, k1, k2, rfl, rfl⟩
      rw [hsp]
      unfold Pd.splitted
      rw [if_neg c1, if_pos c2]
      simp only [Pd.added, Pd.cut, Option.some.injEq, Prod.mk.injEq, and_true]
      rw [List.length_set, h.bl, set_self (by rw [h.fl]; exact hk) (h.ef k hk)]
      rfl
    · obtain ⟨k1, k2⟩ := key (g.b k) (g.b k + g.m k) (g.b k + g.m k) (g.e k) (by omega) (by omega) (.inl (by omega)) (by omega) (by omega)
      refine ⟨_, _, true, K + 1, ?_, k1, k2, rfl, rfl⟩
      rw [hsp]
      unfold Pd.splitted
      rw [if_neg c1, if_neg c2]
      simp only [Pd.added, Pd.cut, Option.some.injEq, Prod.mk.injEq, and_true]
      rw [h.bl, set_self (by rw [h.bl]; exact hk) (h.eb k hk)]
      rfl
end Go.Proofs.Ytldmjpnldgekaaa.A
end
section
namespace Go.Proofs.Ytldmjpnldgekaaa.A
theorem Part.congrM {n N K : Nat} {A M M' : Nat → Prop} {g : Gh} {d : Pd} (h : Part n N K A M g d) (e : ∀ s, s < n → A s → (M' s ↔ M s)) : Part n N K A M' g d :=
  ⟨h.rl, h.pl, h.cl, h.bl, h.fl, h.ml, h.er, h.ep, h.ec, h.ed, h.eb, h.ef, h.em, h.rp, h.pr, h.be, h.io, fun s hs hA => (e s hs hA).trans (h.mm s hs hA)⟩
theorem Part.few {n N K : Nat} {A M : Nat → Prop} {g : Gh} {d : Pd} (h : Part n N K A M g d) : K ≤ N := by
  have h1 : ((List.range K).map g.b).Nodup := by
    unfold List.Nodup
    rw [List.pairwise_map]
    refine List.nodup_range.imp_of_mem fun {i j} hi hj hne e => hne ?_
    have hi' := List.mem_range.1 hi
    have hj' := List.mem_range.1 hj
    have bi := h.be i hi'
    have bj := h.be j hj'
    obtain ⟨r1, r2, r3⟩ := h.rp (g.b i) (by omega)
    have ei := (h.io _ r1 r2 i hi').2 (by rw [r3]; omega)
    have ej := (h.io _ r1 r2 j hj').2 (by rw [r3]; omega)
    exact ei.symm.trans ej
  have := nodup_nat N _ h1 (by
    intro x hx
    obtain ⟨i, hi, rfl⟩ := List.mem_map.1 hx
    have := h.be i (List.mem_range.1 hi)
    omega)
  simpa using this
/-- The classes with marks, in a list. -/
def Tch (K : Nat) (g : Gh) (ts : List Int) : Prop := ts.Nodup ∧ ∀ x, x ∈ ts ↔ ∃ k : Nat, k < K ∧ x = (k : Int) ∧ 0 < g.m k
theorem touch_ok {n N K : Nat} {A : Nat → Prop} (hN : N ≤ big) : ∀ (ws : List Int) (M : Nat → Prop) (g : Gh) (d : Pd) (ts : List Int), Part n N K A M g d → Tch K g ts → ws.Nodup → (∀ x ∈ ws, ∃ s : Nat, x = (s : Int) ∧ s < n ∧ A s ∧ ¬ M s) →
    ∃ d' g' ts', touch ws d ts = some (d', ts') ∧ Part n N K A (fun t => M t ∨ (t : Int) ∈ ws) g' d' ∧ Tch K g' ts' ∧ g'.c = g.c
  | [], M, g, d, ts, h, ht, _, _ => ⟨d, g, ts, rfl, h.congrM (by simp), ht, rfl⟩
  | x :: ws, M, g, d, ts, h, ht, hnd, hw => by
    obtain ⟨s, rfl, hs, hA, hM⟩ := hw x (.head _)
    obtain ⟨hx, hnd'⟩ := List.nodup_cons.1 hnd
    obtain ⟨d1, h1, h2, h3⟩ := h.mark hN hs hA hM
    have hc := (h.pr s hs hA).2.2
    have hw' : ∀ y ∈ ws, ∃ t : Nat, y = (t : Int) ∧ t < n ∧ A t ∧ ¬ (t = s ∨ M t) := by
      intro y hy
      obtain ⟨t, rfl, k1, k2, k3⟩ := hw y (.tail _ hy)
      refine ⟨t, rfl, k1, k2, ?_⟩
      rintro (e | e)
      · exact hx (e ▸ hy)
      · exact k3 e
    have step : ∀ ts1, Tch K (g.mark s) ts1 → ∃ d' g' ts', touch ws d1 ts1 = some (d', ts') ∧ Part n N K A (fun t => M t ∨ (t : Int) ∈ ((s : Int) :: ws)) g' d' ∧ Tch K g' ts' ∧ g'.c = g.c := by
      intro ts1 ht1
      obtain ⟨d', g', ts', e1, e2, e3, e4⟩ := touch_ok hN ws _ _ _ ts1 h2 ht1 hnd' hw'
      refine ⟨d', g', ts', e1, e2.congrM ?_, e3, e4⟩
      intro t _ _
      rw [List.mem_cons]
      constructor
      · rintro (h | h | h)
        · exact .inl (.inr h)
        · exact .inl (.inl (by omega))
        · exact .inr h
      · rintro ((h | h) | h)
        · exact .inr (.inl (by omega))
        · exact .inl h
        · exact .inr (.inr h)
    unfold touch
    rw [if_pos (by omega : (0 : Int) ≤ (s : Int)), Int.toNat_natCast, h1]
    have hmk : ∀ k, (g.mark s).m k = if k = g.c s then g.m k + 1 else g.m k := fun k => rfl
    by_cases e0 : g.m (g.c s) = 0
    · rw [decide_eq_true e0]
      simp only
      rw [h3, h.ec s hs hA]
      refine step _ ⟨?_, fun y => ?_⟩
      · rw [List.nodup_append]
        refine ⟨ht.1, by simp, ?_⟩
        intro a ha b hb e
        rw [List.mem_singleton.1 hb] at e
        obtain ⟨k, _, ek, hk⟩ := (ht.2 a).1 ha
        have : k = g.c s := by omega
        subst this
        omega
      · rw [List.mem_append, List.mem_singleton, ht.2]
        constructor
        · rintro (⟨k, h1, h2, h3⟩ | e)
          · exact ⟨k, h1, h2, by rw [hmk]; split <;> omega⟩
          · exact ⟨g.c s, hc, e, by rw [hmk, if_pos rfl]; omega⟩
        · rintro ⟨k, h1, h2, h3⟩
          rw [hmk] at h3
          by_cases e : k = g.c s
          · exact .inr (e ▸ h2)
          · rw [if_neg e] at h3; exact .inl ⟨k, h1, h2, h3⟩
    · rw [decide_eq_false e0]
      simp only
      refine step _ ⟨ht.1, fun y => ?_⟩
      rw [ht.2]
      constructor
      · rintro ⟨k, h1, h2, h3⟩
        exact ⟨k, h1, h2, by rw [hmk]; split <;> omega⟩
      · rintro ⟨k, h1, h2, h3⟩
        rw [hmk] at h3
        refine ⟨k, h1, h2, ?_⟩
        by_cases e : k = g.c s
        · subst e; omega
        · rw [if_neg e] at h3; exact h3
/-- The numbers from K up to K'. -/
def span (K K' : Nat) : List Int := (List.range (K' - K)).map fun (i : Nat) => ((K + i : Nat) : Int)
theorem span_self (K : Nat) : span K K = [] := by simp [span]
theorem span_cons {K K' : Nat} (h : K < K') : span K K' = (K : Int) :: span (K + 1) K' := by
  unfold span
  rw [show K' - K = (K' - (K + 1)) + 1 by omega, List.range_succ_eq_map, List.map_cons, List.map_map]
  congr 1
  apply List.map_congr_left
  intro i _
  simp; omega
theorem splits_ok {n N : Nat} {A : Nat → Prop} (hN : N ≤ big) : ∀ (ts : List Int) (K : Nat) (M : Nat → Prop) (g : Gh) (d : Pd) (fs : List Int), Part n N K A M g d → ts.Nodup → (∀ x ∈ ts, ∃ k : Nat, x = (k : Int) ∧ k < K ∧ 0 < g.m k) →
    ∃ d' g' K', splits ts d fs = some (d', fs ++ span K K') ∧ K ≤ K' ∧ Part n N K' A (fun t => M t ∧ (g.c t : Int) ∉ ts) g' d' ∧
      (∀ s t, s < n → t < n → A s → A t → (g'.c s = g'.c t ↔ g.c s = g.c t ∧ ((g.c s : Int) ∈ ts → (M s ↔ M t)))) ∧ ∀ t, t < n → A t → g'.c t = g.c t ∨ K ≤ g'.c t
  | [], K, M, g, d, fs, h, _, _ => ⟨d, g, K, by simp [splits, span_self], Nat.le_refl _, h.congrM (by simp), by simp, fun _ _ _ => .inl rfl⟩
  | x :: ts, K, M, g, d, fs, h, hnd, hw => by
    obtain ⟨k, rfl, hk, hm⟩ := hw x (.head _)
    obtain ⟨hx, hnd'⟩ := List.nodup_cons.1 hnd
    obtain ⟨d1, g1, r, K1, e1, e2, e3, _, _⟩ := h.split hN (Nat.le_trans h.few hN) hk hm
    have hK1 : K ≤ K1 := by rw [e3.more]; split <;> omega
    have hw' : ∀ y ∈ ts, ∃ j : Nat, y = (j : Int) ∧ j < K1 ∧ 0 < g1.m j := by
      intro y hy
      obtain ⟨j, rfl, k1, k2⟩ := hw y (.tail _ hy)
      refine ⟨j, rfl, by omega, ?_⟩
      rw [e3.marks j k1 (fun e => hx (e ▸ hy))]
      exact k2
    obtain ⟨d', g', K', f1, f2, f3, f4, f5⟩ := splits_ok hN ts K1 _ g1 d1 (if r then fs ++ [((K : Nat) : Int)] else fs) e2 hnd' hw'
    have hbig : ∀ y ∈ ts, ∃ j : Nat, y = (j : Int) ∧ j < K := fun y hy => by
      obtain ⟨j, e, k1, _⟩ := hw y (.tail _ hy)
      exact ⟨j, e, k1⟩
    have hcin : ∀ t, t < n → A t → ((g1.c t : Int) ∈ ts ↔ g.c t ≠ k ∧ (g.c t : Int) ∈ ts) := by
      intro t ht hA
      by_cases e : g.c t = k
      · constructor
        · intro h1
          rcases e3.new t ht hA e with h2 | h2
          · rw [h2] at h1; exact absurd h1 hx
          · obtain ⟨j, ej, hj⟩ := hbig _ h1
            omega
        · rintro ⟨h1, _⟩; exact absurd e h1
      · rw [e3.off t ht hA e]
        exact ⟨fun h => ⟨e, h⟩, fun h => h.2⟩
    refine ⟨d', g', K', ?_, Nat.le_trans hK1 f2, f3.congrM ?_, ?_, ?_⟩
    · unfold splits
      rw [if_pos (by omega : (0 : Int) ≤ (k : Int)), Int.toNat_natCast, e1]
      have hbl := e2.bl
      have hmore := e3.more
      cases r with
      | true =>
        simp only [if_true] at hmore f1 ⊢
        have hlen : ((d1.beg.length : Int) - 1) = ((K : Nat) : Int) := by rw [hbl, hmore]; omega
        rw [hlen, f1, span_cons (by omega : K < K'), hmore]
        simp
      | false =>
        simp at hmore f1 ⊢
        rw [f1, hmore]
    · intro t ht hA
      rw [List.mem_cons, hcin t ht hA]
      constructor
      · rintro ⟨h1, h2⟩
        exact ⟨⟨h1, fun e => h2 (.inl (by omega))⟩, fun h3 => h2 (.inr h3.2)⟩
      · rintro ⟨⟨h1, h2⟩, h3⟩
        refine ⟨h1, ?_⟩
        rintro (e | e)
        · omega
        · exact h3 ⟨h2, e⟩
    · intro s t hs ht hAs hAt
      rw [f4 s t hs ht hAs hAt, hcin s hs hAs, List.mem_cons]
      have hKs := (h.pr s hs hAs).2.2
      have hKt := (h.pr t ht hAt).2.2
      by_cases es : g.c s = k
      · by_cases et : g.c t = k
        · rw [e3.tell s t hs ht hAs hAt es et]
          constructor
          · rintro ⟨h1, _⟩; exact ⟨es.trans et.symm, fun _ => h1⟩
          · rintro ⟨_, h2⟩; exact ⟨h2 (.inl (by omega)), fun h3 => absurd es h3.1⟩
        · rw [e3.off t ht hAt et]
          constructor
          · rintro ⟨h1, _⟩
            rcases e3.new s hs hAs es with h2 | h2 <;> omega
          · rintro ⟨h1, _⟩; omega
      · rw [e3.off s hs hAs es]
        by_cases et : g.c t = k
        · constructor
          · rintro ⟨h1, _⟩
            rcases e3.new t ht hAt et with h2 | h2 <;> omega
          · rintro ⟨h1, _⟩; omega
        · rw [e3.off t ht hAt et]
          constructor
          · rintro ⟨h1, h2⟩
            refine ⟨h1, ?_⟩
            rintro (h3 | h3)
            · omega
            · have := h2 ⟨es, h3⟩
              constructor
              · intro h4; exact (this.1 ⟨h4, es⟩).1
              · intro h4; exact (this.2 ⟨h4, et⟩).1
          · rintro ⟨h1, h2⟩
            refine ⟨h1, fun h3 => ?_⟩
            have := h2 (.inr h3.2)
            constructor
            · rintro ⟨h4, _⟩; exact ⟨this.1 h4, et⟩
            · rintro ⟨h4, _⟩; exact ⟨this.2 h4, es⟩
    · intro t ht hA
      rcases f5 t ht hA with h1 | h1
      · by_cases et : g.c t = k
        · rcases e3.new t ht hA et with h2 | h2
          · exact .inl (by omega)
          · exact .inr (by omega)
        · exact .inl (by rw [h1, e3.off t ht hA et])
      · exact .inr (by omega)
/-- Dividing by a set: two states stay together just when they were and both or neither are in the set; a state keeps its class's number or gets a new one; the new ones are told. -/
theorem divide_ok {n N K : Nat} {A : Nat → Prop} {g : Gh} {d : Pd} (h : Part n N K A (fun _ => False) g d) (hN : N ≤ big) {ws : List Int} (hnd : ws.Nodup) (hw : ∀ x ∈ ws, ∃ s : Nat, x = (s : Int) ∧ s < n ∧ A s) :
    ∃ d' g' K', divideO d ws = some (d', span K K') ∧ K ≤ K' ∧ Part n N K' A (fun _ => False) g' d' ∧
      (∀ s t, s < n → t < n → A s → A t → (g'.c s = g'.c t ↔ g.c s = g.c t ∧ ((s : Int) ∈ ws ↔ (t : Int) ∈ ws))) ∧ ∀ t, t < n → A t → g'.c t = g.c t ∨ K ≤ g'.c t := by
  have h0 : ∀ k, k < K → g.m k = 0 := by
    intro k hk
    obtain ⟨b1, b2, b3⟩ := h.be k hk
    obtain ⟨r1, r2, r3⟩ := h.rp (g.b k) (by omega)
    have e := (h.io _ r1 r2 k hk).2 (by rw [r3]; omega)
    have := h.mm _ r1 r2
    rw [r3, e] at this
    simp at this
    exact this
  have ht0 : Tch K g [] := ⟨List.nodup_nil, fun x => ⟨fun h => absurd h (by simp), fun ⟨k, k1, _, k3⟩ => absurd (h0 k k1) (by omega)⟩⟩
  obtain ⟨d1, g1, ts, e1, e2, e3, e4⟩ := touch_ok hN ws _ g d [] h ht0 hnd (fun x hx => by
    obtain ⟨s, k1, k2, k3⟩ := hw x hx
    exact ⟨s, k1, k2, k3, fun f => f⟩)
  obtain ⟨d', g', K', f1, f2, f3, f4, f5⟩ := splits_ok hN ts K _ g1 d1 [] e2 e3.1 (fun x hx => by
    obtain ⟨k, k1, k2, k3⟩ := (e3.2 x).1 hx
    exact ⟨k, k2, k1, k3⟩)
  have hin : ∀ s, s < n → A s → (s : Int) ∈ ws → (g1.c s : Int) ∈ ts := by
    intro s hs hA hm
    have hk := (e2.pr s hs hA).2.2
    have := (e2.mm s hs hA).1 (.inr hm)
    have hi := (e2.io s hs hA _ hk).1 rfl
    exact (e3.2 _).2 ⟨g1.c s, hk, rfl, by omega⟩
  refine ⟨d', g', K', ?_, f2, f3.congrM ?_, ?_, ?_⟩
  · unfold divideO
    rw [e1]
    simp only
    rw [f1]
    simp
  · intro s hs hA
    constructor
    · exact fun f => f.elim
    · rintro ⟨h1 | h1, h2⟩
      · exact h1
      · exact h2 (hin s hs hA h1)
  · intro s t hs ht hAs hAt
    rw [f4 s t hs ht hAs hAt, e4]
    simp only [false_or]
    constructor
    · rintro ⟨h1, h2⟩
      refine ⟨h1, ?_⟩
      by_cases hc : (g.c s : Int) ∈ ts
      · exact h2 hc
      · constructor
        · intro h3
          have := hin s hs hAs h3
          rw [e4] at this
          exact absurd this hc
        · intro h3
          have := hin t ht hAt h3
          rw [e4, ← h1] at this
          exact absurd this hc
    · rintro ⟨h1, h2⟩
      exact ⟨h1, fun _ => h2⟩
  · intro t ht hA
    have := f5 t ht hA
    rw [e4] at this
    exact this
end Go.Proofs.Ytldmjpnldgekaaa.A
end
