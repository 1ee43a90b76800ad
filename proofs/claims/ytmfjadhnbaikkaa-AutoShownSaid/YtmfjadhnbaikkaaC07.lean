/- least. Relate, where two machines are the same and few pairs are found. Plain facts of the search for pairs: it finds just the pairs that words lead to, and, sorted, they are a relation that shows that two machines are the same. slices.SortFunc at pairs, of whatever number; Relate. Relate: where it hands back pairs. Relate: where it hands back no pairs. Least. even, and what the closed run of awake comes to. A region that draws its order, told by what each of its operations leaves behind: a fact of each value that stays true whatever the others do. Each operation is walked once, in whatever order they come up. Contracts of the program's functions, with no condition beyond what each theorem states. -/
import Derived.Test.YtmfjadhnbaikkaaC06
import Derived.Deep.RegionHeld3
import Derived.Test.YtmfjadhnbaikkaaC05
import Derived.Test.YtmfjadhnbaikkaaC04
import Derived.Test.YtmfjadhnbaikkaaC03
import Derived.Shelf.SlSortCmp.WholeK
import Derived.Test.YtmfjadhnbaikkaaC02
section
namespace Go.Proofs.Ytmfjadhnbaikkaa
open Go.RowKit
namespace A
/-- The ways into the states are few, and come from states. -/
def waysOk (m : Mac) : Bool := decide ((arrive m).length = m.next.length) && (arrive m).all fun l => decide (l.length ≤ 30000000) && l.all fun a => decide (0 ≤ a.1) && decide (a.1 < (m.next.length : Int))
/-- Whether a found class stands for a state. -/
def endOk (m : Mac) (d : Pd) (c : Int) : Bool := decide (0 ≤ c) && decide (c < (d.beg.length : Int)) && decide (0 ≤ d.beg.getD c.toNat 0) && decide (d.beg.getD c.toNat 0 < (d.row.length : Int)) && decide (0 ≤ d.row.getD (d.beg.getD c.toNat 0).toNat 0) && decide (d.row.getD (d.beg.getD c.toNat 0).toNat 0 < (m.fin.length : Int))
def endOf (m : Mac) (d : Pd) (c : Int) : Bool := m.fin.getD (d.row.getD (d.beg.getD c.toNat 0).toNat 0).toNat false
def startOk (m : Mac) (d : Pd) : Bool := decide (m.start < (d.cls.length : Int)) && decide (-1000000 ≤ d.cls.getD m.start.toNat 0) && decide (d.cls.getD m.start.toNat 0 ≤ 1000000) && decide (d.beg.length ≤ 1000000)
def leastO (f : Nat) (m : Mac) : Option Mac :=
  if waysOk m then match livO (arrive m) f 0 m.fin (trues m.fin m.next.length) with
  | none => none
  | some al => if m.start = -1 then some ⟨m.letters, -1, [], []⟩ else if al.getD m.start.toNat false then match classesO f m (arrive m) al with
    | none => none
    | some d => if startOk m d then match searchO (nxt m d) f (d.cls.getD m.start.toNat 0) (-1) m.letters.toNat d.beg.length with
      | none => none
      | some (ts, rows) => if ts.all (endOk m d) && decide (ts.length ≤ 1000001) then some ⟨m.letters, 0, rows, ts.map (endOf m d)⟩ else none
      else none
    else some ⟨m.letters, -1, [], []⟩
  else none
theorem waysOk.len {m : Mac} (h : waysOk m = true) : (arrive m).length = m.next.length := by
  simp only [waysOk, Bool.and_eq_true, decide_eq_true_eq] at h
  exact h.1
theorem waysOk.short {m : Mac} (h : waysOk m = true) : Short (arrive m) 30000000 := fun i => by
  simp only [waysOk, Bool.and_eq_true, decide_eq_true_eq, List.all_eq_true] at h
  rcases Nat.lt_or_ge i (arrive m).length with hi | hi
  · rw [show (arrive m).getD i [] = (arrive m)[i] by simp [hi]]
    exact (h.2 _ (List.getElem_mem hi)).1
  · rw [show (arrive m).getD i [] = [] by simp [hi]]
    exact Nat.zero_le _
theorem waysOk.from_ {m : Mac} (h : waysOk m = true) : FromIn (arrive m) m.next.length := fun i a ha => by
  simp only [waysOk, Bool.and_eq_true, decide_eq_true_eq, List.all_eq_true] at h
  rcases Nat.lt_or_ge i (arrive m).length with hi | hi
  · rw [show (arrive m).getD i [] = (arrive m)[i] by simp [hi]] at ha
    exact (h.2 _ (List.getElem_mem hi)).2 a ha
  · rw [show (arrive m).getD i [] = [] by simp [hi]] at ha
    cases ha
end A
theorem cell_lt {w : World} {g i : Nat} {v : Value} (h : w.cell? ⟨g, i, none⟩ = some v) : g < w.heap.size := by
  rcases Nat.lt_or_ge g w.heap.size with hl | hl
  · exact hl
  · simp [World.cell?, Array.getElem?_eq_none hl] at h
theorem Rows2.lt {w : World} {P : Nat → Prop} {v : Value} {l : List (List Int)} (h : Rows2 w P v l) : Rows2 w (fun b => P b ∧ b < w.heap.size) v l := by
  obtain ⟨A0, c, e, h⟩ := h
  refine ⟨A0, c, e, fun k hk => ?_⟩
  obtain ⟨g, o, rv, h1, h2, h3, A1, c1, e1, h4⟩ := h k hk
  refine ⟨g, o, rv, h1, ⟨h2, cell_lt h3⟩, h3, A1, c1, e1, fun j hj => ?_⟩
  obtain ⟨g', o', a1, a2, a3⟩ := h4 j hj
  exact ⟨g', o', a1, ⟨a2, cell_lt a3⟩, a3⟩
namespace A
/-- The ends of the first k found classes. -/
def endsTo (m : Mac) (d : Pd) (ts : List Int) (k : Nat) : List Bool := (ts.take k).map (endOf m d) ++ List.replicate (ts.length - k) false
theorem endsTo_len (m : Mac) (d : Pd) (ts : List Int) {k : Nat} (hk : k ≤ ts.length) : (endsTo m d ts k).length = ts.length := by simp [endsTo]; omega
theorem endsTo_zero (m : Mac) (d : Pd) (ts : List Int) : endsTo m d ts 0 = List.replicate ts.length false := by simp [endsTo]
theorem endsTo_all (m : Mac) (d : Pd) (ts : List Int) : endsTo m d ts ts.length = ts.map (endOf m d) := by simp [endsTo]
theorem endsTo_succ (m : Mac) (d : Pd) (ts : List Int) {k : Nat} (hk : k < ts.length) : (endsTo m d ts k).set k (endOf m d (ts.getD k 0)) = endsTo m d ts (k + 1) := by
  unfold endsTo
  rw [List.set_append_right _ _ (by simp; omega), show ts.length - k = (ts.length - (k + 1)) + 1 by omega, List.replicate_succ]
  have e : k - ((ts.take k).map (endOf m d)).length = 0 := by simp; omega
  rw [e, List.set_cons_zero, List.take_add_one, List.map_append]
  simp [hk]
end A
/-- What a round of the ends keeps: all but the ends' row. -/
def Lq (wr w' : World) (eb k : Nat) : Prop := Frm (fun b => b = eb) wr w' ∧ ∃ l : List Bool, k < l.length ∧ Blk w' eb 4 (boolCs l)
theorem Lq.call {wr w1 w2 : World} {eb k : Nat} (h : Lq wr w1 eb k) (F : Frm (fun _ => False) w1 w2) : Lq wr w2 eb k := by
  obtain ⟨h1, l, h2, h3⟩ := h
  exact ⟨h1.trans (F.mono fun _ _ h => h.elim), l, h2, F.blk h3 id⟩
theorem Lq.put {wr w1 : World} {eb k : Nat} (h : Lq wr w1 eb k) (b : Bool) : Lq wr (w1.setCell ⟨eb, k, none⟩ (.bool b)) eb k := by
  obtain ⟨h1, l, h2, h3⟩ := h
  refine ⟨h1.trans ((Frm.refl (fun b => b = eb) w1).set_ (p := ⟨eb, k, none⟩) (fun _ => rfl) _), l.set k b, by simpa using h2, ?_⟩
  rw [← boolCs_set]
  exact h3.set_ k _
theorem Lq.six {wr w1 : World} {eb k g3 i3 g5 i5 g6 i6 : Nat} {v3 v5 v6 : Value} (x3 : wr.cell? ⟨g3, i3, none⟩ = some v3) (n3 : g3 ≠ eb) (x5 : wr.cell? ⟨g5, i5, none⟩ = some v5) (n5 : g5 ≠ eb) (x6 : wr.cell? ⟨g6, i6, none⟩ = some v6) (n6 : g6 ≠ eb) (h : Lq wr w1 eb k) : w1.cell? ⟨g3, i3, none⟩ = some v3 ∧ w1.cell? ⟨g5, i5, none⟩ = some v5 ∧ w1.cell? ⟨g6, i6, none⟩ = some v6 ∧ w1.cell? ⟨eb, k, none⟩ = some (held w1 ⟨eb, k, none⟩) ∧ w1.frozen? ⟨eb, k, none⟩ = false ∧ Lq wr w1 eb k := by
  have h' := h
  obtain ⟨h1, l, h2, h3⟩ := h
  have e : w1.cell? ⟨eb, k, none⟩ = some (.bool (l.getD k false)) := by rw [h3.cell k, boolCs_getD h2]
  exact ⟨h1.cell n3 x3, h1.cell n5 x5, h1.cell n6 x6, by rw [held, e]; rfl, h3.frozen k, h'⟩
def put4 (w : World) (b : Nat) (l s n e : Value) : World := (((w.setCell ⟨b, 0, none⟩ l).setCell ⟨b, 1, none⟩ s).setCell ⟨b, 2, none⟩ n).setCell ⟨b, 3, none⟩ e
theorem put4_blk {w : World} {b : Nat} {t : TypeId} {c0 c1 c2 c3 l s n e : Value} (h : Blk w b t #[c0, c1, c2, c3]) : Blk (put4 w b l s n e) b t #[l, s, n, e] := (((h.set_ 0 l).set_ 1 s).set_ 2 n).set_ 3 e
theorem put4_frm {w w2 : World} {b : Nat} {l s n e : Value} (h : Frm (fun _ => False) w w2) (hb : w.heap.size ≤ b) : Frm (fun _ => False) w (put4 w2 b l s n e) :=
  (((h.set_ (p := ⟨b, 0, none⟩) (fun h => absurd h (by simp; omega)) l).set_ (p := ⟨b, 1, none⟩) (fun h => absurd h (by simp; omega)) s).set_ (p := ⟨b, 2, none⟩) (fun h => absurd h (by simp; omega)) n).set_ (p := ⟨b, 3, none⟩) (fun h => absurd h (by simp; omega)) e
theorem put4_frm1 {w : World} {b : Nat} {l s n e : Value} : Frm (fun x => x = b) w (put4 w b l s n e) :=
  ((((Frm.refl (fun x => x = b) w).set_ (p := ⟨b, 0, none⟩) (fun _ => rfl) l).set_ (p := ⟨b, 1, none⟩) (fun _ => rfl) s).set_ (p := ⟨b, 2, none⟩) (fun _ => rfl) n).set_ (p := ⟨b, 3, none⟩) (fun _ => rfl) e
set_option maxRecDepth 100000 in
set_option maxHeartbeats 16000000 in
theorem least_any {w : World} {P : Nat → Prop} {v : Value} {m m2 : A.Mac} {f : Nat} (h : MachAt w P v m) (hf : A.Fits m) (hn : m.next.length ≤ 100000) (hl3 : m.letters ≤ 300) (hfl : f ≤ 100000) (hr : A.leastO f m = some m2) :
    Calls Try.prog 29 #[v] w fun e w' => ∃ r, e = .returned r ∧ MachAt w' (fun b => w.heap.size ≤ b) r m2 ∧ Frm (fun _ => False) w w' := by
  obtain ⟨A1, c1, A2, c2, rfl⟩ := h.form
  unfold A.leastO at hr
  split at hr
  case isFalse => cases hr
  rename_i hways
  split at hr
  · cases hr
  rename_i al hliv
  have HW := Lib.hid hways
  have HLV := Lib.hid hliv
  have HRS := Lib.hid hr
  have HFI := Lib.hid hf
  have hs1 : -1 ≤ m.start := hf.start.1
  have hs2 : m.start < (m.next.length : Int) := hf.start.2
  have HLT := Lib.hid hf.letters
  have HB0 : Hid (Blk ((w.alloc (.cells #[.int .i64 m.letters, .int .i64 m.start, .slice A1 m.next.length c1, .slice A2 m.fin.length c2] 25)).alloc (.cells #[.int .i64 0, .int .i64 0, .slice none 0 0, .slice none 0 0] 25)) w.heap.size 25 #[.int .i64 m.letters, .int .i64 m.start, .slice A1 m.next.length c1, .slice A2 m.fin.length c2]) := (Blk.new w _ _).alloc _
  have HR0 : Hid (Blk ((w.alloc (.cells #[.int .i64 m.letters, .int .i64 m.start, .slice A1 m.next.length c1, .slice A2 m.fin.length c2] 25)).alloc (.cells #[.int .i64 0, .int .i64 0, .slice none 0 0, .slice none 0 0] 25)) (w.heap.size + 1) 25 #[.int .i64 0, .int .i64 0, .slice none 0 0, .slice none 0 0]) := blk_at (by simp)
  have F0 : Frm (fun _ => False) w ((w.alloc (.cells #[.int .i64 m.letters, .int .i64 m.start, .slice A1 m.next.length c1, .slice A2 m.fin.length c2] 25)).alloc (.cells #[.int .i64 0, .int .i64 0, .slice none 0 0, .slice none 0 0] 25)) := ((Frm.refl _ w).alloc _).alloc _
  have HM := Lib.hid (h.keep0 F0)
  have HF0 := Lib.hid F0
  clear F0 hf h hways hliv hr
  go_enter Try.func29, Try.ntmps29
  go_wp2_with fail
  refine (arrivals_any HM.out HFI.out hn hl3).mono ?_
  rintro _ w1 ⟨ob, rfl, p1, f1⟩
  have HAR := Lib.hid p1
  have HB1 := Lib.hid (f1.blk HB0.out id)
  have HR1 := Lib.hid (f1.blk HR0.out id)
  have HM1 := Lib.hid (HM.out.keep0 f1)
  have HF1 := Lib.hid (HF0.out.trans f1)
  have HS0 : Hid (w.heap.size + 2 ≤ w1.heap.size) := show _ ≤ _ by have := f1.1; simpa using this
  clear p1 f1 HB0 HR0 HM HF0
  have x0 := HB1.out.cell 0
  have x1 := HB1.out.cell 1
  have x2 := HB1.out.cell 2
  have x3 := HB1.out.cell 3
  go_wp2_with fail
  refine (living_any HM1.out HFI.out hn HAR.out (A.waysOk.len HW.out) (A.waysOk.short HW.out) (A.waysOk.from_ HW.out) HLV.out hfl).mono ?_
  rintro _ w2 ⟨ga, rfl, hga, b2, hal, f2⟩
  have HAR2 := Lib.hid (Rws.frm HAR.out f2 fun _ _ _ => id)
  have HAL := Lib.hid b2
  have HALL := Lib.hid hal
  have HB2 := Lib.hid (f2.blk HB1.out id)
  have HR2 := Lib.hid (f2.blk HR1.out id)
  have HM2 := Lib.hid (HM1.out.keep0 f2)
  have HF2 := Lib.hid (HF1.out.trans f2)
  have HS2 : Hid (w.heap.size + 2 ≤ w2.heap.size) := show _ ≤ _ by have := f2.1; have := HS0.out; omega
  clear x0 x1 x2 x3 b2 f2 hga hal HAR HB1 HR1 HM1 HF1 HS0
  have hrs := HRS.out
  have x0 := HB2.out.cell 0
  have x1 := HB2.out.cell 1
  have r0 := HR2.out.cell 0
  have r1 := HR2.out.cell 1
  have r2 := HR2.out.cell 2
  have r3 := HR2.out.cell 3
  have q0 := HR2.out.frozen 0
  have q1 := HR2.out.frozen 1
  have q2 := HR2.out.frozen 2
  have q3 := HR2.out.frozen 3
  by_cases hst : m.start = -1
  · rw [if_pos hst] at hrs
    injection hrs with hrs
    subst hrs
    clear hs1 hs2
    rw [hst] at x1
    go_wp2_with fail
    refine bodyPost_ret (w := put4 w2 (w.heap.size + 1) (.int .i64 m.letters) (.int .i64 (-1)) (.slice none 0 0) (.slice none 0 0)) (v := .agg #[.int .i64 m.letters, .int .i64 (-1), .slice none 0 0, .slice none 0 0]) ?_ rfl ⟨_, rfl, ⟨_, _, rfl, ⟨none, 0, rfl, fun k hk => absurd hk (Nat.not_lt_zero _)⟩, ⟨none, 0, rfl, fun k hk => absurd hk (Nat.not_lt_zero _)⟩⟩, put4_frm HF2.out (by omega)⟩
    have h4 := put4_blk (l := .int .i64 m.letters) (s := .int .i64 (-1)) (n := .slice none 0 0) (e := .slice none 0 0) HR2.out
    generalize put4 w2 (w.heap.size + 1) (.int .i64 m.letters) (.int .i64 (-1)) (.slice none 0 0) (.slice none 0 0) = w4 at *
    have y0 := h4.cell 0
    have y1 := h4.cell 1
    have y2 := h4.cell 2
    have y3 := h4.cell 3
    simp [results, Try.results29, go_sem, y0, y1, y2, y3]
  · rw [if_neg hst] at hrs
    obtain ⟨s, hs⟩ : ∃ s : Nat, m.start = (s : Int) := ⟨m.start.toNat, by omega⟩
    rw [hs, Int.toNat_natCast] at hrs
    rw [hs] at x1 hs2
    have hal := HALL.out
    have z0 := HAL.out.cell s
    rw [boolCs_getD (by omega)] at z0
    clear hs1 hst
    cases hb : al.getD s false with
    | false =>
      rw [hb] at hrs z0
      rw [if_neg (by decide)] at hrs
      injection hrs with hrs
      subst hrs
      clear hal hb
      go_wp2_with fail
      refine bodyPost_ret (w := put4 w2 (w.heap.size + 1) (.int .i64 m.letters) (.int .i64 (-1)) (.slice none 0 0) (.slice none 0 0)) (v := .agg #[.int .i64 m.letters, .int .i64 (-1), .slice none 0 0, .slice none 0 0]) ?_ rfl ⟨_, rfl, ⟨_, _, rfl, ⟨none, 0, rfl, fun k hk => absurd hk (Nat.not_lt_zero _)⟩, ⟨none, 0, rfl, fun k hk => absurd hk (Nat.not_lt_zero _)⟩⟩, put4_frm HF2.out (by omega)⟩
      have h4 := put4_blk (l := .int .i64 m.letters) (s := .int .i64 (-1)) (n := .slice none 0 0) (e := .slice none 0 0) HR2.out
      generalize put4 w2 (w.heap.size + 1) (.int .i64 m.letters) (.int .i64 (-1)) (.slice none 0 0) (.slice none 0 0) = w4 at *
      have y0 := h4.cell 0
      have y1 := h4.cell 1
      have y2 := h4.cell 2
      have y3 := h4.cell 3
      simp [results, Try.results29, go_sem, y0, y1, y2, y3]
    | true =>
      rw [hb] at hrs z0
      rw [if_pos rfl] at hrs
      split at hrs
      · cases hrs
      rename_i d hcls
      split at hrs
      case isFalse => cases hrs
      rename_i hso
      split at hrs
      · cases hrs
      rename_i ts rows hsr
      split at hrs
      case isFalse => cases hrs
      rename_i hends
      simp only [Bool.and_eq_true, decide_eq_true_eq] at hends
      obtain ⟨hends, htl⟩ := hends
      injection hrs with hrs
      subst hrs
      have HCLS := Lib.hid hcls
      have HSO := Lib.hid hso
      have HSR := Lib.hid hsr
      have HEN := Lib.hid hends
      have HTL := Lib.hid htl
      clear htl
      have HHS := Lib.hid hs
      have x2 := HB2.out.cell 2
      have x3 := HB2.out.cell 3
      clear hcls hso hsr hends hal hb
      go_wp2_with fail
      have hcl := classes_any HM2.out HFI.out hn hl3 HAR2.out (A.waysOk.len HW.out) HAL.out HALL.out HCLS.out
      rw [HHS.out] at hcl
      refine hcl.mono ?_
      clear hcl
      rintro _ w3 ⟨pb, rfl, p3, f3⟩
      have HP3 := Lib.hid p3
      have HB3 := Lib.hid (f3.blk HB2.out id)
      have HR3 := Lib.hid (f3.blk HR2.out id)
      have HM3 := Lib.hid (HM2.out.keep0 f3)
      have HF3 := Lib.hid (HF2.out.trans f3)
      have HS3 : Hid (w2.heap.size ≤ w3.heap.size) := f3.1
      clear x0 x1 x2 x3 r0 r1 r2 r3 q0 q1 q2 q3 z0 p3 f3 HAR2 HAL HALL HB2 HR2 HM2 HF2
      go_wp2_with fail
      obtain ⟨cb, hcb⟩ : ∃ cb, cb = w3.heap.size := ⟨_, rfl⟩
      obtain ⟨L, hL⟩ : ∃ L : Nat, m.letters = (L : Int) := ⟨m.letters.toNat, by have := HLT.out; omega⟩
      obtain ⟨wb, hwb⟩ : ∃ wb, wb = w3.alloc (.cells #[.pointer (some ⟨pb, 0, none⟩)] 84) := ⟨_, rfl⟩
      have Fb : Frm (fun _ => False) w3 wb := by rw [hwb]; exact (Frm.refl _ w3).alloc _
      have k5 : wb.cell? ⟨cb, 0, none⟩ = some (.pointer (some ⟨pb, 0, none⟩)) := by rw [hwb, hcb]; exact (Blk.new w3 _ _).cell 0
      have HB4 := Lib.hid (Fb.blk HB3.out id)
      have HR4 := Lib.hid (Fb.blk HR3.out id)
      have HM4 := Lib.hid (HM3.out.keep0 Fb)
      have HP4 := Lib.hid (HP3.out.frm Fb fun _ _ _ => id)
      have HF4 := Lib.hid (HF3.out.trans Fb)
      have HS4 : Hid (w.heap.size + 2 ≤ wb.heap.size) := show _ ≤ _ by have := Fb.1; have := HS3.out; have := HS2.out; omega
      have x0 := HB4.out.cell 0
      have x1 := HB4.out.cell 1
      rw [show (#[Value.int .i64 m.letters, .int .i64 m.start, .slice A1 m.next.length c1, .slice A2 m.fin.length c2] : Array Value)[0]? = some (.int .i64 m.letters) from rfl, hL] at x0
      rw [show (#[Value.int .i64 m.letters, .int .i64 m.start, .slice A1 m.next.length c1, .slice A2 m.fin.length c2] : Array Value)[1]? = some (.int .i64 m.start) from rfl, HHS.out] at x1
      have hso := HSO.out
      simp only [A.startOk, Bool.and_eq_true, decide_eq_true_eq, HHS.out, Int.toNat_natCast] at hso
      obtain ⟨⟨⟨so1, so2⟩, so3⟩, so4⟩ := hso
      obtain ⟨vf, hv⟩ := HP4.out
      obtain ⟨g2, z2, e2, k2, _, l2, _⟩ := hv.at_ (i := 2) (j := s) (by decide) (show s < d.cls.length by omega)
      obtain ⟨A3, z3, e3, k3, _⟩ := hv.slot (i := 3) (by decide)
      rw [show (d.f 3).length = d.beg.length from rfl] at k3
      rw [show (d.f 2).length = d.cls.length from rfl] at k2
      rw [show (d.f 2).getD s 0 = d.cls.getD s 0 from rfl] at l2
      have HNX : Hid (∀ W', Frm (fun _ => False) wb W' → ∀ (x k y : Int) (W : World), A.nxt m d x k = some y → Frm (fun _ => False) W' W → okI y ∧ Calls Try.prog 43 #[.int .i64 x, .int .i64 k, .pointer (some ⟨w.heap.size, 0, none⟩), .pointer (some ⟨cb, 0, none⟩)] W fun e w' => e = .returned (.int .i64 y) ∧ Frm (fun _ => False) W w') := fun W' hW' x k y W hy hW => by
        have hF := hW'.trans hW
        obtain ⟨h1, h2⟩ := least1_q (HM4.out.keep0 hF) (hF.blk HB4.out id) (hF.cell id k5) (HP4.out.frm hF fun _ _ _ => id) hy
        exact ⟨h1, h2.mono fun e w' ⟨a, n, b⟩ => ⟨a, by rw [b]; exact (Frm.refl _ W).drewN n⟩⟩
      have HOK1 : Hid (okI (d.cls.getD s 0)) := okI_small so2 so3
      have HOK2 : Hid (okI (-1)) := okI_small (by decide) (by decide)
      have HSR2 : Hid (A.searchO (A.nxt m d) f (d.cls.getD s 0) (-1) L d.beg.length = some (ts, rows)) := by
        have := HSR.out
        rw [hL, Int.toNat_natCast] at this
        exact this
      have so1' : (s : Int) < (d.cls.length : Int) := by have := so1; omega
      have HL := Lib.hid hL
      have HSO4 : Hid (d.beg.length ≤ 1000000) := so4
      have HLL : Hid (L ≤ 300) := show _ ≤ _ by omega
      rw [← hcb, ← hwb]
      clear so1 so2 so3 so4 hv e2 e3 hwb Fb HB3 HR3 HM3 HP3 HF3 HS3 hL hcb HSR
      generalize d.cls.getD s 0 = st at *
      go_region_held3 (fun w' => w'.cell? ⟨w.heap.size, 0, none⟩ = some (.int .i64 (L : Int)) ∧ w'.cell? ⟨w.heap.size, 1, none⟩ = some (.int .i64 (s : Int)) ∧ w'.cell? ⟨cb, 0, none⟩ = some (.pointer (some ⟨pb, 0, none⟩)) ∧ w'.cell? ⟨pb, 2, none⟩ = some (.slice (some ⟨g2, 0, none⟩) d.cls.length z2) ∧ w'.cell? ⟨pb, 3, none⟩ = some (.slice A3 d.beg.length z3) ∧ w'.cell? ⟨g2, s, none⟩ = some (.int .i64 st) ∧ Frm (fun _ => False) wb w')
        (first | exact ⟨x0, x1, k5, k2, k3, l2, Frm.refl _ _⟩ | exact ⟨x0, x1, k5, k2, k3, l2, (Frm.refl _ _).drew⟩ | (go_split_ands; exact ⟨Frm.cell (by assumption) id (by assumption), Frm.cell (by assumption) id (by assumption), Frm.cell (by assumption) id (by assumption), Frm.cell (by assumption) id (by assumption), Frm.cell (by assumption) id (by assumption), Frm.cell (by assumption) id (by assumption), Frm.trans (by assumption) (by assumption)⟩))
        (first | (go_at_call 42; obtain ⟨-, -, -, -, -, -, hFx⟩ := ‹_ ∧ _ ∧ _ ∧ _ ∧ _ ∧ _ ∧ Frm (fun _ => False) wb _›; refine (searchI_any (HNX.out _ hFx) HOK1.out HOK2.out HLL.out (by omega) (by have := HSO4.out; omega) HSR2.out).mono ?_; clear hFx; rintro e w5 ⟨uT, uR, rfl, o5, r5, f5⟩))
      have F5 : Frm (fun _ => False) wb w5 := f5
      have HB5 := Lib.hid (F5.blk HB4.out id)
      have HR5 := Lib.hid (F5.blk HR4.out id)
      have HM5 := Lib.hid (HM4.out.keep0 F5)
      have HP5 := Lib.hid (HP4.out.frm F5 fun _ _ _ => id)
      have HF5 := Lib.hid (HF4.out.trans F5)
      have HS5 : Hid (w.heap.size + 2 ≤ w5.heap.size) := show _ ≤ _ by have := F5.1; have := HS4.out; omega
      have HK5 : Hid (w5.cell? ⟨cb, 0, none⟩ = some (.pointer (some ⟨pb, 0, none⟩))) := F5.cell id k5
      have HO5 : Hid (OwnInts w5 wb.heap.size uT ts) := o5
      have HRO5 : Hid (Rows2 w5 (fun b => wb.heap.size ≤ b ∧ b < w5.heap.size) uR rows) := r5.lt
      obtain ⟨AT, cT, rfl⟩ := own_form HO5.out
      clear x0 x1 k5 k2 k3 l2 o5 r5 f5 F5 HB4 HR4 HM4 HP4 HF4 HNX HOK1 HOK2 HSR2
      clear ‹_ ∧ _ ∧ _ ∧ _ ∧ _ ∧ _ ∧ Frm (fun _ => False) wb _›
      have htl := HTL.out
      have hmk := run_make_row' (P := Try.prog) 23 4 (.bool false) 1 Try.underlying23 info_bool rfl .i64 .i64 ts.length (by omega) (by omega)
      clear htl
      go_wp2_with fail
      obtain ⟨eb, heb⟩ : ∃ eb, eb = w5.heap.size := ⟨_, rfl⟩
      obtain ⟨w6, hw6⟩ : ∃ w6, w6 = w5.alloc (.cells (madeCells #[.bool false] ts.length) 4) := ⟨_, rfl⟩
      have F6 : Frm (fun b => b = eb) w5 w6 := by rw [hw6]; exact (Frm.refl _ w5).alloc _
      have HEB0 : Hid (Blk w6 eb 4 (boolCs (A.endsTo m d ts 0))) := by
        rw [hw6, heb, A.endsTo_zero, ← boolCs_made]; exact Blk.new w5 _ _
      have HF6 : Hid (Frm (fun b => b = eb) w5 w6) := F6
      have HEB : Hid (eb = w5.heap.size) := heb
      rw [← heb, ← hw6]
      clear heb hw6 F6 hmk
      go_loopg [61] (ts.length + 1) (fun n i wr => ∃ k : Nat, k ≤ ts.length ∧ n = ts.length + 1 - k ∧ i = .int .i64 (k : Int) ∧ Hid (Blk wr eb 4 (boolCs (A.endsTo m d ts k))) ∧ Hid (Frm (fun b => b = eb) w5 wr))
      case atStart => exact ⟨0, Nat.zero_le _, rfl, rfl, HEB0, HF6⟩
      case round =>
        clear HEB0 HF6
        obtain ⟨k, hk, rfl, rfl, HE, HF⟩ := hrel
        by_cases hlt : k < ts.length
        · have hlt' : (k : Int) < (ts.length : Int) := by omega
          obtain ⟨g7, rfl, hg7, l7⟩ := OwnInts.at_ (HO5.out) hlt
          have hg7' : g7 ≠ eb := by have := cell_lt l7; have := HEB.out; omega
          have l8 := HF.out.cell hg7' l7
          have hen := List.all_eq_true.1 HEN.out (ts.getD k 0) (by simp [List.getD, hlt])
          have HSET := Lib.hid (A.endsTo_succ m d ts hlt)
          simp only [A.endOk, Bool.and_eq_true, decide_eq_true_eq] at hen
          obtain ⟨⟨⟨⟨⟨n1, n2⟩, n3⟩, n4⟩, n5⟩, n6⟩ := hen
          unfold A.endOf at HSET
          generalize ts.getD k 0 = c0 at *
          obtain ⟨c, rfl⟩ : ∃ q : Nat, c0 = (q : Int) := ⟨c0.toNat, by omega⟩
          rw [Int.toNat_natCast] at n3 n4 n5 n6 HSET
          obtain ⟨b, hb⟩ : ∃ q : Nat, d.beg.getD c 0 = (q : Int) := ⟨(d.beg.getD c 0).toNat, by omega⟩
          rw [hb, Int.toNat_natCast] at n5 n6 HSET
          rw [hb] at n4
          obtain ⟨sk, hsk⟩ : ∃ q : Nat, d.row.getD b 0 = (q : Int) := ⟨(d.row.getD b 0).toNat, by omega⟩
          rw [hsk, Int.toNat_natCast] at HSET
          rw [hsk] at n6
          have hskl : sk < m.fin.length := by omega
          obtain ⟨g6, o6, rfl, l6⟩ := HM5.out.fin_at hskl
          have hg6 : g6 ≠ eb := by have := cell_lt l6; have := HEB.out; omega
          have l6' := HF.out.cell hg6 l6
          rw [show m.fin.getD sk false = m.fin[sk] by simp [hskl]] at HSET
          generalize m.fin[sk] = bo at *
          have hbx : w.heap.size ≠ eb := by have := HEB.out; have := HS5.out; omega
          have x3 := HF.out.cell hbx (HB5.out.cell 3)
          have hcb : cb ≠ eb := by have := cell_lt HK5.out; have := HEB.out; omega
          have k5 := HF.out.cell hcb HK5.out
          have HPW : Hid (Pt wr (fun b => w2.heap.size ≤ b ∧ b < w5.heap.size) pb d) := (HP5.out.mono fun b hb hs => ⟨hs, hb⟩).frm HF.out fun b _ h e => by have := HEB.out; omega
          have HONE : Hid (∀ W, Frm (fun b => b = eb) wr W → Calls Try.prog 44 #[.pointer (some ⟨pb, 0, none⟩), .int .i64 (c : Int)] W fun e w' => e = .returned (.int .i64 (sk : Int)) ∧ Frm (fun _ => False) W w') := fun W hW => by
            have := one_any (HPW.out.frm hW fun b _ h e => by have := HEB.out; omega) (k := c) (b := b) (by omega) hb (by omega)
            rw [hsk] at this
            exact this
          have hsk' : (sk : Int) < (m.fin.length : Int) := by omega
          have hel := A.endsTo_len m d ts hk
          have e1 := HE.out.cell k
          rw [boolCs_getD (by omega)] at e1
          have e2 := HE.out.frozen k
          have x3' : wr.cell? ⟨w.heap.size, 3, none⟩ = some (.slice (some ⟨g6, o6, none⟩) m.fin.length c2) := x3
          have HLX : Hid (∀ w', Lq wr w' eb k → _) := fun w' h => Lq.six x3' hbx k5 hcb l6' hg6 h
          have l0 : Lq wr wr eb k := ⟨Frm.refl _ _, _, by omega, HE.out⟩
          have HKL : Hid (k < (A.endsTo m d ts k).length) := show _ < _ by omega
          clear n1 n2 n3 n4 n5 n6 hb hsk l6 l7 hg7 hg7' hg6 hbx hcb hskl hel e1 e2 x3
          go_wp2_with fail
          go_region_held3 (fun w' => w'.cell? ⟨w.heap.size, 3, none⟩ = some (.slice (some ⟨g6, o6, none⟩) m.fin.length c2) ∧ w'.cell? ⟨cb, 0, none⟩ = some (.pointer (some ⟨pb, 0, none⟩)) ∧ w'.cell? ⟨g6, o6 + sk, none⟩ = some (.bool bo) ∧ w'.cell? ⟨eb, k, none⟩ = some (held w' ⟨eb, k, none⟩) ∧ w'.frozen? ⟨eb, k, none⟩ = false ∧ Lq wr w' eb k)
            (first | exact HLX.out _ l0 | exact HLX.out _ (l0.call (Frm.refl _ _).drew) | exact HLX.out _ (by assumption) | exact HLX.out _ (Lq.put (by assumption) _))
            (first | (go_at_call 44; obtain ⟨-, -, -, -, -, hLx⟩ := ‹_ ∧ _ ∧ _ ∧ _ ∧ _ ∧ Lq wr _ eb k›; refine (HONE.out _ hLx.1).mono ?_; rintro e w7 ⟨rfl, f7⟩; have hL7 := hLx.call f7))
          have HE7 : Hid (Blk (w7.setCell ⟨eb, k, none⟩ (.bool bo)) eb 4 (boolCs (A.endsTo m d ts (k + 1)))) := show Blk _ _ _ _ by
            have h7 : Blk w7 eb 4 (boolCs (A.endsTo m d ts k)) := Frm.blk f7 HE.out.drew id
            have := h7.set_ k (.bool bo)
            rw [boolCs_set, HSET.out] at this
            exact this
          have HF7 : Hid (Frm (fun b => b = eb) w5 (w7.setCell ⟨eb, k, none⟩ (.bool bo))) := (HF.out.trans (f7.mono fun _ _ h => h.elim)).set_ (p := ⟨eb, k, none⟩) (fun _ => rfl) _
          have hkb : (k : Int) + 1 ≤ 1000001 := by have := HTL.out; omega
          clear l0 hLx hL7 f7 HLX x3' k5 l6' l8
          clear ‹_ ∧ _ ∧ _ ∧ _ ∧ _ ∧ Lq wr _ eb k›
          go_wp2_with fail
          go_roundg (ts.length + 1 - (k + 1))
          case measure => omega
          case rel => exact ⟨k + 1, by omega, rfl, (by have := HTL.out; go_num), HE7, HF7⟩
        · have hkk : k = ts.length := by omega
          subst hkk
          have hlt' : ¬ (ts.length : Int) < (ts.length : Int) := by omega
          have hbx : w.heap.size ≠ eb := by have := HEB.out; have := HS5.out; omega
          have hrx : w.heap.size + 1 ≠ eb := by have := HEB.out; have := HS5.out; omega
          have x0 := HF.out.cell hbx (HB5.out.cell 0)
          have x0' : wr.cell? ⟨w.heap.size, 0, none⟩ = some (.int .i64 m.letters) := x0
          have HRX := Lib.hid (HF.out.blk HR5.out hrx)
          have r0 := HRX.out.cell 0
          have r1 := HRX.out.cell 1
          have r2 := HRX.out.cell 2
          have r3 := HRX.out.cell 3
          have q0 := HRX.out.frozen 0
          have q1 := HRX.out.frozen 1
          have q2 := HRX.out.frozen 2
          have q3 := HRX.out.frozen 3
          have HEE : Hid (Blk wr eb 4 (boolCs (ts.map (A.endOf m d)))) := show Blk _ _ _ _ by rw [← A.endsTo_all]; exact HE.out
          obtain ⟨AR, cR, rfl, hRR⟩ := HRO5.out
          have HRR := Lib.hid hRR
          clear x0 hlt hk HE hRR
          go_wp2_with fail
          have h4 := put4_blk (l := .int .i64 m.letters) (s := .int .i64 0) (n := .slice AR rows.length cR) (e := .slice (some ⟨eb, 0, none⟩) ts.length ts.length) HRX.out
          have h5 := put4_frm1 (w := wr) (b := w.heap.size + 1) (l := .int .i64 m.letters) (s := .int .i64 0) (n := .slice AR rows.length cR) (e := .slice (some ⟨eb, 0, none⟩) ts.length ts.length)
          refine bodyPost_ret (w := put4 wr (w.heap.size + 1) (.int .i64 m.letters) (.int .i64 0) (.slice AR rows.length cR) (.slice (some ⟨eb, 0, none⟩) ts.length ts.length)) (v := .agg #[.int .i64 m.letters, .int .i64 0, .slice AR rows.length cR, .slice (some ⟨eb, 0, none⟩) ts.length ts.length]) ?_ rfl ⟨_, rfl, ⟨_, _, rfl, ?_, ?_⟩, ?_⟩
          · generalize put4 wr (w.heap.size + 1) (.int .i64 m.letters) (.int .i64 0) (.slice AR rows.length cR) (.slice (some ⟨eb, 0, none⟩) ts.length ts.length) = w4 at *
            have y0 := h4.cell 0
            have y1 := h4.cell 1
            have y2 := h4.cell 2
            have y3 := h4.cell 3
            simp [results, Try.results29, go_sem, y0, y1, y2, y3]
          · have hk := (HRO5.out.keep HF.out fun b hb e => by have := HEB.out; omega).keep h5 fun b hb e => by have := HS4.out; omega
            obtain ⟨A9, c9, e9, h9⟩ := hk
            refine ⟨A9, c9, e9, fun k hk => ?_⟩
            obtain ⟨g, o, rv, a1, a2, a3, A8, c8, e8, h8⟩ := h9 k hk
            refine ⟨g, o, rv, a1, (by have := a2.1; have := HS4.out; omega), a3, A8, c8, e8, fun j hj => ?_⟩
            obtain ⟨g', o', b1, b2, b3⟩ := h8 j hj
            exact ⟨g', o', b1, (by have := b2.1; have := HS4.out; omega), b3⟩
          · have hb := h5.blk HEE.out (Ne.symm hrx)
            refine ⟨some ⟨eb, 0, none⟩, ts.length, by simp, fun k hk => ⟨eb, 0, rfl, (by have := HEB.out; have := HS5.out; omega), ?_⟩⟩
            rw [Nat.zero_add, hb.cell k, boolCs_getD hk]
            have hk2 : k < (ts.map (A.endOf m d)).length := hk
            congr 2
            show (ts.map (A.endOf m d)).getD k false = (ts.map (A.endOf m d))[k]
            generalize ts.map (A.endOf m d) = l at *
            simp [hk2]
          · have := (HF5.out.mono (E' := fun b => b = eb) fun _ _ h => h.elim).trans HF.out
            refine put4_frm (this.mono fun b hb e => ?_) (by omega)
            have := HEB.out
            have := HS5.out
            omega
end Go.Proofs.Ytmfjadhnbaikkaa
end
section
namespace Go.Proofs.Ytmfjadhnbaikkaa
open Go.RowKit
namespace A
/-- What a letter leads a pair to; none where it isn't one of the machines'. -/
def nxtP (a b : Mac) (p : Pr) (k : Int) : Option Pr := if -1 ≤ p.1 ∧ p.1 < a.next.length ∧ -1 ≤ p.2 ∧ p.2 < b.next.length ∧ 0 ≤ k ∧ k < a.letters then some (leadP a b p k) else none
end A
theorem okP_small {p : A.Pr} (h : BPr p) : okP p := ⟨okI_small (by have := h.1; omega) (by have := h.2.1; omega), okI_small (by have := h.2.2.1; omega) (by have := h.2.2.2; omega)⟩
theorem BPr.of_in {a b : A.Mac} {p : A.Pr} (ht : A.Two a b) (h : A.InP a b p) : BPr p := by
  obtain ⟨⟨h1, h2⟩, h3, h4⟩ := h
  have := ht.na
  have := ht.nb
  exact ⟨h1, by omega, h3, by omega⟩
theorem leadP_in {a b : A.Mac} {p : A.Pr} {k : Int} (ht : A.Two a b) (h : A.InP a b p) (h0 : 0 ≤ k) (hk : k < a.letters) : A.InP a b (A.leadP a b p k) := ⟨ht.fa.lead h.1 h0 hk, ht.fb.lead h.2 h0 (by have := ht.ll; omega)⟩
theorem own_base_ {w : World} {base base' n : Nat} {e : TypeId} {sz : Nat} {v : Value} {xs : List Value} (h : w.ownsRow base e sz v n xs) (hb : base' ≤ base) : w.ownsRow base' e sz v n xs := by
  refine ⟨h.1, ?_⟩
  rcases h.2 with h2 | ⟨g, cap, cur, e, h3, h4⟩
  · exact .inl h2
  · exact .inr ⟨g, cap, cur, e, Nat.le_trans hb h3, h4⟩
theorem own_some {w : World} {base n : Nat} {e : TypeId} {sz : Nat} {v : Value} {xs : List Value} (h : w.ownsRow base e sz v n xs) (hn : 0 < n) : ∃ g cap, v = .slice (some ⟨g, 0, none⟩) n cap ∧ base ≤ g := by
  rcases h.2 with ⟨_, h0⟩ | ⟨g, cap, cur, e, h3, h4⟩
  · omega
  · exact ⟨g, cap, e, h3⟩
set_option maxRecDepth 100000 in
set_option maxHeartbeats 8000000 in
theorem relate_yes {w : World} {P Q : Nat → Prop} {v v' : Value} {a b : A.Mac} {f : Nat} {zs : List DP} {rows : List (List Int)} (h : MachAt w P v a) (h' : MachAt w Q v' b) (hs : Sized a) (hs' : Sized b) (hfit : A.fit a b = 0) (ht : A.Two a b) (he : A.diffO f a b = some none) (hf : f ≤ 100000) (hst : a.start ≠ -1) (hsr : A.searchO (A.nxtP a b) f (a.start, b.start) (-1, -1) a.letters.toNat 20000 = some (zs.map (·.1), rows)) (hz : zs.length ≤ 4) (hz0 : 0 < zs.length) :
    Calls Try.prog 7 #[v, v'] w fun e w' => ∃ u, ∃ zs' : List DP, e = .returned (.tuple #[u, .int .i64 0]) ∧ zs'.Perm zs ∧ zs'.Pairwise (fun x y => ltOf cfP y x = false) ∧ w'.ownsRow w.heap.size 47 2 u zs.length (zs'.flatMap encP) ∧ Frm (fun _ => False) w w' := by
  obtain ⟨A1, c1, A2, c2, rfl⟩ := h.form
  obtain ⟨B1, d1, B2, d2, rfl⟩ := h'.form
  have HB0 : Hid (Bx w _ (macC a A1 c1 A2 c2) (macC b B1 d1 B2 d2)) := Bx.new w _ _
  have HM := Lib.hid h
  have HM' := Lib.hid h'
  have HSZ := Lib.hid hs
  have HSZ' := Lib.hid hs'
  have HE := Lib.hid he
  have HT := Lib.hid ht
  have HFIT := Lib.hid hfit
  have HST := Lib.hid hst
  have HSR := Lib.hid hsr
  have HZ := Lib.hid hz
  have HZ0 := Lib.hid hz0
  have e0 := HB0.out.ba.cell 0
  have e1 := HB0.out.ba.cell 1
  have e2 := HB0.out.ba.cell 2
  have e3 := HB0.out.ba.cell 3
  have g0 := HB0.out.bb.cell 0
  have g1 := HB0.out.bb.cell 1
  have g2 := HB0.out.bb.cell 2
  have g3 := HB0.out.bb.cell 3
  simp only [macC] at e0 e1 e2 e3 g0 g1 g2 g3
  clear h h' hs hs' he ht hfit hst hsr hz hz0
  go_enter Try.func7, Try.ntmps7
  go_wp2_with fail
  refine (fit_any (HM.out.keep0 HB0.out.fr) (HM'.out.keep0 HB0.out.fr) HSZ.out HSZ'.out).mono ?_
  rintro _ w1 ⟨rfl, f1⟩
  have HB1 := Lib.hid (HB0.out.call f1)
  rw [HFIT.out]
  clear e0 e1 e2 e3 g0 g1 g2 g3 f1 HB0
  have e0 := HB1.out.ba.cell 0
  have e1 := HB1.out.ba.cell 1
  have e2 := HB1.out.ba.cell 2
  have e3 := HB1.out.ba.cell 3
  have g0 := HB1.out.bb.cell 0
  have g1 := HB1.out.bb.cell 1
  have g2 := HB1.out.bb.cell 2
  have g3 := HB1.out.bb.cell 3
  simp only [macC] at e0 e1 e2 e3 g0 g1 g2 g3
  go_wp2_with fail
  refine (diff_any (HM.out.keep0 HB1.out.fr) (HM'.out.keep0 HB1.out.fr) HT.out HE.out hf).mono ?_
  rintro _ w2 ⟨rfl, f2⟩
  have HB2 := Lib.hid (HB1.out.call f2)
  clear e0 e1 e2 e3 g0 g1 g2 g3 f2 HB1
  have HB3 := Lib.hid (HB2.out.call ((Frm.refl _ w2).alloc (.cells #[.int .i64 0, .int .i64 0] 47)))
  have e0 := HB3.out.ba.cell 0
  have e1 := HB3.out.ba.cell 1
  have e2 := HB3.out.ba.cell 2
  have e3 := HB3.out.ba.cell 3
  have g0 := HB3.out.bb.cell 0
  have g1 := HB3.out.bb.cell 1
  have g2 := HB3.out.bb.cell 2
  have g3 := HB3.out.bb.cell 3
  simp only [macC] at e0 e1 e2 e3 g0 g1 g2 g3
  simp only [pairV]
  go_wp2_with fail
  refine (starts_any (HM.out.keep0 HB3.out.fr) (HM'.out.keep0 HB3.out.fr)).mono ?_
  rintro _ w3 ⟨rfl, f3⟩
  have HB4 := Lib.hid (HB3.out.call f3)
  clear e0 e1 e2 e3 g0 g1 g2 g3 f3 HB2 HB3
  simp only [pairV]
  go_wp2_with fail
  refine (nowhere_any w3).mono ?_
  rintro _ w4 ⟨rfl, f4⟩
  have HB5 := Lib.hid (HB4.out.call f4)
  clear f4 HB4
  have e0 := HB5.out.ba.cell 0
  have e1 := HB5.out.ba.cell 1
  have e2 := HB5.out.ba.cell 2
  have e3 := HB5.out.ba.cell 3
  have g0 := HB5.out.bb.cell 0
  have g1 := HB5.out.bb.cell 1
  have g2 := HB5.out.bb.cell 2
  have g3 := HB5.out.bb.cell 3
  simp only [macC] at e0 e1 e2 e3 g0 g1 g2 g3
  have hne : ¬ a.start = -1 := HST.out
  simp only [pairV]
  go_wp2_with fail
  clear hne
  obtain ⟨L, hL⟩ : ∃ L : Nat, a.letters = (L : Int) := ⟨a.letters.toNat, by have := HT.out.fa.letters; omega⟩
  have HL := Lib.hid hL
  have HINS : Hid (A.InP a b (a.start, b.start)) := ⟨HT.out.fa.start, HT.out.fb.start⟩
  have HOK1 : Hid (okP (a.start, b.start)) := okP_small (BPr.of_in HT.out HINS.out)
  have HOK2 : Hid (okP (-1, -1)) := okP_small (by unfold BPr; decide)
  have HSR2 : Hid (A.searchO (A.nxtP a b) f (a.start, b.start) (-1, -1) L 20000 = some (zs.map (·.1), rows)) := by
    have := HSR.out
    rw [hL, Int.toNat_natCast] at this
    exact this
  have HLL : Hid (L ≤ 300) := show _ ≤ _ by have := HT.out.la; omega
  have HNX : Hid (∀ W', Frm (fun _ => False) w4 W' → ∀ (x : A.Pr) (k : Int) (y : A.Pr) (W : World), A.nxtP a b x k = some y → Frm (fun _ => False) W' W → okP y ∧ Calls Try.prog 20 #[pairV x, .int .i64 k, .pointer (some ⟨w.heap.size, 0, none⟩), .pointer (some ⟨w.heap.size + 1, 0, none⟩)] W fun e w' => e = .returned (pairV y) ∧ Frm (fun _ => False) W w') := fun W' hW' x k y W hy hW => by
    have hF := hW'.trans hW
    have hB := HB5.out.call hF
    unfold A.nxtP at hy
    split at hy
    case isFalse => cases hy
    rename_i hin
    injection hy with hy
    subst hy
    have hI : A.InP a b x := ⟨⟨hin.1, hin.2.1⟩, hin.2.2.1, hin.2.2.2.1⟩
    exact ⟨okP_small (BPr.of_in HT.out (leadP_in HT.out hI hin.2.2.2.2.1 hin.2.2.2.2.2)), relate1_any hB.ba hB.bb (HM.out.keep0 hB.fr) (HM'.out.keep0 hB.fr) HT.out x k hI hin.2.2.2.2.1 hin.2.2.2.2.2⟩
  have e0' : w4.cell? ⟨w.heap.size, 0, none⟩ = some (.int .i64 (L : Int)) := by rw [e0, ← hL]; rfl
  have e1' : w4.cell? ⟨w.heap.size, 1, none⟩ = some (.int .i64 a.start) := e1
  have e2' : w4.cell? ⟨w.heap.size, 2, none⟩ = some (.slice A1 a.next.length c1) := e2
  have e3' : w4.cell? ⟨w.heap.size, 3, none⟩ = some (.slice A2 a.fin.length c2) := e3
  have g0' : w4.cell? ⟨w.heap.size + 1, 0, none⟩ = some (.int .i64 b.letters) := g0
  have g1' : w4.cell? ⟨w.heap.size + 1, 1, none⟩ = some (.int .i64 b.start) := g1
  have g2' : w4.cell? ⟨w.heap.size + 1, 2, none⟩ = some (.slice B1 b.next.length d1) := g2
  have g3' : w4.cell? ⟨w.heap.size + 1, 3, none⟩ = some (.slice B2 b.fin.length d2) := g3
  have HSTA : Hid (∀ W, Frm (fun _ => False) w4 W → Calls Try.prog 17 #[.agg #[.int .i64 (L : Int), .int .i64 a.start, .slice A1 a.next.length c1, .slice A2 a.fin.length c2], .agg #[.int .i64 b.letters, .int .i64 b.start, .slice B1 b.next.length d1, .slice B2 b.fin.length d2]] W fun e w' => e = .returned (pairV (a.start, b.start)) ∧ Frm (fun _ => False) W w') := fun W hW => by
    rw [← hL]
    exact starts_any (HM.out.keep0 (HB5.out.fr.trans hW)) (HM'.out.keep0 (HB5.out.fr.trans hW))
  have HKK : Hid (∀ W, Frm (fun _ => False) w4 W → _) := fun W hW => (⟨hW.cell id e0', hW.cell id e1', hW.cell id e2', hW.cell id e3', hW.cell id g0', hW.cell id g1', hW.cell id g2', hW.cell id g3', hW⟩ : W.cell? ⟨w.heap.size, 0, none⟩ = some (.int .i64 (L : Int)) ∧ W.cell? ⟨w.heap.size, 1, none⟩ = some (.int .i64 a.start) ∧ W.cell? ⟨w.heap.size, 2, none⟩ = some (.slice A1 a.next.length c1) ∧ W.cell? ⟨w.heap.size, 3, none⟩ = some (.slice A2 a.fin.length c2) ∧ W.cell? ⟨w.heap.size + 1, 0, none⟩ = some (.int .i64 b.letters) ∧ W.cell? ⟨w.heap.size + 1, 1, none⟩ = some (.int .i64 b.start) ∧ W.cell? ⟨w.heap.size + 1, 2, none⟩ = some (.slice B1 b.next.length d1) ∧ W.cell? ⟨w.heap.size + 1, 3, none⟩ = some (.slice B2 b.fin.length d2) ∧ Frm (fun _ => False) w4 W)
  clear e0 e1 e2 e3 g0 g1 g2 g3 hL
  go_region_held3 (fun w' => w'.cell? ⟨w.heap.size, 0, none⟩ = some (.int .i64 (L : Int)) ∧ w'.cell? ⟨w.heap.size, 1, none⟩ = some (.int .i64 a.start) ∧ w'.cell? ⟨w.heap.size, 2, none⟩ = some (.slice A1 a.next.length c1) ∧ w'.cell? ⟨w.heap.size, 3, none⟩ = some (.slice A2 a.fin.length c2) ∧ w'.cell? ⟨w.heap.size + 1, 0, none⟩ = some (.int .i64 b.letters) ∧ w'.cell? ⟨w.heap.size + 1, 1, none⟩ = some (.int .i64 b.start) ∧ w'.cell? ⟨w.heap.size + 1, 2, none⟩ = some (.slice B1 b.next.length d1) ∧ w'.cell? ⟨w.heap.size + 1, 3, none⟩ = some (.slice B2 b.fin.length d2) ∧ Frm (fun _ => False) w4 w')
    (first | exact HKK.out _ (Frm.refl _ _) | exact HKK.out _ (Frm.refl _ _).drew | exact HKK.out _ (Frm.trans (E := fun _ => False) (w := w4) (Frm.trans (E := fun _ => False) (w := w4) f5 f6) f7) | exact HKK.out _ (Frm.trans (E := fun _ => False) (w := w4) f5 f6) | exact HKK.out _ f5)
    (first | (go_at_call 17; obtain ⟨-, -, -, -, -, -, -, -, hFx⟩ := ‹_ ∧ _ ∧ _ ∧ _ ∧ _ ∧ _ ∧ _ ∧ _ ∧ Frm (fun _ => False) w4 _›; refine (HSTA.out _ hFx).mono ?_; clear hFx; rintro e w5 ⟨rfl, f5⟩) | (go_at_call 18; refine (nowhere_any _).mono ?_; rintro e w6 ⟨rfl, f6⟩) | (go_at_call 19; have hFx := Frm.trans (E := fun _ => False) (w := w4) f5 f6; refine (searchP_any (HNX.out _ hFx) HOK1.out HOK2.out HLL.out (by omega) (by omega) HSR2.out).mono ?_; clear hFx; rintro e w7 ⟨uT, uR, rfl, o7, r7, f7⟩))
  all_goals
    have F7 := Frm.trans (E := fun _ => False) (w := w4) (Frm.trans (E := fun _ => False) (w := w4) f5 f6) f7
    have HF7 := Lib.hid (HB5.out.fr.trans F7)
    have hsz : w.heap.size ≤ w6.heap.size := by have := HB5.out.fr.1; have := (Frm.trans (E := fun _ => False) (w := w4) f5 f6).1; omega
    rw [List.length_map, List.flatMap_map] at o7
    have HO7 : Hid (w7.ownsRow w.heap.size 47 2 uT zs.length (zs.flatMap encP)) := own_base_ o7 hsz
    obtain ⟨g, cap, rfl, hg⟩ := own_some HO7.out HZ0.out
    clear o7 r7 f5 f6 f7 F7 hsz HKK HNX HSTA e0' e1' e2' e3' g0' g1' g2' g3'
    clear ‹_ ∧ _ ∧ _ ∧ _ ∧ _ ∧ _ ∧ _ ∧ _ ∧ Frm (fun _ => False) w4 _›
    go_wp2_with fail
    refine (sortP_any HO7.out HZ.out).mono ?_
    rintro _ w8 ⟨rfl, zs', hp, hs, ho, f8⟩
    have HP := Lib.hid hp
    have HS := Lib.hid hs
    have HO8 := Lib.hid ho
    have HF8 : Hid (Frm (fun _ => False) w w8) := Frm.mono (E := fun b => w.heap.size ≤ b) ((HF7.out.mono fun _ _ h => h.elim).trans (f8.mono fun b _ h => by omega)) fun b hb h => by omega
    clear hp hs ho f8
    go_wp2_with fail
    refine bodyPost_ret (v := .tuple #[.slice (some ⟨g, 0, none⟩) zs.length cap, .int .i64 0]) (by simp [results, Try.results7, go_sem]) rfl ?_
    exact ⟨_, zs', rfl, HP.out, HS.out, HO8.out, HF8.out⟩
end Go.Proofs.Ytmfjadhnbaikkaa
end
section
namespace Go.Proofs.Ytmfjadhnbaikkaa.A
theorem nodup_nat : ∀ (N : Nat) (l : List Nat), l.Nodup → (∀ x ∈ l, x < N) → l.length ≤ N
  | 0, l, _, h => by
    rcases l with _ | ⟨x, r⟩
    · exact Nat.le_refl _
    · exact absurd (h x List.mem_cons_self) (by omega)
  | N + 1, l, hn, h => by
    have h1 := nodup_nat N (l.erase N) (hn.erase N) fun x hx => by
      have h2 := h x (List.mem_of_mem_erase hx)
      have h3 : x ≠ N := fun e => by subst e; exact (hn.not_mem_erase) hx
      omega
    have h4 : l.length ≤ (l.erase N).length + 1 := by
      rw [List.length_erase]
      split <;> omega
    omega
theorem nodup_in {a b : Mac} {l : List Pr} (hn : l.Nodup) (h : ∀ p ∈ l, InP a b p) : l.length ≤ (1 + a.next.length) * (1 + b.next.length) := by
  have h1 := nodup_nat ((1 + a.next.length) * (1 + b.next.length)) (l.map fun p => (place b.next.length p).toNat) ?_ ?_
  · simpa using h1
  · rw [List.nodup_iff_pairwise_ne, List.pairwise_map]
    refine (List.Pairwise.and_mem.1 (List.nodup_iff_pairwise_ne.1 hn)).imp fun {x y} hxy e => hxy.2.2 ?_
    have hx := place_in (h x hxy.1)
    have hy := place_in (h y hxy.2.1)
    exact place_inj (h x hxy.1) (h y hxy.2.1) (by omega)
  · intro x hx
    obtain ⟨p, hp, rfl⟩ := List.mem_map.1 hx
    have h1 := place_in (h p hp)
    have h2 : (((1 + a.next.length) * (1 + b.next.length) : Nat) : Int) = (1 + (a.next.length : Int)) * (1 + b.next.length) := by simp
    omega
/-- A pair that a word leads to, not nowhere twice. -/
def GoodP (a b : Mac) (z : Pr) : Prop := InP a b z ∧ z ≠ (-1, -1) ∧ ∃ w, OkW a w ∧ z = runP a b (a.start, b.start) w
theorem GoodP.lead {a b : Mac} (h2 : Two a b) {z : Pr} (h : GoodP a b z) {k : Int} (h0 : 0 ≤ k) (hk : k < a.letters) (hne : leadP a b z k ≠ (-1, -1)) : GoodP a b (leadP a b z k) := by
  obtain ⟨h1, _, w, hw, e⟩ := h
  refine ⟨h2.lead h1 h0 hk, hne, w ++ [k], hw.app fun x hx => by rw [List.mem_singleton.1 hx]; exact ⟨h0, hk⟩, ?_⟩
  rw [runP_snoc, e]
structure Fd (a b : Mac) (ts : List Pr) : Prop where
  nd : ts.Nodup
  good : ∀ z ∈ ts, GoodP a b z
theorem Fd.len {a b : Mac} {ts : List Pr} (h : Fd a b ts) : ts.length ≤ (1 + a.next.length) * (1 + b.next.length) := nodup_in h.nd fun z hz => (h.good z hz).1
theorem Fd.num {a b : Mac} {ts : List Pr} (h : Fd a b ts) {y : Pr} (hy : y ≠ (-1, -1) → GoodP a b y) : Fd a b (numO (-1, -1) y ts).2 ∧ (∀ z ∈ ts, z ∈ (numO (-1, -1) y ts).2) ∧ (∀ (i : Nat) (z : Pr), ts[i]? = some z → (numO (-1, -1) y ts).2[i]? = some z) ∧ (y = (-1, -1) ∨ y ∈ (numO (-1, -1) y ts).2) := by
  unfold numO
  by_cases e : y = (-1, -1)
  · rw [if_pos e]
    exact ⟨h, fun _ h => h, fun _ _ h => h, .inl e⟩
  · rw [if_neg e]
    by_cases hm : y ∈ ts
    · rw [if_pos hm]
      exact ⟨h, fun _ h => h, fun _ _ h => h, .inr hm⟩
    · rw [if_neg hm]
      refine ⟨⟨?_, fun z hz => ?_⟩, fun z hz => List.mem_append.2 (.inl hz), fun i z hz => ?_, .inr (List.mem_append.2 (.inr List.mem_cons_self))⟩
      · rw [List.nodup_append]
        exact ⟨h.nd, by simp, fun x hx z hz e' => hm (by rw [List.mem_singleton.1 hz] at e'; rw [← e']; exact hx)⟩
      · rcases List.mem_append.1 hz with hz | hz
        · exact h.good z hz
        · rw [List.mem_singleton.1 hz]; exact hy e
      · have hi : i < ts.length := (List.getElem?_eq_some_iff.1 hz).1
        rw [List.getElem?_append_left hi]; exact hz
theorem rowS_ok {a b : Mac} (h2 : Two a b) (hN : (1 + a.next.length) * (1 + b.next.length) ≤ 20000) {x : Pr} (hx : GoodP a b x) : ∀ (ks : List Nat) (ts : List Pr) (row : List Int), (∀ k ∈ ks, (k : Int) < a.letters) → Fd a b ts →
    ∃ ts' row', rowS (nxtP a b) (-1, -1) 20000 x ks ts row = some (ts', row') ∧ Fd a b ts' ∧ (∀ z ∈ ts, z ∈ ts') ∧ (∀ (i : Nat) (z : Pr), ts[i]? = some z → ts'[i]? = some z) ∧ ∀ k ∈ ks, leadP a b x k = (-1, -1) ∨ leadP a b x k ∈ ts'
  | [], ts, row, _, hF => ⟨ts, row, rfl, hF, fun _ h => h, fun _ _ h => h, fun _ h => by cases h⟩
  | k :: ks, ts, row, hk, hF => by
    have hkk := hk k List.mem_cons_self
    obtain ⟨⟨h3, h4⟩, h5, h6⟩ := hx.1
    have hnx : nxtP a b x (k : Int) = some (leadP a b x k) := by
      unfold nxtP
      rw [if_pos ⟨h3, h4, h5, h6, by omega, hkk⟩]
    unfold rowS
    rw [hnx]
    dsimp only
    obtain ⟨g1, g2, g3, g4⟩ := hF.num (y := leadP a b x k) fun hne => hx.lead h2 (by omega) hkk hne
    have hl := g1.len
    rw [if_neg (by omega)]
    obtain ⟨ts', row', e1, e2, e3, e4, e5⟩ := rowS_ok h2 hN hx ks _ (row ++ [(numO (-1, -1) (leadP a b x k) ts).1]) (fun k hk' => hk k (List.mem_cons_of_mem _ hk')) g1
    refine ⟨ts', row', e1, e2, fun z hz => e3 z (g2 z hz), fun i z hz => e4 i z (g3 i z hz), fun k' hk' => ?_⟩
    rcases List.mem_cons.1 hk' with rfl | hk'
    · rcases g4 with g4 | g4
      · exact .inl g4
      · exact .inr (e3 _ g4)
    · exact e5 k' hk'
theorem srchO_ok {a b : Mac} (h2 : Two a b) (hN : (1 + a.next.length) * (1 + b.next.length) ≤ 20000) : ∀ (f at_ : Nat) (ts : List Pr) (rows : List (List Int)), Fd a b ts → (1 + a.next.length) * (1 + b.next.length) ≤ f + at_ → (∀ i, i < at_ → ∀ z, ts[i]? = some z → ∀ k : Nat, (k : Int) < a.letters → leadP a b z k = (-1, -1) ∨ leadP a b z k ∈ ts) →
    ∃ ts' rows', srchO (nxtP a b) (-1, -1) a.letters.toNat 20000 f at_ ts rows = some (ts', rows') ∧ Fd a b ts' ∧ (∀ z ∈ ts, z ∈ ts') ∧ ∀ z ∈ ts', ∀ k : Nat, (k : Int) < a.letters → leadP a b z k = (-1, -1) ∨ leadP a b z k ∈ ts'
  | f, at_, ts, rows, hF, hf, hc => by
    unfold srchO
    by_cases hlt : at_ < ts.length
    · rw [dif_pos hlt]
      have hl := hF.len
      match f, hf with
      | 0, hf => omega
      | f + 1, hf =>
        dsimp only
        obtain ⟨ts1, row1, e1, e2, e3, e4, e5⟩ := rowS_ok h2 hN (hF.good _ (List.getElem_mem hlt)) (List.range a.letters.toNat) ts [] (fun k hk => by have := List.mem_range.1 hk; omega) hF
        rw [e1]
        dsimp only
        obtain ⟨ts', rows', d1, d2, d3, d4⟩ := srchO_ok h2 hN f (at_ + 1) ts1 (rows ++ [row1]) e2 (by omega) fun i hi z hz k hk => by
          by_cases e : i = at_
          · subst e
            have hz' := e4 i ts[i] (List.getElem?_eq_getElem hlt)
            rw [hz'] at hz
            injection hz with hz
            subst hz
            exact e5 k (List.mem_range.2 (by omega))
          · have hi' : i < ts.length := by omega
            have hz' := e4 i ts[i] (List.getElem?_eq_getElem hi')
            rw [hz'] at hz
            injection hz with hz
            subst hz
            rcases hc i (by omega) _ (List.getElem?_eq_getElem hi') k hk with h | h
            · exact .inl h
            · exact .inr (e3 _ h)
        exact ⟨ts', rows', d1, d2, fun z hz => d3 z (e3 z hz), d4⟩
    · rw [dif_neg hlt]
      refine ⟨ts, rows, rfl, hF, fun _ h => h, fun z hz k hk => ?_⟩
      obtain ⟨i, hi, rfl⟩ := List.getElem_of_mem hz
      exact hc i (by omega) _ (List.getElem?_eq_getElem hi) k hk
theorem search_ok {a b : Mac} (h2 : Two a b) (hN : (1 + a.next.length) * (1 + b.next.length) ≤ 20000) (hst : (a.start, b.start) ≠ (-1, -1)) {f : Nat} (hf : 20000 ≤ f) :
    ∃ ts rows, searchO (nxtP a b) f (a.start, b.start) (-1, -1) a.letters.toNat 20000 = some (ts, rows) ∧ Fd a b ts ∧ (a.start, b.start) ∈ ts ∧ ∀ z ∈ ts, ∀ k : Nat, (k : Int) < a.letters → leadP a b z k = (-1, -1) ∨ leadP a b z k ∈ ts := by
  have hF : Fd a b [(a.start, b.start)] := ⟨by simp, fun z hz => by
    rw [List.mem_singleton.1 hz]
    exact ⟨⟨h2.fa.start, h2.fb.start⟩, hst, [], (fun k hk => by cases hk), rfl⟩⟩
  unfold searchO
  have e : (numO (-1, -1) (a.start, b.start) []).2 = [(a.start, b.start)] := by
    unfold numO
    rw [if_neg hst]
    simp
  rw [e]
  obtain ⟨ts', rows', d1, d2, d3, d4⟩ := srchO_ok h2 hN f 0 [(a.start, b.start)] [] hF (by omega) fun i hi => by omega
  exact ⟨ts', rows', d1, d2, d3 _ List.mem_cons_self, d4⟩
theorem ord_lt {x y : Pr} (h : ¬ ord y x < 0) (hne : x ≠ y) : ord x y < 0 := by
  obtain ⟨x1, x2⟩ := x
  obtain ⟨y1, y2⟩ := y
  unfold ord at h ⊢
  dsimp only at h ⊢
  by_cases e : x1 = y1
  · subst e
    have hne2 : x2 ≠ y2 := fun e => hne (by rw [e])
    rw [if_neg (by simp)] at h ⊢
    omega
  · rw [if_pos e]
    rw [if_pos (fun e' => e e'.symm)] at h
    omega
theorem rel_sorted {a b : Mac} : ∀ (l : List Pr) (last : Pr), (∀ p ∈ l, InP a b p) → l.Nodup → l.Pairwise (fun x y => ¬ ord y x < 0) → (∀ p ∈ l, ord last p < 0) → relFrom a b last l = true
  | [], _, _, _, _, _ => rfl
  | p :: l, last, hi, hn, hs, hl => by
    unfold relFrom
    rw [Bool.and_eq_true, Bool.and_eq_true]
    refine ⟨okPair_in.2 (hi p List.mem_cons_self), by simpa using hl p List.mem_cons_self, rel_sorted l p (fun q hq => hi q (List.mem_cons_of_mem _ hq)) (List.nodup_cons.1 hn).2 (List.pairwise_cons.1 hs).2 fun q hq => ?_⟩
    exact ord_lt ((List.pairwise_cons.1 hs).1 q hq) fun e => (List.nodup_cons.1 hn).1 (by rw [e]; exact hq)
/-- What the search finds, sorted, shows that two machines are the same. -/
theorem check_sorted {a b : Mac} (hf : fit a b = 0) (hd : ¬ ∃ w, Dist a b w) {ts l : List Pr} (hF : Fd a b ts) (hst : (a.start, b.start) ∈ ts) (hc : ∀ z ∈ ts, ∀ k : Nat, (k : Int) < a.letters → leadP a b z k = (-1, -1) ∨ leadP a b z k ∈ ts) (hp : l.Perm ts) (hs : l.Pairwise (fun x y => ¬ ord y x < 0)) : check a b l = 0 := by
  unfold check
  rw [if_pos hf]
  have hin : ∀ p ∈ l, InP a b p := fun p hp' => (hF.good p (hp.mem_iff.1 hp')).1
  have hrel : isRel a b l = true := rel_sorted l (-1, -1) hin (hp.nodup_iff.2 hF.nd) hs fun p hp' => by
    have h1 := hF.good p (hp.mem_iff.1 hp')
    obtain ⟨⟨⟨h2, _⟩, h3, _⟩, h4, _⟩ := h1
    obtain ⟨p1, p2⟩ := p
    unfold ord
    dsimp only at h2 h3 ⊢
    by_cases e : (-1 : Int) ≠ p1
    · rw [if_pos e]; omega
    · rw [if_neg e]
      have e1 : p1 = -1 := by omega
      have : p2 ≠ -1 := fun e2 => h4 (by rw [e1, e2])
      omega
  rw [if_pos hrel]
  have hsh : shows a b l = true := by
    unfold shows
    rw [Bool.and_eq_true, List.all_eq_true]
    refine ⟨among_iff.2 (.inr (hp.mem_iff.2 hst)), fun p hp' => ?_⟩
    have hp2 := hp.mem_iff.1 hp'
    obtain ⟨_, _, w, hw, e⟩ := hF.good p hp2
    rw [Bool.and_eq_true, List.all_eq_true]
    refine ⟨?_, fun k hk => ?_⟩
    · rcases hag : agree a b p with _ | _
      · exact absurd ⟨w, hw, by rw [← e]; exact hag⟩ hd
      · rfl
    · have hk' := List.mem_range.1 hk
      rcases hc p hp2 k (by omega) with h | h
      · exact among_iff.2 (.inl h)
      · exact among_iff.2 (.inr (hp.mem_iff.2 h))
  rw [if_pos hsh]
theorem check_nil {a b : Mac} (hf : fit a b = 0) (hst : (a.start, b.start) = (-1, -1)) : check a b [] = 0 := by
  unfold check
  have h1 : isRel a b [] = true := rfl
  have h2 : shows a b [] = true := by
    unfold shows
    rw [Bool.and_eq_true]
    exact ⟨among_iff.2 (.inl hst), rfl⟩
  rw [if_pos hf, if_pos h1, if_pos h2]
end Go.Proofs.Ytmfjadhnbaikkaa.A
end
section
namespace Go.Proofs.Ytmfjadhnbaikkaa
open Go.RowKit Go.Shelf
open Go.Sort (flatK putCells onCells mapBlock)
set_option maxHeartbeats 1000000 in
theorem sortP_all {w : World} {base g cap : Nat} {zs : List DP} (ho : w.ownsRow base 47 2 (.slice (some ⟨g, 0, none⟩) zs.length cap) zs.length (zs.flatMap encP)) (h4 : zs.length ≤ 100000) :
    Calls Try.prog 22 #[.slice (some ⟨g, 0, none⟩) zs.length cap, .func (.func 23) #[] #[]] w fun e w' => e = .returned (.tuple #[]) ∧ ∃ zs' : List DP, zs'.Perm zs ∧ zs'.Pairwise (fun x y => ltOf cfP y x = false) ∧ w'.ownsRow base 47 2 (.slice (some ⟨g, 0, none⟩) zs.length cap) zs.length (zs'.flatMap encP) ∧ Frm (· = g) w w' := by
  have eg : ∀ args w, (callFunc 23 args).run Try.prog w = .ok (.enter 23 args) w := enters_of Try.func23 (by kernel_rfl) rfl
  have hc := @World.ownsRow.cells _ _ _ _ _ _ _ ho g rfl
  have hH : Sort.HoldsK encP 2 w g 0 zs.toArray := fun j hj => by
    have hj' : j < zs.length * 2 := by simpa using hj
    refine ⟨?_, by rw [Nat.zero_add]; exact ho.frozenAt j⟩
    have := hc j _ (flatP_at zs j hj')
    rw [add_zero_off] at this
    rw [Nat.zero_add, this]
    simp only [id]
    rw [Sort.get_flatK _ _ _ _ (by simpa using hj')]
    simp
  have hblk : g < w.heap.size := (ho.lt g rfl).2
  have hcon := AnyQ.slices_SortFunc Try.sortPair 2 (fun w => by kernel_rfl) (fun w => by kernel_rfl) encP (fun _ => rfl) (fun x v hv => by simp [encP, pairC] at hv; rcases hv with rfl | rfl <;> rfl) cfP swoP 23 #[] g 0 cap zs.toArray w eg (fun _ _ _ _ x y => cmpP_any x y _) hH hblk (by simp; omega)
  refine Calls.mono (show Calls Try.prog 22 #[.slice (some ⟨g, 0, none⟩) zs.length cap, .func (.func 23) #[] #[]] w _ from hcon) ?_
  rintro e w' ⟨rfl, d', n, os, hp, hs, rfl⟩
  obtain ⟨hsz, -, hperm⟩ := hp
  have hsz' : d'.size = zs.length := by simpa using hsz
  have hz0 : (zs.toArray.size) = zs.length := by simp
  have hperm' : d'.toList.Perm zs := by
    have e1 : (d'.extract 0 zs.toArray.size).toList = d'.toList := by rw [hz0, ← hsz']; simp
    have e2 : (zs.toArray.extract 0 zs.toArray.size).toList = zs := by simp
    rw [e1, e2] at hperm
    exact hperm
  have hF : Frm (· = g) w (sortWorldK encP 2 w g 0 n d' os) := sortP_frm
  rcases ho.2 with ⟨hv, _⟩ | ⟨g', cap', cur, hv, h1, hg, h3, h4', h5, h6⟩
  · cases hv
  injection hv with hv1 _ hv2
  injection hv1 with hv1
  injection hv1 with hv1
  subst hv1 hv2
  have hcur : d'.size * 2 ≤ cur.size := by
    have := congrArg List.length h6
    rw [List.length_take, flatP_len] at this
    simp at this
    omega
  refine ⟨rfl, d'.toList, hperm', ?_, ⟨by rw [flatP_len]; simp [hsz'], .inr ⟨g, cap, _, rfl, h1, sortP_block hg, h3, h4', by simp [putCells]; omega, ?_⟩⟩, hF⟩
  · rw [List.pairwise_iff_getElem]
    intro i j hi hj hij
    simp only [Array.length_toList] at hi hj
    have h1 := hs i j (Nat.zero_le _) hij (by omega)
    rw [getElem!_pos d' i hi, getElem!_pos d' j hj] at h1
    simpa using h1
  · have := putP_take hcur
    rw [hsz'] at this
    simpa using this
end Go.Proofs.Ytmfjadhnbaikkaa
end
section
namespace Go.Proofs.Ytmfjadhnbaikkaa
open Go.RowKit Go.Shelf
set_option maxRecDepth 100000 in
set_option maxHeartbeats 8000000 in
theorem relate_same {w : World} {P Q : Nat → Prop} {v v' : Value} {a b : A.Mac} {f : Nat} {zs : List DP} {rows : List (List Int)} (h : MachAt w P v a) (h' : MachAt w Q v' b) (hs : Sized a) (hs' : Sized b) (hfit : A.fit a b = 0) (ht : A.Two a b) (he : A.diffO f a b = some none) (hf : f ≤ 100000) (hst : (a.start, b.start) ≠ (-1, -1)) (hsr : A.searchO (A.nxtP a b) f (a.start, b.start) (-1, -1) a.letters.toNat 20000 = some (zs.map (·.1), rows)) (hz : zs.length ≤ 100000) (hz0 : 0 < zs.length) :
    Calls Try.prog 7 #[v, v'] w fun e w' => ∃ u, ∃ zs' : List DP, e = .returned (.tuple #[u, .int .i64 0]) ∧ zs'.Perm zs ∧ zs'.Pairwise (fun x y => ltOf cfP y x = false) ∧ w'.ownsRow w.heap.size 47 2 u zs.length (zs'.flatMap encP) ∧ Frm (fun _ => False) w w' := by
  obtain ⟨A1, c1, A2, c2, rfl⟩ := h.form
  obtain ⟨B1, d1, B2, d2, rfl⟩ := h'.form
  have HB0 : Hid (Bx w _ (macC a A1 c1 A2 c2) (macC b B1 d1 B2 d2)) := Bx.new w _ _
  have HM := Lib.hid h
  have HM' := Lib.hid h'
  have HSZ := Lib.hid hs
  have HSZ' := Lib.hid hs'
  have HE := Lib.hid he
  have HT := Lib.hid ht
  have HFIT := Lib.hid hfit
  have HST := Lib.hid hst
  have HSR := Lib.hid hsr
  have HZ := Lib.hid hz
  have HZ0 := Lib.hid hz0
  have e0 := HB0.out.ba.cell 0
  have e1 := HB0.out.ba.cell 1
  have e2 := HB0.out.ba.cell 2
  have e3 := HB0.out.ba.cell 3
  have g0 := HB0.out.bb.cell 0
  have g1 := HB0.out.bb.cell 1
  have g2 := HB0.out.bb.cell 2
  have g3 := HB0.out.bb.cell 3
  simp only [macC] at e0 e1 e2 e3 g0 g1 g2 g3
  clear h h' hs hs' he ht hfit hst hsr hz hz0
  go_enter Try.func7, Try.ntmps7
  go_wp2_with fail
  refine (fit_any (HM.out.keep0 HB0.out.fr) (HM'.out.keep0 HB0.out.fr) HSZ.out HSZ'.out).mono ?_
  rintro _ w1 ⟨rfl, f1⟩
  have HB1 := Lib.hid (HB0.out.call f1)
  rw [HFIT.out]
  clear e0 e1 e2 e3 g0 g1 g2 g3 f1 HB0
  have e0 := HB1.out.ba.cell 0
  have e1 := HB1.out.ba.cell 1
  have e2 := HB1.out.ba.cell 2
  have e3 := HB1.out.ba.cell 3
  have g0 := HB1.out.bb.cell 0
  have g1 := HB1.out.bb.cell 1
  have g2 := HB1.out.bb.cell 2
  have g3 := HB1.out.bb.cell 3
  simp only [macC] at e0 e1 e2 e3 g0 g1 g2 g3
  go_wp2_with fail
  refine (diff_any (HM.out.keep0 HB1.out.fr) (HM'.out.keep0 HB1.out.fr) HT.out HE.out hf).mono ?_
  rintro _ w2 ⟨rfl, f2⟩
  have HB2 := Lib.hid (HB1.out.call f2)
  clear e0 e1 e2 e3 g0 g1 g2 g3 f2 HB1
  have HB3 := Lib.hid (HB2.out.call ((Frm.refl _ w2).alloc (.cells #[.int .i64 0, .int .i64 0] 47)))
  have e0 := HB3.out.ba.cell 0
  have e1 := HB3.out.ba.cell 1
  have e2 := HB3.out.ba.cell 2
  have e3 := HB3.out.ba.cell 3
  have g0 := HB3.out.bb.cell 0
  have g1 := HB3.out.bb.cell 1
  have g2 := HB3.out.bb.cell 2
  have g3 := HB3.out.bb.cell 3
  simp only [macC] at e0 e1 e2 e3 g0 g1 g2 g3
  simp only [pairV]
  go_wp2_with fail
  refine (starts_any (HM.out.keep0 HB3.out.fr) (HM'.out.keep0 HB3.out.fr)).mono ?_
  rintro _ w3 ⟨rfl, f3⟩
  have HB4 := Lib.hid (HB3.out.call f3)
  clear e0 e1 e2 e3 g0 g1 g2 g3 f3 HB2 HB3
  simp only [pairV]
  go_wp2_with fail
  refine (nowhere_any w3).mono ?_
  rintro _ w4 ⟨rfl, f4⟩
  have HB5 := Lib.hid (HB4.out.call f4)
  clear f4 HB4
  have e0 := HB5.out.ba.cell 0
  have e1 := HB5.out.ba.cell 1
  have e2 := HB5.out.ba.cell 2
  have e3 := HB5.out.ba.cell 3
  have g0 := HB5.out.bb.cell 0
  have g1 := HB5.out.bb.cell 1
  have g2 := HB5.out.bb.cell 2
  have g3 := HB5.out.bb.cell 3
  simp only [macC] at e0 e1 e2 e3 g0 g1 g2 g3
  simp only [pairV]
  go_wp2_with fail
  · exact absurd (Prod.ext ‹a.start = -1› ‹b.start = -1›) HST.out
  all_goals
    try clear ‹a.start = -1›
    try clear ‹¬b.start = -1›
    try clear ‹¬a.start = -1›
    obtain ⟨L, hL⟩ : ∃ L : Nat, a.letters = (L : Int) := ⟨a.letters.toNat, by have := HT.out.fa.letters; omega⟩
    have HL := Lib.hid hL
    have HINS : Hid (A.InP a b (a.start, b.start)) := ⟨HT.out.fa.start, HT.out.fb.start⟩
    have HOK1 : Hid (okP (a.start, b.start)) := okP_small (BPr.of_in HT.out HINS.out)
    have HOK2 : Hid (okP (-1, -1)) := okP_small (by unfold BPr; decide)
    have HSR2 : Hid (A.searchO (A.nxtP a b) f (a.start, b.start) (-1, -1) L 20000 = some (zs.map (·.1), rows)) := by
      have := HSR.out
      rw [hL, Int.toNat_natCast] at this
      exact this
    have HLL : Hid (L ≤ 300) := show _ ≤ _ by have := HT.out.la; omega
    have HNX : Hid (∀ W', Frm (fun _ => False) w4 W' → ∀ (x : A.Pr) (k : Int) (y : A.Pr) (W : World), A.nxtP a b x k = some y → Frm (fun _ => False) W' W → okP y ∧ Calls Try.prog 20 #[pairV x, .int .i64 k, .pointer (some ⟨w.heap.size, 0, none⟩), .pointer (some ⟨w.heap.size + 1, 0, none⟩)] W fun e w' => e = .returned (pairV y) ∧ Frm (fun _ => False) W w') := fun W' hW' x k y W hy hW => by
      have hF := hW'.trans hW
      have hB := HB5.out.call hF
      unfold A.nxtP at hy
      split at hy
      case isFalse => cases hy
      rename_i hin
      injection hy with hy
      subst hy
      have hI : A.InP a b x := ⟨⟨hin.1, hin.2.1⟩, hin.2.2.1, hin.2.2.2.1⟩
      exact ⟨okP_small (BPr.of_in HT.out (leadP_in HT.out hI hin.2.2.2.2.1 hin.2.2.2.2.2)), relate1_any hB.ba hB.bb (HM.out.keep0 hB.fr) (HM'.out.keep0 hB.fr) HT.out x k hI hin.2.2.2.2.1 hin.2.2.2.2.2⟩
    have e0' : w4.cell? ⟨w.heap.size, 0, none⟩ = some (.int .i64 (L : Int)) := by rw [e0, ← hL]; rfl
    have e1' : w4.cell? ⟨w.heap.size, 1, none⟩ = some (.int .i64 a.start) := e1
    have e2' : w4.cell? ⟨w.heap.size, 2, none⟩ = some (.slice A1 a.next.length c1) := e2
    have e3' : w4.cell? ⟨w.heap.size, 3, none⟩ = some (.slice A2 a.fin.length c2) := e3
    have g0' : w4.cell? ⟨w.heap.size + 1, 0, none⟩ = some (.int .i64 b.letters) := g0
    have g1' : w4.cell? ⟨w.heap.size + 1, 1, none⟩ = some (.int .i64 b.start) := g1
    have g2' : w4.cell? ⟨w.heap.size + 1, 2, none⟩ = some (.slice B1 b.next.length d1) := g2
    have g3' : w4.cell? ⟨w.heap.size + 1, 3, none⟩ = some (.slice B2 b.fin.length d2) := g3
    have HSTA : Hid (∀ W, Frm (fun _ => False) w4 W → Calls Try.prog 17 #[.agg #[.int .i64 (L : Int), .int .i64 a.start, .slice A1 a.next.length c1, .slice A2 a.fin.length c2], .agg #[.int .i64 b.letters, .int .i64 b.start, .slice B1 b.next.length d1, .slice B2 b.fin.length d2]] W fun e w' => e = .returned (pairV (a.start, b.start)) ∧ Frm (fun _ => False) W w') := fun W hW => by
      rw [← hL]
      exact starts_any (HM.out.keep0 (HB5.out.fr.trans hW)) (HM'.out.keep0 (HB5.out.fr.trans hW))
    have HKK : Hid (∀ W, Frm (fun _ => False) w4 W → _) := fun W hW => (⟨hW.cell id e0', hW.cell id e1', hW.cell id e2', hW.cell id e3', hW.cell id g0', hW.cell id g1', hW.cell id g2', hW.cell id g3', hW⟩ : W.cell? ⟨w.heap.size, 0, none⟩ = some (.int .i64 (L : Int)) ∧ W.cell? ⟨w.heap.size, 1, none⟩ = some (.int .i64 a.start) ∧ W.cell? ⟨w.heap.size, 2, none⟩ = some (.slice A1 a.next.length c1) ∧ W.cell? ⟨w.heap.size, 3, none⟩ = some (.slice A2 a.fin.length c2) ∧ W.cell? ⟨w.heap.size + 1, 0, none⟩ = some (.int .i64 b.letters) ∧ W.cell? ⟨w.heap.size + 1, 1, none⟩ = some (.int .i64 b.start) ∧ W.cell? ⟨w.heap.size + 1, 2, none⟩ = some (.slice B1 b.next.length d1) ∧ W.cell? ⟨w.heap.size + 1, 3, none⟩ = some (.slice B2 b.fin.length d2) ∧ Frm (fun _ => False) w4 W)
    clear e0 e1 e2 e3 g0 g1 g2 g3 hL
    go_region_held3 (fun w' => w'.cell? ⟨w.heap.size, 0, none⟩ = some (.int .i64 (L : Int)) ∧ w'.cell? ⟨w.heap.size, 1, none⟩ = some (.int .i64 a.start) ∧ w'.cell? ⟨w.heap.size, 2, none⟩ = some (.slice A1 a.next.length c1) ∧ w'.cell? ⟨w.heap.size, 3, none⟩ = some (.slice A2 a.fin.length c2) ∧ w'.cell? ⟨w.heap.size + 1, 0, none⟩ = some (.int .i64 b.letters) ∧ w'.cell? ⟨w.heap.size + 1, 1, none⟩ = some (.int .i64 b.start) ∧ w'.cell? ⟨w.heap.size + 1, 2, none⟩ = some (.slice B1 b.next.length d1) ∧ w'.cell? ⟨w.heap.size + 1, 3, none⟩ = some (.slice B2 b.fin.length d2) ∧ Frm (fun _ => False) w4 w')
      (first | exact HKK.out _ (Frm.refl _ _) | exact HKK.out _ (Frm.refl _ _).drew | exact HKK.out _ (Frm.trans (E := fun _ => False) (w := w4) (Frm.trans (E := fun _ => False) (w := w4) f5 f6) f7) | exact HKK.out _ (Frm.trans (E := fun _ => False) (w := w4) f5 f6) | exact HKK.out _ f5)
      (first | (go_at_call 17; obtain ⟨-, -, -, -, -, -, -, -, hFx⟩ := ‹_ ∧ _ ∧ _ ∧ _ ∧ _ ∧ _ ∧ _ ∧ _ ∧ Frm (fun _ => False) w4 _›; refine (HSTA.out _ hFx).mono ?_; clear hFx; rintro e w5 ⟨rfl, f5⟩) | (go_at_call 18; refine (nowhere_any _).mono ?_; rintro e w6 ⟨rfl, f6⟩) | (go_at_call 19; have hFx := Frm.trans (E := fun _ => False) (w := w4) f5 f6; refine (searchP_any (HNX.out _ hFx) HOK1.out HOK2.out HLL.out (by omega) (by omega) HSR2.out).mono ?_; clear hFx; rintro e w7 ⟨uT, uR, rfl, o7, r7, f7⟩))
    all_goals
      have F7 := Frm.trans (E := fun _ => False) (w := w4) (Frm.trans (E := fun _ => False) (w := w4) f5 f6) f7
      have HF7 := Lib.hid (HB5.out.fr.trans F7)
      have hsz : w.heap.size ≤ w6.heap.size := by have := HB5.out.fr.1; have := (Frm.trans (E := fun _ => False) (w := w4) f5 f6).1; omega
      rw [List.length_map, List.flatMap_map] at o7
      have HO7 : Hid (w7.ownsRow w.heap.size 47 2 uT zs.length (zs.flatMap encP)) := own_base_ o7 hsz
      obtain ⟨g, cap, rfl, hg⟩ := own_some HO7.out HZ0.out
      clear o7 r7 f5 f6 f7 F7 hsz HKK HNX HSTA e0' e1' e2' e3' g0' g1' g2' g3'
      clear ‹_ ∧ _ ∧ _ ∧ _ ∧ _ ∧ _ ∧ _ ∧ _ ∧ Frm (fun _ => False) w4 _›
      go_wp2_with fail
      refine (sortP_all HO7.out HZ.out).mono ?_
      rintro _ w8 ⟨rfl, zs', hp, hs, ho, f8⟩
      have HP := Lib.hid hp
      have HS := Lib.hid hs
      have HO8 := Lib.hid ho
      have HF8 : Hid (Frm (fun _ => False) w w8) := Frm.mono (E := fun b => w.heap.size ≤ b) ((HF7.out.mono fun _ _ h => h.elim).trans (f8.mono fun b _ h => by omega)) fun b hb h => by omega
      clear hp hs ho f8
      go_wp2_with fail
      refine bodyPost_ret (v := .tuple #[.slice (some ⟨g, 0, none⟩) zs.length cap, .int .i64 0]) (by simp [results, Try.results7, go_sem]) rfl ?_
      exact ⟨_, zs', rfl, HP.out, HS.out, HO8.out, HF8.out⟩
end Go.Proofs.Ytmfjadhnbaikkaa
end
section
namespace Go.Proofs.Ytmfjadhnbaikkaa
open Go.RowKit
set_option maxRecDepth 100000 in
set_option maxHeartbeats 8000000 in
theorem relate_no {w : World} {P Q : Nat → Prop} {v v' : Value} {a b : A.Mac} (h : MachAt w P v a) (h' : MachAt w Q v' b) (hs : Sized a) (hs' : Sized b) (hfit : A.fit a b ≠ 0) :
    Calls Try.prog 7 #[v, v'] w fun e w' => e = .returned (.tuple #[.slice none 0 0, .int .i64 (A.fit a b)]) ∧ Frm (fun _ => False) w w' := by
  obtain ⟨A1, c1, A2, c2, rfl⟩ := h.form
  obtain ⟨B1, d1, B2, d2, rfl⟩ := h'.form
  have HB0 : Hid (Bx w _ (macC a A1 c1 A2 c2) (macC b B1 d1 B2 d2)) := Bx.new w _ _
  have HM := Lib.hid h
  have HM' := Lib.hid h'
  have HSZ := Lib.hid hs
  have HSZ' := Lib.hid hs'
  have HFIT := Lib.hid hfit
  have e0 := HB0.out.ba.cell 0
  have e1 := HB0.out.ba.cell 1
  have e2 := HB0.out.ba.cell 2
  have e3 := HB0.out.ba.cell 3
  have g0 := HB0.out.bb.cell 0
  have g1 := HB0.out.bb.cell 1
  have g2 := HB0.out.bb.cell 2
  have g3 := HB0.out.bb.cell 3
  simp only [macC] at e0 e1 e2 e3 g0 g1 g2 g3
  clear h h' hs hs' hfit
  go_enter Try.func7, Try.ntmps7
  go_wp2_with fail
  refine (fit_any (HM.out.keep0 HB0.out.fr) (HM'.out.keep0 HB0.out.fr) HSZ.out HSZ'.out).mono ?_
  rintro _ w1 ⟨rfl, f1⟩
  have HB1 := Lib.hid (HB0.out.call f1)
  clear e0 e1 e2 e3 g0 g1 g2 g3 f1 HB0
  have hne : (A.fit a b != 0) = true := by have := HFIT.out; simpa using this
  generalize hft : A.fit a b = ft at *
  have HFT := Lib.hid hft
  clear hft
  go_wp2_with fail
  go_ret2
  exact ⟨by rw [HFT.out]; rfl, HB1.out.fr⟩
set_option maxRecDepth 100000 in
set_option maxHeartbeats 8000000 in
theorem relate_apart {w : World} {P Q : Nat → Prop} {v v' : Value} {a b : A.Mac} {f : Nat} {l : List Int} {q : A.Pr} (h : MachAt w P v a) (h' : MachAt w Q v' b) (hs : Sized a) (hs' : Sized b) (hfit : A.fit a b = 0) (ht : A.Two a b) (he : A.diffO f a b = some (some (l, q))) (hf : f ≤ 100000) :
    Calls Try.prog 7 #[v, v'] w fun e w' => e = .returned (.tuple #[.slice none 0 0, .int .i64 8]) ∧ Frm (fun _ => False) w w' := by
  obtain ⟨A1, c1, A2, c2, rfl⟩ := h.form
  obtain ⟨B1, d1, B2, d2, rfl⟩ := h'.form
  have HB0 : Hid (Bx w _ (macC a A1 c1 A2 c2) (macC b B1 d1 B2 d2)) := Bx.new w _ _
  have HM := Lib.hid h
  have HM' := Lib.hid h'
  have HSZ := Lib.hid hs
  have HSZ' := Lib.hid hs'
  have HE := Lib.hid he
  have HT := Lib.hid ht
  have HFIT := Lib.hid hfit
  have e0 := HB0.out.ba.cell 0
  have e1 := HB0.out.ba.cell 1
  have e2 := HB0.out.ba.cell 2
  have e3 := HB0.out.ba.cell 3
  have g0 := HB0.out.bb.cell 0
  have g1 := HB0.out.bb.cell 1
  have g2 := HB0.out.bb.cell 2
  have g3 := HB0.out.bb.cell 3
  simp only [macC] at e0 e1 e2 e3 g0 g1 g2 g3
  clear h h' hs hs' he ht hfit
  go_enter Try.func7, Try.ntmps7
  go_wp2_with fail
  refine (fit_any (HM.out.keep0 HB0.out.fr) (HM'.out.keep0 HB0.out.fr) HSZ.out HSZ'.out).mono ?_
  rintro _ w1 ⟨rfl, f1⟩
  have HB1 := Lib.hid (HB0.out.call f1)
  rw [HFIT.out]
  clear e0 e1 e2 e3 g0 g1 g2 g3 f1 HB0
  have e0 := HB1.out.ba.cell 0
  have e1 := HB1.out.ba.cell 1
  have e2 := HB1.out.ba.cell 2
  have e3 := HB1.out.ba.cell 3
  have g0 := HB1.out.bb.cell 0
  have g1 := HB1.out.bb.cell 1
  have g2 := HB1.out.bb.cell 2
  have g3 := HB1.out.bb.cell 3
  simp only [macC] at e0 e1 e2 e3 g0 g1 g2 g3
  go_wp2_with fail
  refine (diff_any (HM.out.keep0 HB1.out.fr) (HM'.out.keep0 HB1.out.fr) HT.out HE.out hf).mono ?_
  rintro _ w2 ⟨u, rfl, hu, f2⟩
  have HB2 := Lib.hid (HB1.out.call f2)
  clear e0 e1 e2 e3 g0 g1 g2 g3 f2 HB1 hu
  simp only [pairV]
  go_wp2_with fail
  go_ret2
  exact ⟨rfl, HB2.out.fr.alloc _⟩
set_option maxRecDepth 100000 in
set_option maxHeartbeats 8000000 in
theorem relate_nil {w : World} {P Q : Nat → Prop} {v v' : Value} {a b : A.Mac} {f : Nat} (h : MachAt w P v a) (h' : MachAt w Q v' b) (hs : Sized a) (hs' : Sized b) (hfit : A.fit a b = 0) (ht : A.Two a b) (he : A.diffO f a b = some none) (hf : f ≤ 100000) (hst : (a.start, b.start) = (-1, -1)) :
    Calls Try.prog 7 #[v, v'] w fun e w' => e = .returned (.tuple #[.slice none 0 0, .int .i64 0]) ∧ Frm (fun _ => False) w w' := by
  obtain ⟨A1, c1, A2, c2, rfl⟩ := h.form
  obtain ⟨B1, d1, B2, d2, rfl⟩ := h'.form
  have HB0 : Hid (Bx w _ (macC a A1 c1 A2 c2) (macC b B1 d1 B2 d2)) := Bx.new w _ _
  have HM := Lib.hid h
  have HM' := Lib.hid h'
  have HSZ := Lib.hid hs
  have HSZ' := Lib.hid hs'
  have HE := Lib.hid he
  have HT := Lib.hid ht
  have HFIT := Lib.hid hfit
  have HST := Lib.hid hst
  have e0 := HB0.out.ba.cell 0
  have e1 := HB0.out.ba.cell 1
  have e2 := HB0.out.ba.cell 2
  have e3 := HB0.out.ba.cell 3
  have g0 := HB0.out.bb.cell 0
  have g1 := HB0.out.bb.cell 1
  have g2 := HB0.out.bb.cell 2
  have g3 := HB0.out.bb.cell 3
  simp only [macC] at e0 e1 e2 e3 g0 g1 g2 g3
  clear h h' hs hs' he ht hfit hst
  go_enter Try.func7, Try.ntmps7
  go_wp2_with fail
  refine (fit_any (HM.out.keep0 HB0.out.fr) (HM'.out.keep0 HB0.out.fr) HSZ.out HSZ'.out).mono ?_
  rintro _ w1 ⟨rfl, f1⟩
  have HB1 := Lib.hid (HB0.out.call f1)
  rw [HFIT.out]
  clear e0 e1 e2 e3 g0 g1 g2 g3 f1 HB0
  have e0 := HB1.out.ba.cell 0
  have e1 := HB1.out.ba.cell 1
  have e2 := HB1.out.ba.cell 2
  have e3 := HB1.out.ba.cell 3
  have g0 := HB1.out.bb.cell 0
  have g1 := HB1.out.bb.cell 1
  have g2 := HB1.out.bb.cell 2
  have g3 := HB1.out.bb.cell 3
  simp only [macC] at e0 e1 e2 e3 g0 g1 g2 g3
  go_wp2_with fail
  refine (diff_any (HM.out.keep0 HB1.out.fr) (HM'.out.keep0 HB1.out.fr) HT.out HE.out hf).mono ?_
  rintro _ w2 ⟨rfl, f2⟩
  have HB2 := Lib.hid (HB1.out.call f2)
  clear e0 e1 e2 e3 g0 g1 g2 g3 f2 HB1
  have HB3 := Lib.hid (HB2.out.call ((Frm.refl _ w2).alloc (.cells #[.int .i64 0, .int .i64 0] 47)))
  have e0 := HB3.out.ba.cell 0
  have e1 := HB3.out.ba.cell 1
  have e2 := HB3.out.ba.cell 2
  have e3 := HB3.out.ba.cell 3
  have g0 := HB3.out.bb.cell 0
  have g1 := HB3.out.bb.cell 1
  have g2 := HB3.out.bb.cell 2
  have g3 := HB3.out.bb.cell 3
  simp only [macC] at e0 e1 e2 e3 g0 g1 g2 g3
  simp only [pairV]
  go_wp2_with fail
  refine (starts_any (HM.out.keep0 HB3.out.fr) (HM'.out.keep0 HB3.out.fr)).mono ?_
  rintro _ w3 ⟨rfl, f3⟩
  have HB4 := Lib.hid (HB3.out.call f3)
  clear e0 e1 e2 e3 g0 g1 g2 g3 f3 HB2 HB3
  rw [HST.out]
  simp only [pairV]
  go_wp2_with fail
  refine (nowhere_any w3).mono ?_
  rintro _ w4 ⟨rfl, f4⟩
  have HB5 := Lib.hid (HB4.out.call f4)
  clear f4 HB4
  simp only [pairV]
  go_wp2_with fail
  go_ret2
  exact ⟨rfl, HB5.out.fr⟩
end Go.Proofs.Ytmfjadhnbaikkaa
end
section
namespace Go.Proofs.Ytmfjadhnbaikkaa
open Go.RowKit
namespace A
def LeastO (f : Nat) (m : Mac) : Option (Mac × Int) := if valid m = 0 then (match leastO f m with
  | none => none
  | some r => some (r, 0)) else some (⟨0, 0, [], []⟩, 1)
end A
theorem Ints.mono {w : World} {P Q : Nat → Prop} {v : Value} {l : List Int} (h : Ints w P v l) (hPQ : ∀ b, P b → Q b) : Ints w Q v l := by
  obtain ⟨A0, c, e, h⟩ := h
  exact ⟨A0, c, e, fun k hk => by obtain ⟨g, o, h1, h2, h3⟩ := h k hk; exact ⟨g, o, h1, hPQ g h2, h3⟩⟩
theorem Rows2.mono {w : World} {P Q : Nat → Prop} {v : Value} {l : List (List Int)} (h : Rows2 w P v l) (hPQ : ∀ b, P b → Q b) : Rows2 w Q v l := by
  obtain ⟨A0, c, e, h⟩ := h
  exact ⟨A0, c, e, fun k hk => by obtain ⟨g, o, rv, h1, h2, h3, h4⟩ := h k hk; exact ⟨g, o, rv, h1, hPQ g h2, h3, h4.mono hPQ⟩⟩
theorem Bools.mono {w : World} {P Q : Nat → Prop} {v : Value} {l : List Bool} (h : Bools w P v l) (hPQ : ∀ b, P b → Q b) : Bools w Q v l := by
  obtain ⟨A0, c, e, h⟩ := h
  exact ⟨A0, c, e, fun k hk => by obtain ⟨g, o, h1, h2, h3⟩ := h k hk; exact ⟨g, o, h1, hPQ g h2, h3⟩⟩
theorem MachAt.mono {w : World} {P Q : Nat → Prop} {v : Value} {m : A.Mac} (h : MachAt w P v m) (hPQ : ∀ b, P b → Q b) : MachAt w Q v m := by
  obtain ⟨nv, ev, e, h1, h2⟩ := h
  exact ⟨nv, ev, e, h1.mono hPQ, h2.mono hPQ⟩
set_option maxRecDepth 100000 in
set_option maxHeartbeats 8000000 in
theorem Least_any {w : World} {P : Nat → Prop} {v : Value} {m m2 : A.Mac} {f : Nat} {c : Int} (h : MachAt w P v m) (hsz : Sized m) (hfl : f ≤ 100000) (hr : A.LeastO f m = some (m2, c)) :
    Calls Try.prog 12 #[v] w fun e w' => ∃ r, e = .returned (.tuple #[r, .int .i64 c]) ∧ MachAt w' (fun b => w.heap.size ≤ b) r m2 ∧ Frm (fun _ => False) w w' := by
  obtain ⟨A1, c1, A2, c2, rfl⟩ := h.form
  have HRS := Lib.hid hr
  have HSZ := Lib.hid hsz
  have HB0 : Hid (Blk ((w.alloc (.cells #[.int .i64 m.letters, .int .i64 m.start, .slice A1 m.next.length c1, .slice A2 m.fin.length c2] 25)).alloc (.cells #[.int .i64 0, .int .i64 0, .slice none 0 0, .slice none 0 0] 25)) w.heap.size 25 #[.int .i64 m.letters, .int .i64 m.start, .slice A1 m.next.length c1, .slice A2 m.fin.length c2]) := (Blk.new w _ _).alloc _
  have HR0 : Hid (Blk ((w.alloc (.cells #[.int .i64 m.letters, .int .i64 m.start, .slice A1 m.next.length c1, .slice A2 m.fin.length c2] 25)).alloc (.cells #[.int .i64 0, .int .i64 0, .slice none 0 0, .slice none 0 0] 25)) (w.heap.size + 1) 25 #[.int .i64 0, .int .i64 0, .slice none 0 0, .slice none 0 0]) := blk_at (by simp)
  have F0 : Frm (fun _ => False) w ((w.alloc (.cells #[.int .i64 m.letters, .int .i64 m.start, .slice A1 m.next.length c1, .slice A2 m.fin.length c2] 25)).alloc (.cells #[.int .i64 0, .int .i64 0, .slice none 0 0, .slice none 0 0] 25)) := ((Frm.refl _ w).alloc _).alloc _
  have HM := Lib.hid (h.keep0 F0)
  have HF0 := Lib.hid F0
  have HS0 : Hid (w.heap.size + 2 ≤ ((w.alloc (.cells #[.int .i64 m.letters, .int .i64 m.start, .slice A1 m.next.length c1, .slice A2 m.fin.length c2] 25)).alloc (.cells #[.int .i64 0, .int .i64 0, .slice none 0 0, .slice none 0 0] 25)).heap.size) := show _ ≤ _ by simp
  clear F0 h hr hsz
  go_enter Try.func12, Try.ntmps12
  go_wp2_with fail
  refine (valid_any HM.out HSZ.out).mono ?_
  rintro _ w1 ⟨rfl, f1⟩
  have HB1 := Lib.hid (f1.blk HB0.out id)
  have HR1 := Lib.hid (f1.blk HR0.out id)
  have HM1 := Lib.hid (HM.out.keep0 f1)
  have HF1 := Lib.hid (HF0.out.trans f1)
  have HS1 : Hid (w.heap.size + 2 ≤ w1.heap.size) := Nat.le_trans HS0.out f1.1
  clear f1 HB0 HR0 HM HF0 HS0
  have x0 := HB1.out.cell 0
  have x1 := HB1.out.cell 1
  have x2 := HB1.out.cell 2
  have x3 := HB1.out.cell 3
  have r0 := HR1.out.cell 0
  have r1 := HR1.out.cell 1
  have r2 := HR1.out.cell 2
  have r3 := HR1.out.cell 3
  have q0 := HR1.out.frozen 0
  have q1 := HR1.out.frozen 1
  have q2 := HR1.out.frozen 2
  have q3 := HR1.out.frozen 3
  have hrs := HRS.out
  unfold A.LeastO at hrs
  by_cases hv : A.valid m = 0
  · rw [if_pos hv] at hrs
    split at hrs
    · cases hrs
    rename_i r hl
    injection hrs with hrs
    obtain ⟨rfl, rfl⟩ : m2 = r ∧ c = 0 := ⟨(congrArg Prod.fst hrs).symm, (congrArg Prod.snd hrs).symm⟩
    obtain ⟨hfit, hl3, hn⟩ := A.valid_fits hv
    have HL := Lib.hid hl
    have HFI := Lib.hid hfit
    have HLN : Hid (m.next.length ≤ 100000 ∧ m.letters ≤ 300) := ⟨by omega, hl3⟩
    rw [hv]
    clear hrs hl hfit hl3 hn hv HRS
    go_wp2_with fail
    refine (least_any HM1.out HFI.out HLN.out.1 HLN.out.2 hfl HL.out).mono ?_
    rintro _ w2 ⟨r, rfl, m2', f2⟩
    obtain ⟨B1, d1, B2, d2, rfl⟩ := m2'.form
    have HM2 := Lib.hid m2'
    have HR2 := Lib.hid (f2.blk HR1.out id)
    have HF2 := Lib.hid (HF1.out.trans f2)
    have HS2 : Hid (w.heap.size + 2 ≤ w2.heap.size) := Nat.le_trans HS1.out f2.1
    clear f2 m2' x0 x1 x2 x3 r0 r1 r2 r3 q0 q1 q2 q3
    have r0 := HR2.out.cell 0
    have r1 := HR2.out.cell 1
    have r2 := HR2.out.cell 2
    have r3 := HR2.out.cell 3
    have q0 := HR2.out.frozen 0
    have q1 := HR2.out.frozen 1
    have q2 := HR2.out.frozen 2
    have q3 := HR2.out.frozen 3
    go_wp2_with fail
    have h4 := put4_blk (l := .int .i64 m2.letters) (s := .int .i64 m2.start) (n := .slice B1 m2.next.length d1) (e := .slice B2 m2.fin.length d2) HR2.out
    have h5 := put4_frm1 (w := w2) (b := w.heap.size + 1) (l := .int .i64 m2.letters) (s := .int .i64 m2.start) (n := .slice B1 m2.next.length d1) (e := .slice B2 m2.fin.length d2)
    refine bodyPost_ret (w := put4 w2 (w.heap.size + 1) (.int .i64 m2.letters) (.int .i64 m2.start) (.slice B1 m2.next.length d1) (.slice B2 m2.fin.length d2)) (v := .tuple #[.agg #[.int .i64 m2.letters, .int .i64 m2.start, .slice B1 m2.next.length d1, .slice B2 m2.fin.length d2], .int .i64 0]) ?_ rfl ⟨_, rfl, ?_, put4_frm HF2.out (by omega)⟩
    · generalize put4 w2 (w.heap.size + 1) (.int .i64 m2.letters) (.int .i64 m2.start) (.slice B1 m2.next.length d1) (.slice B2 m2.fin.length d2) = w4 at *
      have y0 := h4.cell 0
      have y1 := h4.cell 1
      have y2 := h4.cell 2
      have y3 := h4.cell 3
      simp [results, Try.results12, go_sem, y0, y1, y2, y3]
    · have := HS1.out
      exact (HM2.out.keep h5 fun b hb e => by omega).mono fun b hb => by omega
  · rw [if_neg hv] at hrs
    injection hrs with hrs
    obtain ⟨rfl, rfl⟩ : m2 = ⟨0, 0, [], []⟩ ∧ c = 1 := ⟨(congrArg Prod.fst hrs).symm, (congrArg Prod.snd hrs).symm⟩
    have hv' : (A.valid m != 0) = true := by rw [bne_iff_ne]; exact hv
    clear hv hrs HRS x0 x1 x2 x3
    go_wp2_with fail
    refine bodyPost_ret (w := put4 w1 (w.heap.size + 1) (.int .i64 0) (.int .i64 0) (.slice none 0 0) (.slice none 0 0)) (v := .tuple #[.agg #[.int .i64 0, .int .i64 0, .slice none 0 0, .slice none 0 0], .int .i64 1]) ?_ rfl ⟨_, rfl, ⟨_, _, rfl, ⟨none, 0, rfl, fun k hk => absurd hk (Nat.not_lt_zero _)⟩, ⟨none, 0, rfl, fun k hk => absurd hk (Nat.not_lt_zero _)⟩⟩, put4_frm HF1.out (by omega)⟩
    have h4 := put4_blk (l := .int .i64 0) (s := .int .i64 0) (n := .slice none 0 0) (e := .slice none 0 0) HR1.out
    generalize put4 w1 (w.heap.size + 1) (.int .i64 0) (.int .i64 0) (.slice none 0 0) (.slice none 0 0) = w4 at *
    have y0 := h4.cell 0
    have y1 := h4.cell 1
    have y2 := h4.cell 2
    have y3 := h4.cell 3
    simp [results, Try.results12, go_sem, y0, y1, y2, y3]
end Go.Proofs.Ytmfjadhnbaikkaa
end
section
namespace Go.Proofs.Ytmfjadhnbaikkaa
open Go.RowKit
namespace A
instance : DecidableEq Mac := fun ⟨l, s, n, f⟩ ⟨l', s', n', f'⟩ =>
  if h : l = l' ∧ s = s' ∧ n = n' ∧ f = f' then isTrue (by obtain ⟨rfl, rfl, rfl, rfl⟩ := h; rfl) else isFalse fun e => h (by injection e with a b c d; exact ⟨a, b, c, d⟩)
def evenM : Mac := ⟨1, 0, [[1], [2], [1]], [true, false, true]⟩
def oneM : Mac := ⟨1, 0, [[0]], [true]⟩
theorem least_even : LeastO 20 evenM = some (⟨1, 0, [[1], [0]], [true, false]⟩, 0) := by decide +kernel
theorem diff_even : diffO 20 evenM oneM = some (some ([0], (1, 0))) := by decide +kernel
theorem same_even : diffO 20 evenM ⟨1, 0, [[1], [0]], [true, false]⟩ = some none := by decide +kernel
theorem search_even : searchO (nxtP evenM ⟨1, 0, [[1], [0]], [true, false]⟩) 20 (0, 0) (-1, -1) 1 20000 = some ([(0, 0), (1, 1), (2, 0)], [[1], [2], [1]]) := by decide +kernel
end A
set_option maxRecDepth 100000 in
set_option maxHeartbeats 4000000 in
theorem even_any (w : World) : Calls Try.prog 13 #[] w fun e w' => ∃ r, e = .returned r ∧ MachAt w' (fun b => w.heap.size ≤ b) r A.evenM ∧ Frm (fun _ => False) w w' := by
  go_enter Try.func13, Try.ntmps13
  go_wp2_with fail
  obtain ⟨W, hW⟩ : ∃ W, W = (((((w.alloc (.cells #[.int .i64 1, .int .i64 0, .slice (some ⟨w.heap.size + 1 + 1 + 1 + 1, 0, none⟩) 3 3, .slice (some ⟨w.heap.size + 1 + 1 + 1 + 1 + 1, 0, none⟩) 3 3] 25)).alloc (.cells #[.int .i64 1] 3)).alloc (.cells #[.int .i64 2] 3)).alloc (.cells #[.int .i64 1] 3)).alloc (.cells #[.slice (some ⟨w.heap.size + 1, 0, none⟩) 1 1, .slice (some ⟨w.heap.size + 1 + 1, 0, none⟩) 1 1, .slice (some ⟨w.heap.size + 1 + 1 + 1, 0, none⟩) 1 1] 28)).alloc (.cells #[.bool true, .bool false, .bool true] 4) := ⟨_, rfl⟩
  have b0 : Blk W w.heap.size 25 #[.int .i64 1, .int .i64 0, .slice (some ⟨w.heap.size + 1 + 1 + 1 + 1, 0, none⟩) 3 3, .slice (some ⟨w.heap.size + 1 + 1 + 1 + 1 + 1, 0, none⟩) 3 3] := by rw [hW]; exact (((((Blk.new w _ _).alloc _).alloc _).alloc _).alloc _).alloc _
  have b1 : Blk W (w.heap.size + 1) 3 #[.int .i64 1] := by rw [hW]; exact ((((blk_at (by simp)).alloc _).alloc _).alloc _).alloc _
  have b2 : Blk W (w.heap.size + 1 + 1) 3 #[.int .i64 2] := by rw [hW]; exact (((blk_at (by simp)).alloc _).alloc _).alloc _
  have b3 : Blk W (w.heap.size + 1 + 1 + 1) 3 #[.int .i64 1] := by rw [hW]; exact ((blk_at (by simp)).alloc _).alloc _
  have b4 : Blk W (w.heap.size + 1 + 1 + 1 + 1) 28 #[.slice (some ⟨w.heap.size + 1, 0, none⟩) 1 1, .slice (some ⟨w.heap.size + 1 + 1, 0, none⟩) 1 1, .slice (some ⟨w.heap.size + 1 + 1 + 1, 0, none⟩) 1 1] := by rw [hW]; exact (blk_at (by simp)).alloc _
  have b5 : Blk W (w.heap.size + 1 + 1 + 1 + 1 + 1) 4 #[.bool true, .bool false, .bool true] := by rw [hW]; exact blk_at (by simp)
  have F : Frm (fun _ => False) w W := by rw [hW]; exact ((((((Frm.refl _ w).alloc _).alloc _).alloc _).alloc _).alloc _).alloc _
  rw [← hW]
  clear hW
  have y0 := b0.cell 0
  have y1 := b0.cell 1
  have y2 := b0.cell 2
  have y3 := b0.cell 3
  refine bodyPost_ret (v := .agg #[.int .i64 1, .int .i64 0, .slice (some ⟨w.heap.size + 1 + 1 + 1 + 1, 0, none⟩) 3 3, .slice (some ⟨w.heap.size + 1 + 1 + 1 + 1 + 1, 0, none⟩) 3 3]) (by simp [results, Try.results13, go_sem, y0, y1, y2, y3]) rfl ⟨_, rfl, ⟨_, _, rfl, ⟨_, _, rfl, fun k hk => ?_⟩, ⟨_, _, rfl, fun k hk => ?_⟩⟩, F⟩
  · match k, hk with
    | 0, _ => exact ⟨_, 0, _, rfl, by omega, b4.cell 0, _, _, rfl, fun j hj => by match j, hj with | 0, _ => exact ⟨_, 0, rfl, by omega, b1.cell 0⟩⟩
    | 1, _ => exact ⟨_, 0, _, rfl, by omega, b4.cell 1, _, _, rfl, fun j hj => by match j, hj with | 0, _ => exact ⟨_, 0, rfl, by omega, b2.cell 0⟩⟩
    | 2, _ => exact ⟨_, 0, _, rfl, by omega, b4.cell 2, _, _, rfl, fun j hj => by match j, hj with | 0, _ => exact ⟨_, 0, rfl, by omega, b3.cell 0⟩⟩
  · match k, hk with
    | 0, _ => exact ⟨_, 0, rfl, by omega, b5.cell 0⟩
    | 1, _ => exact ⟨_, 0, rfl, by omega, b5.cell 1⟩
    | 2, _ => exact ⟨_, 0, rfl, by omega, b5.cell 2⟩
end Go.Proofs.Ytmfjadhnbaikkaa
end
section
namespace Go.Proofs.Ytmfjadhnbaikkaa
open Go.RowKit
section
variable {P : Program} {Q : Exit → Act → World → Prop}
theorem getD_setB {l : Array Bool} {i j : Nat} {d : Bool} (h : i < l.size) : (l.setIfInBounds i true).getD j d = if i = j then true else l.getD j d := by
  simp only [Array.getD_eq_getD_getElem?, Array.getElem?_setIfInBounds, h, if_true]
  split <;> simp
theorem count_setB {l : Array Bool} {i : Nat} (h : i < l.size) (hf : l.getD i true = false) : (l.setIfInBounds i true).toList.count false + 1 = l.toList.count false := by
  have h' : i < l.toList.length := by simpa using h
  have e : l.toList[i] = false := by simpa [h] using hf
  rw [Array.toList_setIfInBounds, List.count_set h', e]
  have : 0 < l.toList.count false := List.count_pos_iff.2 (e ▸ List.getElem_mem h')
  rw [if_pos (by rfl), if_neg (by decide)]
  omega
theorem getD_setV {l : Array Value} {i j : Nat} {v d : Value} (h : i < l.size) : (l.setIfInBounds i v).getD j d = if i = j then v else l.getD j d := by
  simp only [Array.getD_eq_getD_getElem?, Array.getElem?_setIfInBounds, h, if_true]
  split <;> simp
theorem fold_set (d : Nat → Nat) (vs : Nat → Value) (t0 : Array Value) : ∀ n, ((List.range n).foldl (fun t i => t.setIfInBounds (d i) (vs i)) t0).size = t0.size ∧ ((∀ i < n, d i < t0.size) → (∀ i < n, ∀ j < n, d i = d j → i = j) → (∀ i < n, ((List.range n).foldl (fun t i => t.setIfInBounds (d i) (vs i)) t0).getD (d i) undef = vs i) ∧ ∀ t, (∀ j < n, d j ≠ t) → ((List.range n).foldl (fun t i => t.setIfInBounds (d i) (vs i)) t0).getD t undef = t0.getD t undef)
  | 0 => ⟨rfl, fun _ _ => ⟨fun _ h => absurd h (by omega), fun _ _ => rfl⟩⟩
  | n + 1 => by
    obtain ⟨h1, h2⟩ := fold_set d vs t0 n
    rw [List.range_succ, List.foldl_append, List.foldl_cons, List.foldl_nil]
    refine ⟨by rw [Array.size_setIfInBounds, h1], fun hl hi => ?_⟩
    obtain ⟨h3, h4⟩ := h2 (fun i h => hl i (by omega)) (fun i h j h' => hi i (by omega) j (by omega))
    refine ⟨fun i h => ?_, fun t ht => ?_⟩
    · rw [getD_setV (by rw [h1]; exact hl n (by omega))]
      by_cases e : d n = d i
      · rw [if_pos e, hi n (by omega) i h e]
      · rw [if_neg e]
        have : i ≠ n := fun h' => e (by rw [h'])
        exact h3 i (by omega)
    · rw [getD_setV (by rw [h1]; exact hl n (by omega)), if_neg (ht n (by omega))]
      exact h4 t (fun j hj => ht j (by omega))
theorem fold_self {n : Nat} {d : Nat → Nat} {t0 tm : Array Value} (hlt : ∀ i < n, d i < t0.size) (hinj : ∀ i < n, ∀ j < n, d i = d j → i = j) (ht : tm.size = t0.size) (hu : ∀ t, (∀ j < n, d j ≠ t) → tm.getD t undef = t0.getD t undef) : (List.range n).foldl (fun t i => t.setIfInBounds (d i) (tm.getD (d i) undef)) t0 = tm := by
  obtain ⟨h2, h3⟩ := fold_set d (fun i => tm.getD (d i) undef) t0 n
  obtain ⟨h4, h5⟩ := h3 hlt hinj
  apply Array.ext
  · rw [h2, ht]
  · intro t ha hb
    have e1 : ∀ (A : Array Value) (h : t < A.size), A[t] = A.getD t undef := fun A h => by simp [h]
    rw [e1, e1]
    by_cases hj : ∃ j, j < n ∧ d j = t
    · obtain ⟨j, hj, rfl⟩ := hj
      exact h4 j hj
    · have hj' : ∀ j < n, d j ≠ t := fun j h e => hj ⟨j, h, e⟩
      rw [h5 t hj', hu t hj']
theorem wp_region_facts {id : Nat} {a0 : Act} {w0 : World} {ops : Array Oper} (d : Nat → Nat) (fact : Nat → Value → World → Prop) (R : World → World → Prop)
    (hm : P.follows .mixedOrders = true) (hd : ∀ i (h : i < ops.size), ops[i].dst = some (d i)) (hinj : ∀ i < ops.size, ∀ j < ops.size, d i = d j → i = j) (hlt : ∀ i < ops.size, d i < a0.tmps.size)
    (haf : ∀ i (h : i < ops.size), ∀ e ∈ ops[i].after, e.on < i ∧ Region.binds .any e = true)
    (hRt : ∀ a b c, R a b → R b c → R a c) (hst : ∀ i v w w', fact i v w → R w w' → fact i v w')
    (hg : ∀ i (h : i < ops.size) j b, ops[i].guard = some (j, b) → (∃ e ∈ ops[i].after, e.on = j) ∧ ∀ v w, fact j v w → v = .bool b)
    (h0 : R w0 { w0 with drawn := w0.drawn + 1 })
    (hstep : ∀ i (h : i < ops.size) (tm : Array Value) w, tm.size = a0.tmps.size → R w0 w → (∀ t, (∀ j < ops.size, d j ≠ t) → tm.getD t undef = a0.tmps.getD t undef) → (∀ e ∈ ops[i].after, fact e.on (tm.getD (d e.on) undef) w) →
      ops[i].wp P ⟨tm, a0.defers⟩ w (fun a' w' => ∃ v, a' = Act.put ⟨tm, a0.defers⟩ (some (d i)) v ∧ fact i v w' ∧ R w w') Q)
    (hend : ∀ (vs : Nat → Value) w, R w0 w → (∀ i < ops.size, fact i (vs i) w) → Q .normal ⟨(List.range ops.size).foldl (fun t i => t.setIfInBounds (d i) (vs i)) a0.tmps, a0.defers⟩ w) :
    (Code.region id ops true).wp P Q a0 w0 := by
  refine wp_region_any hm ?_
  have key : ∀ (fuel : Nat) (listed : Array Bool) (tm : Array Value) (w : World), listed.size = ops.size → listed.toList.count false ≤ fuel → tm.size = a0.tmps.size → R w0 w → (∀ t, (∀ j < ops.size, d j ≠ t) → tm.getD t undef = a0.tmps.getD t undef) → (∀ j < ops.size, listed.getD j true = true → fact j (tm.getD (d j) undef) w) → wpAny P .any ops Q fuel listed ⟨tm, a0.defers⟩ w := by
    have hall : ∀ (listed : Array Bool), listed.size = ops.size → Region.ready .any ops listed = [] → ∀ j < ops.size, listed.getD j true = true := by
      intro listed hs hr j
      induction j using Nat.strongRecOn with
      | _ j ih =>
        intro hj
        rcases hb : listed.getD j true with _ | _
        · exfalso
          have : j ∈ Region.ready .any ops listed := mem_ready.2 ⟨hb, ops[j], by simp [hj], fun e he _ => by
            have h1 := (haf j hj e he).1
            have h2 := ih e.on h1 (by omega)
            have h3 : e.on < listed.size := by omega
            simpa [h3] using h2⟩
          rw [hr] at this
          cases this
        · rfl
    have fin : ∀ (listed : Array Bool) (tm : Array Value) (w : World), listed.size = ops.size → tm.size = a0.tmps.size → R w0 w → (∀ t, (∀ j < ops.size, d j ≠ t) → tm.getD t undef = a0.tmps.getD t undef) → (∀ j < ops.size, listed.getD j true = true → fact j (tm.getD (d j) undef) w) → Region.ready .any ops listed = [] → Q .normal ⟨tm, a0.defers⟩ w := by
      intro listed tm w hs ht hR hu hf hr
      have hl := hall listed hs hr
      have h1 := hend (fun i => tm.getD (d i) undef) w hR (fun i hi => hf i hi (hl i hi))
      rw [fold_self hlt hinj ht hu] at h1
      exact h1
    intro fuel
    induction fuel with
    | zero =>
      intro listed tm w hs hc ht hR hu hf
      have hr : Region.ready .any ops listed = [] := by
        apply List.eq_nil_iff_forall_not_mem.2
        intro i hi
        obtain ⟨hb, o, ho, _⟩ := mem_ready.1 hi
        have hi' : i < ops.size := by
          rcases Nat.lt_or_ge i ops.size with h | h
          · exact h
          · rw [Array.getElem?_eq_none h] at ho; cases ho
        have := count_setB (l := listed) (i := i) (by omega) hb
        omega
      exact ⟨hr, fin listed tm w hs ht hR hu hf hr⟩
    | succ fuel ih =>
      intro listed tm w hs hc ht hR hu hf
      refine ⟨fun hr => fin listed tm w hs ht hR hu hf hr, fun i hi => ?_⟩
      obtain ⟨hb, o, ho, hall'⟩ := mem_ready.1 hi
      have hi' : i < ops.size := by
        rcases Nat.lt_or_ge i ops.size with h | h
        · exact h
        · rw [Array.getElem?_eq_none h] at ho; cases ho
      have heo : ops[i] = o := by rw [Array.getElem?_eq_getElem hi'] at ho; exact Option.some.inj ho
      have hdep : ∀ e ∈ ops[i].after, listed.getD e.on true = true := fun e he => by
        have h1 := haf i hi' e he
        have h2 := hall' e (heo ▸ he) h1.2
        have h3 : e.on < listed.size := by omega
        simpa [h3] using h2
      have hfd : ∀ e ∈ ops[i].after, fact e.on (tm.getD (d e.on) undef) w := fun e he => hf e.on (by have := haf i hi' e he; omega) (hdep e he)
      have hw : Region.wanted ops[i] (yielded ops tm) = true := by
        unfold Region.wanted
        rcases hgu : ops[i].guard with _ | ⟨j, b⟩
        · rfl
        · obtain ⟨⟨e, he, rfl⟩, h2⟩ := hg i hi' j b hgu
          have h3 := h2 _ _ (hfd e he)
          have h4 : e.on < ops.size := by have := haf i hi' e he; omega
          have h5 : yielded ops tm e.on = some b := by
            unfold yielded
            have h6 : d e.on < tm.size := by rw [ht]; exact hlt _ h4
            have h7 : tm[d e.on] = .bool b := by rw [← h3]; simp [h6]
            rw [Array.getElem?_eq_getElem h4, Option.bind_some, hd _ h4, Option.bind_some, Array.getElem?_eq_getElem h6, h7]
          simp only [h5, beq_self_eq_true]
      unfold wpOp
      rw [Array.getElem?_eq_getElem hi']
      dsimp only
      rw [if_pos hw]
      refine .inl (Oper.wp_mono (fun a' w' h' => ?_) (hstep i hi' tm w ht hR hu hfd))
      obtain ⟨v, rfl, hv, hR'⟩ := h'
      have hdi := hlt i hi'
      rw [← ht] at hdi
      refine ih (listed.setIfInBounds i true) (tm.setIfInBounds (d i) v) w' (by simpa using hs) ?_ (by simpa using ht) (hRt _ _ _ hR hR') ?_ ?_
      · have := count_setB (l := listed) (i := i) (by omega) hb
        omega
      · intro t h
        rw [getD_setV hdi, if_neg (h i hi')]
        exact hu t h
      · intro j hj hl
        rw [getD_setV hdi]
        by_cases e : d i = d j
        · rw [if_pos e]
          have := hinj i hi' j hj e
          subst this
          exact hv
        · rw [if_neg e]
          have hij : i ≠ j := fun h => e (by rw [h])
          rw [getD_setB (by omega), if_neg hij] at hl
          exact hst _ _ _ _ (hf j hj hl) hR'
  refine key ops.size _ a0.tmps _ (by simp) (by simp) rfl h0 (fun _ _ => rfl) (fun j hj hl => ?_)
  simp [hj] at hl
/-- Of each operation of a list, by its number. -/
def Each (S : Nat → Oper → Prop) : Nat → List Oper → Prop
  | _, [] => True
  | i, o :: r => S i o ∧ Each S (i + 1) r
theorem Each.get {S : Nat → Oper → Prop} : ∀ {l : List Oper} {k i : Nat} {o : Oper}, Each S k l → l[i]? = some o → S (k + i) o
  | [], _, _, _, _, h => by simp at h
  | a :: l, k, 0, o, he, h => by
    simp only [List.getElem?_cons_zero, Option.some.injEq] at h
    exact h ▸ he.1
  | a :: l, k, i + 1, o, he, h => by
    have := Each.get he.2 (by simpa using h : l[i]? = some o)
    rwa [show k + (i + 1) = k + 1 + i by omega]
def putAll (n : Nat) (d : Nat → Nat) (vs : Nat → Value) (t : Array Value) : Array Value := (List.range n).foldl (fun t i => t.setIfInBounds (d i) (vs i)) t
def factsB (ops : Array Oper) (d : Nat → Nat) (n : Nat) (gs : List (Nat × Bool)) : Bool :=
  (List.range ops.size).all fun i => match ops[i]? with
    | none => false
    | some o => (match o.dst with | some x => x == d i | none => false) && decide (d i < n) && ((List.range ops.size).all fun j => d i != d j || i == j) && (o.after.all fun e => decide (e.on < i) && Region.binds .any e) && (match o.guard with | none => true | some g => gs.contains g && o.after.any fun e => e.on == g.1)
theorem wp_region_told {id : Nat} {a0 : Act} {w0 : World} {ops : Array Oper} (d : Nat → Nat) (fact : Nat → Value → World → Prop) (R : World → World → Prop) (gs : List (Nat × Bool))
    (hm : P.follows .mixedOrders = true) (hB : factsB ops d a0.tmps.size gs = true) (hRt : ∀ a b c, R a b → R b c → R a c) (hst : ∀ i v w w', fact i v w → R w w' → fact i v w')
    (hg : ∀ g ∈ gs, ∀ v w, fact g.1 v w → v = .bool g.2) (h0 : R w0 { w0 with drawn := w0.drawn + 1 })
    (hstep : Each (fun i o => ∀ (vs : Nat → Value) w, R w0 w → (∀ j, (o.after.any fun e => e.on == j) = true → fact j (vs j) w) →
      o.wp P ⟨putAll ops.size d vs a0.tmps, a0.defers⟩ w (fun a' w' => ∃ v, a' = Act.put ⟨putAll ops.size d vs a0.tmps, a0.defers⟩ o.dst v ∧ fact i v w' ∧ R w w') Q) 0 ops.toList)
    (hend : ∀ (vs : Nat → Value) w, R w0 w → (∀ i < ops.size, fact i (vs i) w) → Q .normal ⟨putAll ops.size d vs a0.tmps, a0.defers⟩ w) : (Code.region id ops true).wp P Q a0 w0 := by
  unfold factsB at hB
  rw [List.all_eq_true] at hB
  have hB' : ∀ i (h : i < ops.size), (match ops[i].dst with | some x => x == d i | none => false) = true ∧ d i < a0.tmps.size ∧ (∀ j < ops.size, d i = d j → i = j) ∧ (∀ e ∈ ops[i].after, e.on < i ∧ Region.binds .any e = true) ∧ (match ops[i].guard with | none => true | some g => gs.contains g && ops[i].after.any fun e => e.on == g.1) = true := fun i h => by
    have h1 := hB i (List.mem_range.2 h)
    rw [Array.getElem?_eq_getElem h] at h1
    simp only [Bool.and_eq_true, decide_eq_true_eq, List.all_eq_true, List.mem_range, Bool.or_eq_true, bne_iff_ne, beq_iff_eq, Array.all_eq_true_iff_forall_mem] at h1
    obtain ⟨⟨⟨⟨h2, h3⟩, h4⟩, h5⟩, h6⟩ := h1
    exact ⟨h2, h3, fun j hj e => (h4 j hj).elim (fun h => absurd e h) (fun h => h), h5, h6⟩
  have hd : ∀ i (h : i < ops.size), ops[i].dst = some (d i) := fun i h => by
    have h1 := (hB' i h).1
    split at h1
    · rename_i x hx
      rw [hx, beq_iff_eq.1 h1]
    · cases h1
  have hlt : ∀ i < ops.size, d i < a0.tmps.size := fun i h => (hB' i h).2.1
  have hinj : ∀ i < ops.size, ∀ j < ops.size, d i = d j → i = j := fun i h => (hB' i h).2.2.1
  refine wp_region_facts d fact R hm hd hinj hlt (fun i h => (hB' i h).2.2.2.1) hRt hst (fun i h j b hgu => ?_) h0 (fun i h tm w ht hR hu hf => ?_) hend
  · have h1 := (hB' i h).2.2.2.2
    rw [hgu] at h1
    simp only [Bool.and_eq_true, List.contains_iff_mem] at h1
    obtain ⟨e, he, he'⟩ := Array.any_eq_true'.1 h1.2
    exact ⟨⟨e, he, by simpa using he'⟩, fun v w hv => hg _ h1.1 v w hv⟩
  · have h1 := Each.get hstep (i := i) (o := ops[i]) (by simp [h]) (fun j => tm.getD (d j) undef) w hR (fun j hj => by
      obtain ⟨e, he, he'⟩ := Array.any_eq_true'.1 hj
      have := hf e he
      rwa [show e.on = j by simpa using he'] at this)
    unfold putAll at h1
    rw [fold_self hlt hinj ht hu, Nat.zero_add, hd i h] at h1
    exact h1
/-- No fact. -/
def noF : Value → World → Prop := fun _ _ => False
/-- The law as a walk uses it: the slots and the facts as lists, what the walk knows of the other slots, each operation at whatever frame. -/
theorem wp_region_list {id : Nat} {a0 : Act} {w0 : World} {ops : Array Oper} (ds : List Nat) (L : List (Value → World → Prop)) (R : World → World → Prop) (gs : List (Nat × Bool)) (fix : List (Nat × Value))
    (hm : P.follows .mixedOrders = true) (hB : (factsB ops (fun i => ds.getD i 0) a0.tmps.size gs && decide (ds.length = ops.size) && decide (L.length = ops.size)) = true) (hRt : ∀ a b c, R a b → R b c → R a c) (hst : ∀ f ∈ L, ∀ v w w', f v w → R w w' → f v w')
    (hg : ∀ g ∈ gs, ∀ v w, L.getD g.1 noF v w → v = .bool g.2) (h0 : R w0 { w0 with drawn := w0.drawn + 1 }) (hfix : ∀ x ∈ fix, x.1 ∉ ds ∧ a0.tmps[x.1]?.getD undef = x.2)
    (hstep : Each (fun i o => ∀ (Q : Exit → Act → World → Prop) (tm : Array Value) (df : List Deferred) w, R w0 w → (∀ x ∈ fix, tm[x.1]?.getD undef = x.2) → (∀ j, (o.after.any fun e => e.on == j) = true → L.getD j noF (tm[ds.getD j 0]?.getD undef) w) →
      o.wp P ⟨tm, df⟩ w (fun a' w' => ∃ v, a' = Act.put ⟨tm, df⟩ o.dst v ∧ L.getD i noF v w' ∧ R w w') Q) 0 ops.toList)
    (hend : ∀ (vs : Nat → Value) w, R w0 w → (∀ i < ops.size, L.getD i noF (vs i) w) → Q .normal ⟨putAll ops.size (fun i => ds.getD i 0) vs a0.tmps, a0.defers⟩ w) : (Code.region id ops true).wp P Q a0 w0 := by
  simp only [Bool.and_eq_true, decide_eq_true_eq] at hB
  obtain ⟨⟨hB1, hB2⟩, hB3⟩ := hB
  have hst' : ∀ i v w w', L.getD i noF v w → R w w' → L.getD i noF v w' := fun i v w w' h F => by
    by_cases hi : i < L.length
    · have e : L.getD i noF = L[i] := by simp [hi]
      rw [e] at h ⊢
      exact hst _ (List.getElem_mem hi) v w w' h F
    · have e : L.getD i noF = noF := by simp [Nat.le_of_not_lt hi]
      rw [e] at h
      exact h.elim
  refine wp_region_told (fun i => ds.getD i 0) (fun i => L.getD i noF) R gs hm hB1 hRt hst' hg h0 ?_ hend
  have key : ∀ (l : List Oper) (k : Nat), Each (fun i o => ∀ (Q : Exit → Act → World → Prop) (tm : Array Value) (df : List Deferred) w, R w0 w → (∀ x ∈ fix, tm[x.1]?.getD undef = x.2) → (∀ j, (o.after.any fun e => e.on == j) = true → L.getD j noF (tm[ds.getD j 0]?.getD undef) w) →
      o.wp P ⟨tm, df⟩ w (fun a' w' => ∃ v, a' = Act.put ⟨tm, df⟩ o.dst v ∧ L.getD i noF v w' ∧ R w w') Q) k l → (∀ o ∈ l, ∃ i, ∃ h : i < ops.size, ops[i] = o) → Each (fun i o => ∀ (vs : Nat → Value) w, R w0 w → (∀ j, (o.after.any fun e => e.on == j) = true → L.getD j noF (vs j) w) →
      o.wp P ⟨putAll ops.size (fun i => ds.getD i 0) vs a0.tmps, a0.defers⟩ w (fun a' w' => ∃ v, a' = Act.put ⟨putAll ops.size (fun i => ds.getD i 0) vs a0.tmps, a0.defers⟩ o.dst v ∧ L.getD i noF v w' ∧ R w w') Q) k l := by
    have hall : ∀ (vs : Nat → Value), (∀ i < ops.size, (putAll ops.size (fun i => ds.getD i 0) vs a0.tmps).getD (ds.getD i 0) undef = vs i) ∧ ∀ t, t ∉ ds → (putAll ops.size (fun i => ds.getD i 0) vs a0.tmps).getD t undef = a0.tmps.getD t undef := fun vs => by
      have hB' := hB1
      unfold factsB at hB'
      rw [List.all_eq_true] at hB'
      have h1 : (∀ i < ops.size, ds.getD i 0 < a0.tmps.size) ∧ ∀ i < ops.size, ∀ j < ops.size, ds.getD i 0 = ds.getD j 0 → i = j := by
        refine ⟨fun i hi => ?_, fun i hi j hj e => ?_⟩
        · have h1 := hB' i (List.mem_range.2 hi)
          rw [Array.getElem?_eq_getElem hi] at h1
          simp only [Bool.and_eq_true, decide_eq_true_eq] at h1
          exact h1.1.1.1.2
        · have h1 := hB' i (List.mem_range.2 hi)
          rw [Array.getElem?_eq_getElem hi] at h1
          simp only [Bool.and_eq_true, List.all_eq_true, List.mem_range, Bool.or_eq_true, bne_iff_ne, beq_iff_eq] at h1
          exact (h1.1.1.2 j hj).elim (fun h => absurd e h) (fun h => h)
      obtain ⟨_, h2⟩ := fold_set (fun i => ds.getD i 0) vs a0.tmps ops.size
      obtain ⟨h3, h4⟩ := h2 h1.1 h1.2
      refine ⟨h3, fun t ht => h4 t fun j hj e => ht ?_⟩
      have : j < ds.length := by omega
      have e2 : ds.getD j 0 = ds[j] := by simp [this]
      rw [e2] at e
      exact e ▸ List.getElem_mem this
    intro l
    induction l with
    | nil => intro k _ _; trivial
    | cons o r ih =>
      intro k h hl
      refine ⟨fun vs w hR hd => ?_, ih (k + 1) h.2 fun o' ho' => hl o' (List.mem_cons_of_mem _ ho')⟩
      obtain ⟨h3, h4⟩ := hall vs
      refine h.1 Q (putAll ops.size (fun i => ds.getD i 0) vs a0.tmps) a0.defers w hR (fun x hx => ?_) fun j hj => ?_
      · obtain ⟨h5, h6⟩ := hfix x hx
        have := h4 x.1 h5
        simp only [Array.getD_eq_getD_getElem?] at this
        rw [this, h6]
      · have hj2 : j < ops.size := by
          obtain ⟨i, hi, rfl⟩ := hl o List.mem_cons_self
          have hB' := hB1
          unfold factsB at hB'
          rw [List.all_eq_true] at hB'
          have h1 := hB' i (List.mem_range.2 hi)
          rw [Array.getElem?_eq_getElem hi] at h1
          simp only [Bool.and_eq_true, Array.all_eq_true_iff_forall_mem, decide_eq_true_eq] at h1
          obtain ⟨e, he, he'⟩ := Array.any_eq_true'.1 hj
          have := (h1.1.2 e he).1
          have he'' : e.on = j := by simpa using he'
          omega
        have := h3 j hj2
        simp only [Array.getD_eq_getD_getElem?] at this
        rw [this]
        exact hd j hj
  exact key _ _ hstep fun o ho => by
    obtain ⟨i, hi, e⟩ := List.getElem_of_mem ho
    exact ⟨i, by simpa using hi, by simpa using e⟩
end
end Go.Proofs.Ytmfjadhnbaikkaa
end
