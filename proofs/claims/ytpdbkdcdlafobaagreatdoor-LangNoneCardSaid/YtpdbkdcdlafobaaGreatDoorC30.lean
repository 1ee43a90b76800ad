/- kept: a copy of nodes that shares no memory. What stays when cells of some blocks are written over; how many parameters and kids nodes have. The row and the card of LangNone, given what the call comes to. Contracts of the program's functions, with no condition beyond what each theorem states. -/
import Derived.Test.YtpdbkdcdlafobaaGreatDoorC29
import Derived.Test.YtpdbkdcdlafobaaGreatDoorC25
import Derived.Test.YtpdbkdcdlafobaaGreatDoorC26
import Derived.Test.YtpdbkdcdlafobaaGreatDoorCards
import Derived.ChangeMaps5
section
namespace Go.Proofs.YtpdbkdcdlafobaaGreatDoor
open Go.RowKit
theorem nats_one (l : List Nat) : ∀ u ∈ nats l, u.oneCell' = true := by
  intro u hu
  obtain ⟨k, _, rfl⟩ := List.mem_map.1 hu
  rfl
theorem slice_one {w : World} {base size n : Nat} {e : TypeId} {v : Value} {xs : List Value} (h : w.ownsRow base e size v n xs) : v.oneCell' = true := by
  obtain ⟨A, c, rfl⟩ := own_form h
  rfl
theorem Nds.one {w : World} {B : Nat → Prop} : ∀ {ds : List L.Nd} {cs : List Value}, Nds w B ds cs → ∀ u ∈ cs, u.oneCell' = true
  | [], _, h => by
    have h : _ = [] := h
    subst h; intro u hu; cases hu
  | d :: ds, _, ⟨pv, kv, cs', e, h1, _, h3, _, h5⟩ => by
    subst e
    intro u hu
    have ih := Nds.one h5
    simp only [List.mem_cons] at hu
    rcases hu with rfl | rfl | rfl | rfl | rfl | rfl | rfl | hu
    · rfl
    · rfl
    · rfl
    · rfl
    · exact slice_one h1
    · rfl
    · exact slice_one h3
    · exact ih u hu
theorem take_set7 {cs : List Value} {n k : Nat} {a b c d r : Value} (pv kv : Value) (hl : cs.length = n * 7) (hk : k < n) (h0 : cs[k * 7]? = some a) (h1 : cs[k * 7 + 1]? = some b) (h2 : cs[k * 7 + 2]? = some c) (h3 : cs[k * 7 + 3]? = some d) (h5 : cs[k * 7 + 5]? = some r) :
    ((cs.set (k * 7 + 6) kv).set (k * 7 + 4) pv).take ((k + 1) * 7) = cs.take (k * 7) ++ [a, b, c, d, pv, r, kv] := by
  apply List.ext_getElem?
  intro j
  rw [List.getElem?_take, List.getElem?_set, List.getElem?_set, List.getElem?_append]
  simp only [List.length_take, List.getElem?_take, List.length_set]
  by_cases h : j < k * 7
  · rw [if_pos (by omega), if_neg (by omega), if_neg (by omega), if_pos (by omega), if_pos h]
  · rw [if_neg (c := j < min (k * 7) cs.length) (by omega)]
    rw [show min (k * 7) cs.length = k * 7 from by omega]
    obtain rfl | rfl | rfl | rfl | rfl | rfl | rfl | hj : j = k * 7 ∨ j = k * 7 + 1 ∨ j = k * 7 + 2 ∨ j = k * 7 + 3 ∨ j = k * 7 + 4 ∨ j = k * 7 + 5 ∨ j = k * 7 + 6 ∨ k * 7 + 7 ≤ j := by omega
    · rw [if_pos (by omega), if_neg (by omega), if_neg (by omega), h0]; simp
    · rw [if_pos (by omega), if_neg (by omega), if_neg (by omega), h1]; simp
    · rw [if_pos (by omega), if_neg (by omega), if_neg (by omega), h2]; simp
    · rw [if_pos (by omega), if_neg (by omega), if_neg (by omega), h3]; simp
    · rw [if_pos (by omega), if_pos rfl, if_pos (by omega)]; simp
    · rw [if_pos (by omega), if_neg (by omega), if_neg (by omega), h5]; simp
    · rw [if_pos (by omega), if_neg (by omega), if_pos rfl, if_pos (by omega)]; simp
    · rw [if_neg (by omega), List.getElem?_eq_none (by simp; omega)]
theorem own_keeps {w : World} {base size n : Nat} {t e : TypeId} {g c : Nat} {xs : List Value} (h : w.ownsRow base t size (.slice (some ⟨g, 0, none⟩) n c) n xs) (hne : t ≠ e) (i : Nat) (u : Value) : Keeps e w (w.setCell ⟨g, i, none⟩ u) := by
  rcases h.2 with ⟨h, _⟩ | ⟨g', cap', cur', h, _, hg, _⟩
  · cases h
  · injection h with h; injection h with h; injection h with h
    subst h
    exact (Keeps.refl _ w).set_ hg hne _ _
set_option maxRecDepth 100000 in
set_option maxHeartbeats 8000000 in
theorem kept_any {w : World} {lo : Nat} {B : Nat → Prop} {v : Value} {ds : List L.Nd} {cs : List Value} (ho : w.ownsRow lo 47 7 v ds.length cs) (hd : Nds w B ds cs) (hn : ds.length ≤ 100000) (hp : ∀ d ∈ ds, d.params.length ≤ 1000) (hkd : ∀ d ∈ ds, d.kids.length ≤ 1000000) :
    Calls Tryz.prog 13 #[v] w fun e w' => ∃ v' cs', e = .returned v' ∧ w'.ownsRow w.heap.size 47 7 v' ds.length cs' ∧ Nds w' (w.heap.size ≤ ·) ds cs' ∧ Frm (fun _ => False) w w' := by
  obtain ⟨A, c, rfl⟩ := own_form ho
  have F0 : Frm (fun _ => False) w (w.alloc (.cells #[] 47)) := (Frm.refl _ w).alloc _
  have hsrc := F0.row ho (fun _ _ h => h) (Nat.zero_le _)
  have HO := Lib.hid ho
  have HD := Lib.hid hd
  have HP := Lib.hid hp
  have HKD := Lib.hid hkd
  have HF0 := Lib.hid F0
  have hone := hd.one
  clear ho hd hp hkd F0
  go_enter Tryz.func13, Tryz.ntmps13
  obtain ⟨i0, hi, hz0, hz1, hz2⟩ := info_parts info_node
  go_wp2_with (at_builtin; refine wpList_append_src rfl _ _ 27 rfl w.heap.size 0 47 i0 (.agg #[.int .i64 0, .int .i64 0, .string ⟨#[]⟩, .int .i64 0, .slice none 0 0, .int .i64 0, .slice none 0 0]) 7 96 Tryz.underlying27 hi hz0 hz1 hz2 rfl (by decide) _ _ _ rfl (own_empty w _ _) _ _ _ rfl hsrc hone ?c1 ?c2 ?c3 ?_)
  case c1 => unfold maxLen; omega
  case c2 => omega
  case c3 => simp
  intro v1 w1 ho1 hg1
  obtain ⟨A1, c1, rfl⟩ : ∃ A c, v1 = .slice A ds.length c := by
    have h : w1.ownsRow w.heap.size 47 7 v1 ds.length cs := by simpa using ho1
    exact own_form h
  have F1 : Frm (fun _ => False) w w1 := HF0.out.own (own_empty w 47 7) hg1
  have ho1' : w1.ownsRow w.heap.size 47 7 (.slice A1 ds.length c1) ds.length cs := by simpa using ho1
  have HO1 := Lib.hid ho1'
  clear ho1'
  have HF1 := Lib.hid F1
  clear ho1 hg1 F1 hsrc hone hi hz0 hz1 hz2
  go_wp2_with fail
  go_loopg [4] (ds.length + 1) (fun n i wr => ∃ (k : Nat) (cs' : List Value), k ≤ ds.length ∧ n = ds.length + 1 - k ∧ i = .int .i64 (k : Int) ∧ Hid (wr.ownsRow w.heap.size 47 7 (.slice A1 ds.length c1) ds.length cs') ∧ Hid (Nds wr (w.heap.size ≤ ·) (ds.take k) (cs'.take (k * 7))) ∧ Hid (cs'.drop (k * 7) = cs.drop (k * 7)) ∧ Hid (Frm (fun _ => False) w wr))
  case atStart => exact ⟨0, cs, Nat.zero_le _, rfl, rfl, HO1, rfl, rfl, HF1⟩
  case round =>
    obtain ⟨k, cs', hk, rfl, rfl, HW, HK, HR, HF⟩ := hrel
    by_cases hlt : k < ds.length
    · obtain ⟨pv, kv, p0, p1, p2, p3, p4, p5, p6, q1, _, q2, _⟩ := HD.out.at_ hlt
      have hl' : cs'.length = ds.length * 7 := HW.out.1
      have e1 : ∀ j, cs'[k * 7 + j]? = cs[k * 7 + j]? := fun j => by rw [← List.getElem?_drop, HR.out, List.getElem?_drop]
      have r0 : cs'[k * 7]? = _ := (e1 0).trans p0
      have HP6 := Lib.hid (And.intro r0 (And.intro ((e1 1).trans p1) (And.intro ((e1 2).trans p2) (And.intro ((e1 3).trans p3) (And.intro ((e1 4).trans p4) (And.intro ((e1 5).trans p5) ((e1 6).trans p6)))))))
      obtain ⟨g0, hg0⟩ : ∃ g, A = some ⟨g, 0, none⟩ := by
        rcases HO.out.2 with ⟨_, h0⟩ | ⟨g, _, _, h0, _⟩
        · omega
        · injection h0 with h0 _ _; exact ⟨g, h0⟩
      obtain ⟨g, hg⟩ : ∃ g, A1 = some ⟨g, 0, none⟩ := by
        rcases HO1.out.2 with ⟨_, h0⟩ | ⟨g, _, _, h0, _⟩
        · omega
        · injection h0 with h0 _ _; exact ⟨g, h0⟩
      subst hg0 hg
      have ca6 := @World.ownsRow.cells _ _ _ _ _ _ _ HO.out g0 rfl _ _ p6
      have ca4 := @World.ownsRow.cells _ _ _ _ _ _ _ HO.out g0 rfl _ _ p4
      rw [add_zero_off] at ca6 ca4
      have d6 := HF.out.cell id ca6
      have d4 := HF.out.cell id ca4
      have hpl := HP.out _ (List.getElem_mem hlt)
      have hkl := HKD.out _ (List.getElem_mem hlt)
      obtain ⟨Ap, cp, rfl⟩ := own_form q1
      obtain ⟨Ak, ck, rfl⟩ := own_form q2
      have FA : Frm (fun _ => False) wr (wr.alloc (.cells #[] 3)) := (Frm.refl _ wr).alloc _
      have hsrc := (HF.out.trans FA).row q2 (fun _ _ h => h) (Nat.zero_le _)
      have d6' : (wr.alloc (.cells #[] 3)).cell? ⟨g0, k * 7 + 6, none⟩ = _ := FA.cell id d6
      obtain ⟨i0, hi, hz0, hz1, hz2⟩ := info_parts info_int
      have hlt' : (k : Int) < (ds.length : Int) := by omega
      have HQ1 := Lib.hid q1
      have HFA := Lib.hid FA
      have HL := Lib.hid hl'
      have HC4 := Lib.hid ca4
      clear p0 p1 p2 p3 p4 p5 p6 e1 r0 ca6 ca4 q1 q2 FA hl' d4
      go_wp2_with (at_builtin; refine wpList_append_src rfl _ _ 45 rfl wr.heap.size 0 3 i0 (.int .i64 0) 1 8 Tryz.underlying45 hi hz0 hz1 hz2 rfl (by decide) _ _ _ rfl (own_empty wr _ _) _ _ _ rfl hsrc (nats_one _) ?d1 ?d2 ?d3 ?_)
      case d1 => unfold maxLen; omega
      case d2 => omega
      case d3 => simp
      intro v3 w3 ho3 hgr3
      have ho3' : w3.ownsRow wr.heap.size 3 1 v3 ds[k].kids.length (nats ds[k].kids) := by simpa using ho3
      obtain ⟨A3, c3, rfl⟩ := own_form ho3'
      have f3 : Frm (fun _ => False) wr w3 := HFA.out.own (own_empty wr 3 1) hgr3
      have hown3 := f3.row HW.out (fun _ _ => id) (Nat.le_refl _)
      have z3 := hown3.frozenAt (k * 7 + 6)
      have c3' := @World.ownsRow.cells _ _ _ _ _ _ _ hown3 g rfl _ _ HP6.out.2.2.2.2.2.2
      rw [add_zero_off] at c3'
      have HT3 := Lib.hid ho3'
      have HF3 := Lib.hid f3
      have HOW := Lib.hid hown3
      have hge := own_ge HW.out g rfl
      clear ho3 ho3' hgr3 f3 hown3 hsrc d6' d6 hi hz0 hz1 hz2
      obtain ⟨hst4, hgr4⟩ := HOW.out.stored (k * 7 + 6) (.slice A3 ds[k].kids.length c3)
      have F4 : Frm (fun _ => False) w (w3.setCell ⟨g, k * 7 + 6, none⟩ (.slice A3 ds[k].kids.length c3)) := (HF.out.trans HF3.out).set_ (fun h => by simp at h; omega) _
      have F4a := F4.alloc (.cells #[] 49)
      have hsrc2 := F4a.row HQ1.out (fun _ _ h => h) (Nat.zero_le _)
      have d4' := F4a.cell id HC4.out
      have oe : ((w3.setCell ⟨g, k * 7 + 6, none⟩ (.slice A3 ds[k].kids.length c3)).alloc (.cells #[] 49)).ownsRow w3.heap.size 49 2 (.slice (some ⟨w3.heap.size, 0, none⟩) 0 0) 0 [] := by
        have h := own_empty (w3.setCell ⟨g, k * 7 + 6, none⟩ (.slice A3 ds[k].kids.length c3)) 49 2
        simpa using h
      have K4i := own_keeps HOW.out (show 47 ≠ 3 by decide) (k * 7 + 6) (.slice A3 ds[k].kids.length c3)
      have K4p := own_keeps HOW.out (show 47 ≠ 49 by decide) (k * 7 + 6) (.slice A3 ds[k].kids.length c3)
      have HST4 := Lib.hid hst4
      have HF4 := Lib.hid F4
      have HF4a := Lib.hid F4a
      have HOE := Lib.hid oe
      have HK4 := Lib.hid (And.intro K4i K4p)
      obtain ⟨i1, hi', hz0', hz1', hz2'⟩ := info_parts info_param
      clear hst4 hgr4 F4 F4a K4i K4p oe
      go_wp2_with (at_builtin; refine wpList_append_src rfl _ _ 44 rfl w3.heap.size 0 49 i1 (.agg #[.string ⟨#[]⟩, .int .i64 0]) 2 24 Tryz.underlying44 hi' hz0' hz1' hz2' rfl (by decide) _ _ _ rfl HOE.out _ _ _ rfl hsrc2 (prs_one _) ?e1 ?e2 ?e3 ?_)
      case e1 => unfold maxLen; omega
      case e2 => omega
      case e3 => simp
      intro v5 w5 ho5 hgr5
      have ho5' : w5.ownsRow w3.heap.size 49 2 v5 ds[k].params.length (prs ds[k].params) := by simpa using ho5
      obtain ⟨A5, c5, rfl⟩ := own_form ho5'
      have f5 : Frm (fun _ => False) (w3.setCell ⟨g, k * 7 + 6, none⟩ (.slice A3 ds[k].kids.length c3)) w5 := by
        refine ((Frm.refl _ _).alloc (.cells #[] 49)).grown hgr5 fun g hg hlt => ?_
        simp [Value.ownBlock] at hg
        subst hg
        simp at hlt
      have hown5 := f5.row HST4.out (fun _ _ => id) (Nat.le_refl _)
      have z5 := hown5.frozenAt (k * 7 + 4)
      have r4 : (cs'.set (k * 7 + 6) (.slice A3 ds[k].kids.length c3))[k * 7 + 4]? = some (.slice Ap ds[k].params.length cp) := by rw [List.getElem?_set_ne (by omega)]; exact HP6.out.2.2.2.2.1
      have c5' := @World.ownsRow.cells _ _ _ _ _ _ _ hown5 g rfl _ _ r4
      rw [add_zero_off] at c5'
      have HT5 := Lib.hid ho5'
      have HF5 := Lib.hid f5
      have HOW5 := Lib.hid hown5
      have hs3 := HF3.out.1
      have hs0 := HF.out.1
      clear ho5 ho5' hgr5 f5 hown5 hsrc2 d4' hi' hz0' hz1' hz2' r4 z3 c3'
      go_wp2_with fail
      obtain ⟨hst, hgr⟩ := HOW5.out.stored (k * 7 + 4) (.slice A5 ds[k].params.length c5)
      have fs : Frm (fun _ => False) w (w5.setCell ⟨g, k * 7 + 4, none⟩ (.slice A5 ds[k].params.length c5)) := (HF4.out.trans HF5.out).set_ (fun h => by simp at h; omega) _
      have K5i := own_keeps HOW5.out (show 47 ≠ 3 by decide) (k * 7 + 4) (.slice A5 ds[k].params.length c5)
      have K5p := own_keeps HOW5.out (show 47 ≠ 49 by decide) (k * 7 + 4) (.slice A5 ds[k].params.length c5)
      have KI := (HK4.out.1.trans HF5.out.keeps0).trans K5i
      have KP := (HK4.out.2.trans HF5.out.keeps0).trans K5p
      go_roundg (ds.length + 1 - (k + 1))
      case measure => omega
      case rel =>
        refine ⟨k + 1, _, by omega, rfl, by go_num, hst, ?_, ?_, fs⟩
        · refine show Nds _ _ _ _ from ?_
          have hone : Nds (w5.setCell ⟨g, k * 7 + 4, none⟩ (.slice A5 ds[k].params.length c5)) (w.heap.size ≤ ·) [ds[k]] [.int .i64 ds[k].kind, .int .i64 ds[k].type, .string (str ds[k].name), .int .i64 ds[k].value, .slice A5 ds[k].params.length c5, .int .i64 ds[k].result, .slice A3 ds[k].kids.length c3] :=
            ⟨_, _, [], rfl, own_base (K5p.row HT5.out) (Nat.zero_le _), fun b hb => Nat.le_trans (Nat.le_trans hs0 hs3) (own_ge HT5.out b hb), own_base (KI.row HT3.out) (Nat.zero_le _), fun b hb => Nat.le_trans hs0 (own_ge HT3.out b hb), rfl⟩
          have hpre := (HK.out.keepT HF3.out.keeps0 HF3.out.keeps0).keepT KP KI
          have hall := Nds.append hone hpre
          rw [List.take_succ_eq_append_getElem hlt]
          refine Eq.mp (congrArg _ ?_) hall
          exact (take_set7 _ _ HL.out hlt HP6.out.1 HP6.out.2.1 HP6.out.2.2.1 HP6.out.2.2.2.1 HP6.out.2.2.2.2.2.1).symm
        · refine show _ = _ from ?_
          rw [List.drop_set_of_lt (by omega), List.drop_set_of_lt (by omega)]
          rw [show (k + 1) * 7 = k * 7 + 7 from by omega, ← List.drop_drop, HR.out, List.drop_drop]
    · have hlt' : ¬ (k : Int) < (ds.length : Int) := by omega
      go_wp2_with fail
      go_ret
      have e : k = ds.length := by omega
      subst e
      have h1 := HK.out
      rw [List.take_length, List.take_of_length_le (by have := HW.out.1; omega)] at h1
      exact ⟨_, rfl, _, HW.out, h1, HF.out⟩
end Go.Proofs.YtpdbkdcdlafobaaGreatDoor
end
section
namespace Go.Proofs.YtpdbkdcdlafobaaGreatDoor
open Go.RowKit
/-- Cells of blocks of E have been written over; at the block g those of fs stay. -/
structure Ow (E : Nat → Prop) (g : Nat) (fs : Nat → Prop) (W w : World) : Prop where
  fr : Frm E W w
  al : ∀ (b : Nat) (t : TypeId) (cur : Array Value), Blk W b t cur → ∃ cur', Blk w b t cur' ∧ cur'.size = cur.size
  nc : ∀ j, fs j → w.cell? ⟨g, j, none⟩ = W.cell? ⟨g, j, none⟩
section
variable {E : Nat → Prop} {g : Nat} {fs : Nat → Prop} {W w : World}
theorem Ow.refl (E : Nat → Prop) (g : Nat) (fs : Nat → Prop) (W : World) : Ow E g fs W W := ⟨Frm.refl _ _, fun _ _ cur h => ⟨cur, h, rfl⟩, fun _ _ => rfl⟩
theorem Ow.drew (h : Ow E g fs W w) : Ow E g fs W w.drew := ⟨h.fr.drew, h.al, h.nc⟩
theorem Ow.set_ (h : Ow E g fs W w) {b i : Nat} (u : Value) (hE : b < W.heap.size → E b) (hne : b ≠ g ∨ ¬ fs i) : Ow E g fs W (w.setCell ⟨b, i, none⟩ u) := by
  refine ⟨h.fr.set_ (p := ⟨b, i, none⟩) hE u, fun b' t cur hb => ?_, fun j hj => ?_⟩
  · obtain ⟨cur', h1, h2⟩ := h.al b' t cur hb
    by_cases e : b' = b
    · subst e
      exact ⟨_, h1.set_ i u, by simp [h2]⟩
    · exact ⟨cur', h1.far (p := ⟨b, i, none⟩) e u, h2⟩
  · have ha : (⟨b, i, none⟩ : Addr) ≠ ⟨g, j, none⟩ := fun e => by
      injection e with e1 e2 _
      rcases hne with h | h
      · exact h e1
      · exact h (e2 ▸ hj)
    rw [World.cell?_setCell_other (h := ha)]
    exact h.nc j hj
/-- A row of another type can be written over at each of its places. -/
theorem Ow.row {base size n : Nat} {t : TypeId} {v : Value} {xs : List Value} (h : Ow E g fs W w) (ho : W.ownsRow base t size v n xs) : ∃ A c, v = .slice A n c ∧ ∀ j, j < n * size → ∃ b u, A = some ⟨b, 0, none⟩ ∧ base ≤ b ∧ b < W.heap.size ∧ (∃ cur, Blk W b t cur) ∧ w.cell? ⟨b, j, none⟩ = some u ∧ w.frozen? ⟨b, j, none⟩ = false := by
  rcases ho.2 with ⟨rfl, hn⟩ | ⟨b, cap, cur, rfl, h1, h2, h3, _, h5, _⟩
  · exact ⟨none, 0, by rw [hn], fun j hj => by simp [hn] at hj⟩
  · refine ⟨_, cap, rfl, fun j hj => ?_⟩
    have hb : Blk W b t cur := h2
    obtain ⟨cur', h6, h7⟩ := h.al b t cur hb
    have hlt : j < cur'.size := by
      have := Nat.mul_le_mul_right size h3
      omega
    exact ⟨b, cur'[j], rfl, h1, hb.lt, ⟨cur, hb⟩, (h6.cell j).trans (Array.getElem?_eq_getElem hlt), h6.frozen j⟩
theorem blk_ne {b g : Nat} {t t' : TypeId} {cs cs' : Array Value} (h : Blk W b t cs) (h' : Blk W g t' cs') (hne : t ≠ t') : b ≠ g := by
  intro e
  subst e
  unfold Blk at h h'
  rw [h] at h'
  injection h' with h'
  injection h' with _ h' _
  exact hne h'
end
theorem row_form {w : World} {lo size n : Nat} {e : TypeId} {v : Value} {cs : List Value} (h : w.ownsRow lo e size v n cs) : ∃ A c, v = .slice A n c ∧ (∀ k u, cs[k]? = some u → ∃ g, A = some ⟨g, 0, none⟩ ∧ w.cell? ⟨g, k, none⟩ = some u) := by
  have hc := @World.ownsRow.cells _ _ _ _ _ _ _ h
  rcases h.2 with ⟨rfl, hn⟩ | ⟨g, cap, cur, rfl, _⟩
  · refine ⟨none, 0, by rw [hn], fun k u hu => ?_⟩
    have h1 := h.1
    rw [hn, Nat.zero_mul] at h1
    rw [List.length_eq_zero_iff.1 h1] at hu
    cases hu
  · refine ⟨_, cap, rfl, fun k u hu => ⟨g, rfl, ?_⟩⟩
    have := hc rfl k u hu
    rwa [add_zero_off] at this
theorem row_block {w : World} {lo size n : Nat} {e : TypeId} {A : Option Addr} {c : Nat} {cs : List Value} (h : w.ownsRow lo e size (.slice A n c) n cs) : ∃ g, ∀ j, j < n * size → A = some ⟨g, 0, none⟩ := by
  rcases h.2 with ⟨_, hn⟩ | ⟨g, cap, cur, hv, _⟩
  · exact ⟨0, fun j hj => by simp [hn] at hj⟩
  · injection hv with hv _ _
    exact ⟨g, fun _ _ => hv⟩
namespace L
theorem kids_nice {t : Tm} (h : Nice t) : ∀ k ∈ kidsOf t, Nice k := by
  cases h with
  | row ts h =>
    intro k hk
    have hk : k ∈ rowKids ts := hk
    unfold rowKids at hk
    split at hk
    · cases hk
    · rename_i z hz
      simp only [List.mem_cons, List.mem_nil_iff, or_false] at hk
      rcases hk with rfl | rfl
      · split
        · cases ts with
          | nil => exact .skip
          | cons a ts => exact h a (List.mem_cons_self ..)
        · exact .row _ fun t ht => h t (List.dropLast_subset ts ht)
      · exact h _ (List.mem_of_getLast? hz)
  | call _ _ ts _ h => exact h
  | _ => intro k hk; simp only [kidsOf, List.mem_cons, List.mem_nil_iff, or_false] at hk; first | (exact hk.elim; done) | (rcases hk with rfl | rfl | rfl <;> assumption; done) | (rcases hk with rfl | rfl <;> assumption; done) | (subst hk; assumption; done) | skip
theorem paramsOf_nice {t : Tm} (h : Nice t) : (paramsOf t).length ≤ 3 := by
  cases h with
  | proc _ _ ps _ _ _ _ hp => exact hp.1
  | _ => simp [paramsOf]
theorem nds_bd : ∀ (n k : Nat) (t : Tm), Nice t → Ok t → nodes t ≤ n → ∀ d ∈ nds n k t, d.params.length ≤ 3 ∧ d.kids.length ≤ n
  | 0, _, t, _, ho, hn => by have := ho.pos; omega
  | n + 1, k, t, hN, ho, hn => by
    obtain ⟨h1, h2⟩ := kids_nodes ho
    have hkn := kids_nice hN
    have hL : ∀ (ks : List Tm) (k : Nat), (∀ x ∈ ks, Nice x) → (∀ x ∈ ks, Ok x) → nodesL ks ≤ n → ∀ d ∈ (ndsL n k ks).2, d.params.length ≤ 3 ∧ d.kids.length ≤ n := by
      intro ks
      induction ks with
      | nil => intro k _ _ _ d hd; simp [ndsL] at hd
      | cons x ks ih =>
        intro k a1 a2 a3 d hd
        simp only [nodesL] at a3
        rw [ndsL] at hd
        rcases List.mem_append.1 hd with hd | hd
        · exact nds_bd n k x (a1 x (List.mem_cons_self ..)) (a2 x (List.mem_cons_self ..)) (by omega) d hd
        · exact ih _ (fun y hy => a1 y (List.mem_cons_of_mem _ hy)) (fun y hy => a2 y (List.mem_cons_of_mem _ hy)) (by omega) d hd
    intro d hd
    rw [nds] at hd
    rcases List.mem_cons.1 hd with rfl | hd
    · refine ⟨paramsOf_nice hN, ?_⟩
      dsimp only
      rw [ndsL_kids]
      have := nodesL_pos (l := kidsOf t) fun x hx => (h2 x hx).pos
      omega
    · have := hL _ _ hkn h2 (by omega) d hd
      exact ⟨this.1, by omega⟩
theorem Fit.bd {P : Piece} (f : Fit P) : ∀ d ∈ nodeList P.root, d.params.length ≤ 1000 ∧ d.kids.length ≤ 1000000 := fun d hd => by
  have h := nds_bd _ _ _ f.nice f.ok (Nat.le_refl _) d hd
  have := f.nodes
  omega
end L
end Go.Proofs.YtpdbkdcdlafobaaGreatDoor
end
section
namespace Go.Proofs.YtpdbkdcdlafobaaGreatDoor.NoneP
open Go.ChangeShapes Go.WideShapes Go.ChangeAt Go.RowKit Go.ChangeMaps
def Walk : Prop := ∀ (a0 : ByteArray) (_ : a0.size ≤ maxLen) (w : World), Calls Tryz.prog 4 #[.string a0] w fun e w' => e = .returned (.bool true) ∧ Frm (fun _ => False) w w'
set_option maxRecDepth 100000 in
theorem lifted (walk : Walk) (os : Os) (started : os.Started) (H : Type) (enc : TypeId × Value → H) :
    ReturnsInHanded {} Tryz.checked os 4 .any (fun w args => (Rows.langNoneSpec.pre enc Tryz.prog Tryz.f4 [] false w args ∧ laidMet Tryz.prog Rows.langNoneRow.laid w) ∧ sizedMet enc Tryz.prog Tryz.f4 (OpenSpec.ofChange Rows.langNoneSpec) false w args)
      (Rows.langNoneSpec.post enc Tryz.prog Tryz.f4 false true false false) := by
  refine returnsInHanded_of_change_and (C := Tryz.checked) (X := fun w _ => laidMet Tryz.prog Rows.langNoneRow.laid w) (fun _ _ _ hh h => h.of_heap hh) own started (by kernel_rfl) Tryz.func4
    (ChangeSpec.witness_at (enc := enc) (C := Tryz.checked) (os := os) (X := fun w _ => laidMet Tryz.prog Rows.langNoneRow.laid w) false (laidWorld os) #[.string ⟨#[]⟩] 8 rfl (by kernel_rfl) (by kernel_rfl) (by kernel_rfl) (by kernel_rfl) (by kernel_rfl) (laid_met os _)) ?_
  intro W base args ds gs before hval0 hW _ _ hL _
  have hval : ∀ (j : Nat) t v, Tryz.f4.params[j]? = some t → args[j]? = some v → Value.okWide Tryz.prog W .any base t v := hval0
  have hW' := hW
  obtain ⟨p, q, hA0, hV, rfl, hfz, hnd⟩ := hW
  have hA : DataW.TrodAll enc Tryz.prog W 0 (fun _ => true) true Tryz.f4.params.toList args.toList ds p := hA0
  rw [Tryz.params4] at hA hval
  obtain ⟨v0, vs0, d0, ds0, p0, q0, hargs, rfl, rfl, h0, r0⟩ := trodAll_cons hA
  obtain ⟨rfl, rfl, rfl⟩ := trodAll_nil r0
  obtain rfl : args = #[v0] := by cases args; simp_all
  obtain ⟨rfl, rfl⟩ := trodVars_none hV
  obtain ⟨a0, rfl, rfl, rfl, w0⟩ := open_string Tryz.underlying9 (hval 0 9 v0 rfl rfl) h0
  clear hA0 hval0
  simp only [List.append_nil] at hW'
  refine (walk a0 w0 W).mono fun e W' ⟨he, hg⟩ => ?_
  subst he
  exact ⟨_, rfl, _, _, _, _, _, _, hW', trodAll_cons_mk (shut_bool Tryz.underlying4 _) trodAll_mk0, trodAll_cons_mk (shut_string Tryz.underlying9 w0) trodAll_mk0, rfl, hg.kept _, fun h => by cases h⟩
theorem row_holds (walk : Walk) : Rows.LangNoneSaid :=
  OpenClaim.holds_of_wide 4 Tryz.f4 rfl rfl rfl rfl rfl rfl rfl ⟨rfl, rfl, rfl, rfl, rfl⟩ rfl rfl rfl rfl rfl (by kernel_rfl) Tryz.func4 (by kernel_rfl)
    (of_decide_eq_true (by kernel_rfl)) (by unfold Func.isWrapper; first | (rw [if_pos (by decide +kernel)]; kernel_rfl) | (rw [if_neg (by decide +kernel)]; exact ⟨rfl, rfl⟩))
    (fun os started H enc _ => lifted walk os started H enc)
theorem card_of (walk : Walk) : Rows.LangNoneCardSaid :=
  Claim7.holds_tied_plain_at .later [] [.data, .data, .data, .data, .pinned] true Rows.langNoneCard.stood.harness true
    (row_holds walk) (fun _ h => by cases h) (by kernel_rfl) (fun _ h => by cases h) langNone_row_tie rfl ⟨rfl, rfl⟩ (by kernel_rfl) rfl
    (fun f fn hf hfn => by
      obtain rfl : f = 4 := Option.some.inj ((show Tryz.prog.funcNamed "doppelganger/doppelgangerlaw01.LangNone" = some 4 by kernel_rfl).symm.trans hf) |>.symm
      obtain rfl : fn = Tryz.f4 := (Option.some.inj (Tryz.func4.symm.trans hfn)).symm
      exact ⟨by kernel_rfl, fun j t ht => by
        rw [Tryz.params4] at ht
        have h3 : t = 9 := by
          rcases j with _ | j
          · simpa using ht.symm
          · simp at ht
        subst h3
        exact (show Tryz.prog.wantsStandIn 9 = false by kernel_rfl)⟩)
    (by kernel_rfl)
end Go.Proofs.YtpdbkdcdlafobaaGreatDoor.NoneP
end
