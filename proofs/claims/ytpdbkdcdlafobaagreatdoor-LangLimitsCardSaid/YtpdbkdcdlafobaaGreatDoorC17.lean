/- The parser's contracts that call each other: proc, ofEither, step, atom. The parser's contracts that call each other: all of them, by induction. Contracts of the program's functions, with no condition beyond what each theorem states. -/
import Derived.Test.YtpdbkdcdlafobaaGreatDoorC16
section
namespace Go.Proofs.YtpdbkdcdlafobaaGreatDoor
open Go.RowKit
variable {n : Nat}
theorem paramsFrom_len : ∀ (n : Nat) (acc : List (L.Bytes × Int)) {s s' : L.St} {l : List (L.Bytes × Int)}, L.paramsFrom n acc s = some (l, s') → l.length ≤ 3
  | 0, _, _, _, _, h => by simp [L.paramsFrom, L.Rd.no] at h
  | n + 1, acc, _, _, _, h => by
    obtain ⟨x, _, _, h⟩ := L.bind_some h
    obtain ⟨_, _, _, h⟩ := L.bind_some h
    obtain ⟨t, _, _, h⟩ := L.bind_some h
    obtain ⟨b, _, _, h⟩ := L.bind_some h
    cases b
    · simp only [Bool.false_eq_true, if_false] at h
      cases ho : L.okParams (acc ++ [(x, t)])
      · rw [ho] at h; simp [L.Rd.no] at h
      · rw [ho] at h
        cases h
        exact okParams_len ho
    · exact paramsFrom_len n _ h
theorem params_len {s s' : L.St} {l : List (L.Bytes × Int)} (h : L.params s = some (l, s')) : l.length ≤ 3 := by
  unfold L.params at h
  split at h
  · cases h; simp
  · exact paramsFrom_len _ _ h
theorem result_01 {s s' : L.St} {r : Int} (h : L.result s = some (r, s')) : r = 0 ∨ r = 1 := by
  obtain ⟨b, s1, _, e2⟩ := L.bind_some h
  cases b
  · obtain ⟨_, _, _, e4⟩ := L.bind_some e2
    cases e4; exact .inr rfl
  · cases e2; exact .inl rfl
set_option maxHeartbeats 1000000 in
theorem proc_good (h : ∀ k ≤ n, Good k) (t : Int) (ht : t = 0 ∨ t = 1) (pb : Nat) (s : L.St) (w : World) (hp : PS w pb s) (hn : 10 * s.m + 1 ≤ n + 1) :
    Calls Tryz.prog 143 #[.pointer (some ⟨pb, 0, none⟩), .int .i64 t] w (PPost (okT w.heap.size) pb (L.proc (n + 1) t s) w) := by
  have HX : Hid (L.proc (n + 1) t s = (L.getName.bind fun k => (L.want [40]).bind fun _ => L.params.bind fun ps => (L.want [41]).bind fun _ => (L.want [58]).bind fun _ =>
    L.result.bind fun r => (L.block n r).bind fun x => (L.block n t).bind fun y => L.Rd.ret (.proc t k ps r x y)) s) := by rw [Hid, L.proc]
  have hpb := hp.1.lt
  have F0 := Lib.hid (Frm.refl (· = pb) w)
  go_enter Tryz.func143, Tryz.ntmps143
  go_wp2_with fail
  refine PPost.call (name_any _ _ _ hp) (fun w' hn hf => ⟨rfl, .bad (F0.out.trans hf) (by simp only [HX.out, L.Rd.bind, hn])⟩) ?_
  rintro nm s1 _ w1 H1 rfl q1 f1
  have F1 := Lib.hid (F0.out.trans f1)
  have m1 := L.getName_lt _ _ _ H1.out
  clear f1
  go_wp2_with fail
  refine PPost.call (want_any [40] _ _ _ q1) (fun w' hn hf => ⟨rfl, .bad (F1.out.trans hf) (by simp only [HX.out, L.Rd.bind, H1.out, hn])⟩) ?_
  rintro _ s2 _ w2 H2 rfl q2 f2
  have F2 := Lib.hid (F1.out.trans f2)
  have m2 := L.want_le _ _ _ _ H2.out
  clear f2
  go_wp2_with fail
  refine PPost.call (params_any _ _ _ q2) (fun w' hn hf => ⟨rfl, .bad (F2.out.trans hf) (by simp only [HX.out, L.Rd.bind, H1.out, H2.out, hn])⟩) ?_
  rintro ps s3 v3 w3 H3 hv3 q3 f3
  have F3 := Lib.hid (F2.out.trans f3)
  obtain ⟨A3, c3, rfl⟩ := own_form hv3
  have Pps3 : Hid (w3.ownsRow w.heap.size 49 2 (.slice A3 ps.length c3) ps.length (prs ps)) := own_base hv3 F2.out.1
  clear hv3
  have m3 := L.params_le _ _ _ H3.out
  clear f3
  go_wp2_with fail
  refine PPost.call (want_any [41] _ _ _ q3) (fun w' hn hf => ⟨rfl, .bad (F3.out.trans hf) (by simp only [HX.out, L.Rd.bind, H1.out, H2.out, H3.out, hn])⟩) ?_
  rintro _ s4 _ w4 H4 rfl q4 f4
  have F4 := Lib.hid (F3.out.trans f4)
  have Pps4 := Lib.hid (f4.row Pps3.out (fun g hg e => by have := (World.ownsRow.lt Pps3.out g hg).1; omega) (Nat.le_refl _))
  have m4 := L.want_le _ _ _ _ H4.out
  clear f4
  go_wp2_with fail
  refine PPost.call (want_any [58] _ _ _ q4) (fun w' hn hf => ⟨rfl, .bad (F4.out.trans hf) (by simp only [HX.out, L.Rd.bind, H1.out, H2.out, H3.out, H4.out, hn])⟩) ?_
  rintro _ s5 _ w5 H5 rfl q5 f5
  have F5 := Lib.hid (F4.out.trans f5)
  have Pps5 := Lib.hid (f5.row Pps4.out (fun g hg e => by have := (World.ownsRow.lt Pps4.out g hg).1; omega) (Nat.le_refl _))
  have m5 := L.want_le _ _ _ _ H5.out
  clear f5
  go_wp2_with fail
  refine PPost.call (result_any _ _ _ q5) (fun w' hn hf => ⟨rfl, .bad (F5.out.trans hf) (by simp only [HX.out, L.Rd.bind, H1.out, H2.out, H3.out, H4.out, H5.out, hn])⟩) ?_
  rintro r s6 _ w6 H6 rfl q6 f6
  have F6 := Lib.hid (F5.out.trans f6)
  have Pps6 := Lib.hid (f6.row Pps5.out (fun g hg e => by have := (World.ownsRow.lt Pps5.out g hg).1; omega) (Nat.le_refl _))
  have m6 := L.result_le _ _ _ H6.out
  clear f6
  have hr := result_01 H6.out
  go_wp2_with fail
  refine PPost.call ((h n (Nat.le_refl _)).block r hr _ _ _ q6 (by omega)) (fun w' hn hf => ⟨rfl, .bad (F6.out.trans hf) (by simp only [HX.out, L.Rd.bind, H1.out, H2.out, H3.out, H4.out, H5.out, H6.out, hn])⟩) ?_
  rintro x s7 v7 w7 H7 hv7 q7 f7
  have F7 := Lib.hid (F6.out.trans f7)
  have Pps7 := Lib.hid (f7.row Pps6.out (fun g hg e => by have := (World.ownsRow.lt Pps6.out g hg).1; omega) (Nat.le_refl _))
  have Rx7 := Lib.hid (Rep.low (lo' := w.heap.size) hv7 F6.out.1)
  obtain ⟨T7, cs7, rfl⟩ := Rep.form hv7
  clear hv7
  have m7 := (L.eats n).block _ _ _ _ H7.out
  clear f7
  go_wp2_with fail
  refine PPost.call ((h n (Nat.le_refl _)).block t ht _ _ _ q7 (by omega)) (fun w' hn hf => ⟨rfl, .bad (F7.out.trans hf) (by simp only [HX.out, L.Rd.bind, H1.out, H2.out, H3.out, H4.out, H5.out, H6.out, H7.out, hn])⟩) ?_
  rintro y s8 v8 w8 H8 hv8 q8 f8
  have F8 := Lib.hid (F7.out.trans f8)
  have Rx8 := Lib.hid (Rep.over (lo' := w.heap.size) Rx7.out f8 hpb (Nat.le_refl _))
  have Pps8 := Lib.hid (f8.row Pps7.out (fun g hg e => by have := (World.ownsRow.lt Pps7.out g hg).1; omega) (Nat.le_refl _))
  have Ry8 := Lib.hid (Rep.low (lo' := w.heap.size) hv8 F7.out.1)
  obtain ⟨T8, cs8, rfl⟩ := Rep.form hv8
  clear hv8
  have m8 := (L.eats n).block _ _ _ _ H8.out
  clear f8
  go_wp2_with fail
  go_ret
  exact .good (x := .proc t nm ps r x y) F8.out (by simp only [HX.out, L.Rd.bind, H1.out, H2.out, H3.out, H4.out, H5.out, H6.out, H7.out, H8.out, L.Rd.ret]) ⟨_, _, _, rfl, params_len H3.out, own_base Pps8.out (Nat.zero_le _), fun g hg => (World.ownsRow.lt Pps8.out g hg).1, Rx8.out, Ry8.out⟩ q8
set_option maxHeartbeats 2000000 in
theorem either_good (h : ∀ k ≤ n, Good k) (t : Int) (ht : t = 0 ∨ t = 1) (pb : Nat) (s : L.St) (w : World) (hp : PS w pb s) (hn : 10 * s.m + 1 ≤ n + 1) :
    Calls Tryz.prog 126 #[.pointer (some ⟨pb, 0, none⟩), .int .i64 t] w (PPost (okO w.heap.size) pb (L.either (n + 1) t s) w) := by
  have HX : Hid (L.either (n + 1) t s = ((L.take [115, 116, 111, 112]).bind fun b => if b then L.Rd.ret (some (.stop t)) else
    (L.take [102, 97, 117, 108, 116]).bind fun b => if b then L.Rd.ret (some (.fault t)) else
    (L.take [101, 120, 105, 116]).bind fun b => if b then L.getName.bind fun k => L.Rd.ret (some (.exit t k)) else
    (L.take [105, 102]).bind fun b => if b then (L.exp n).bind fun x => (L.block n t).bind fun y => (L.block n t).bind fun z => L.Rd.ret (some (.choice t x y z)) else
    (L.take [110, 101, 119]).bind fun b => if b then L.getName.bind fun k => (L.want [61]).bind fun _ => (L.exp n).bind fun x => (L.block n t).bind fun y => L.Rd.ret (some (.fresh t k x y)) else
    (L.take [112, 114, 111, 99]).bind fun b => if b then (L.proc n t).bind fun x => L.Rd.ret (some x) else L.Rd.ret none) s) := by rw [Hid, L.either]
  have hpb := hp.1.lt
  have F0 := Lib.hid (Frm.refl (· = pb) w)
  go_enter Tryz.func126, Tryz.ntmps126
  go_wp2_with fail
  refine PPost.call (take_any [115, 116, 111, 112] _ _ _ hp) (fun w' hn hf => ⟨rfl, .bad (F0.out.trans hf) (by simp only [HX.out, L.Rd.bind, hn])⟩) ?_
  rintro b1 s1 _ w1 H1 rfl q1 f1
  have F1 := Lib.hid (F0.out.trans f1)
  have l1 := L.take_le _ _ _ _ H1.out
  clear f1
  cases b1
  rotate_left
  · have m1 := L.take_lt (by simp) H1.out
    go_wp2_with fail
    go_ret
    exact .good (x := some (.stop t)) F1.out (by simp only [HX.out, L.Rd.bind, H1.out, if_true, L.Rd.ret]) rfl q1
  go_wp2_with fail
  refine PPost.call (take_any [102, 97, 117, 108, 116] _ _ _ q1) (fun w' hn hf => ⟨rfl, .bad (F1.out.trans hf) (by simp only [HX.out, L.Rd.bind, H1.out, Bool.false_eq_true, if_false, hn])⟩) ?_
  rintro b2 s2 _ w2 H2 rfl q2 f2
  have F2 := Lib.hid (F1.out.trans f2)
  have l2 := L.take_le _ _ _ _ H2.out
  clear f2
  cases b2
  rotate_left
  · have m2 := L.take_lt (by simp) H2.out
    go_wp2_with fail
    go_ret
    exact .good (x := some (.fault t)) F2.out (by simp only [HX.out, L.Rd.bind, H1.out, H2.out, Bool.false_eq_true, if_false, if_true, L.Rd.ret]) rfl q2
  go_wp2_with fail
  refine PPost.call (take_any [101, 120, 105, 116] _ _ _ q2) (fun w' hn hf => ⟨rfl, .bad (F2.out.trans hf) (by simp only [HX.out, L.Rd.bind, H1.out, H2.out, Bool.false_eq_true, if_false, hn])⟩) ?_
  rintro b3 s3 _ w3 H3 rfl q3 f3
  have F3 := Lib.hid (F2.out.trans f3)
  have l3 := L.take_le _ _ _ _ H3.out
  clear f3
  cases b3
  rotate_left
  · have m3 := L.take_lt (by simp) H3.out
    go_wp2_with fail
    refine PPost.call (name_any _ _ _ q3) (fun w' hn hf => ⟨rfl, .bad (F3.out.trans hf) (by simp only [HX.out, L.Rd.bind, H1.out, H2.out, H3.out, Bool.false_eq_true, if_false, if_true, hn])⟩) ?_
    rintro nm s4 _ w4 H4 rfl q4 f4
    have F4 := Lib.hid (F3.out.trans f4)
    clear f4
    go_wp2_with fail
    go_ret
    exact .good (x := some (.exit t nm)) F4.out (by simp only [HX.out, L.Rd.bind, H1.out, H2.out, H3.out, H4.out, Bool.false_eq_true, if_false, if_true, L.Rd.ret]) rfl q4
  go_wp2_with fail
  refine PPost.call (take_any [105, 102] _ _ _ q3) (fun w' hn hf => ⟨rfl, .bad (F3.out.trans hf) (by simp only [HX.out, L.Rd.bind, H1.out, H2.out, H3.out, Bool.false_eq_true, if_false, hn])⟩) ?_
  rintro b4 s4 _ w4 H4 rfl q4 f4
  have F4 := Lib.hid (F3.out.trans f4)
  have l4 := L.take_le _ _ _ _ H4.out
  clear f4
  cases b4
  rotate_left
  · have m4 := L.take_lt (by simp) H4.out
    go_wp2_with fail
    refine PPost.call ((h n (Nat.le_refl _)).exp _ _ _ q4 (by omega)) (fun w' hn hf => ⟨rfl, .bad (F4.out.trans hf) (by simp only [HX.out, L.Rd.bind, H1.out, H2.out, H3.out, H4.out, Bool.false_eq_true, if_false, if_true, hn])⟩) ?_
    rintro x s5 v5 w5 H5 hv5 q5 f5
    have F5 := Lib.hid (F4.out.trans f5)
    have Rx5 := Lib.hid (Rep.low (lo' := w.heap.size) hv5 F4.out.1)
    obtain ⟨T5, cs5, rfl⟩ := Rep.form hv5
    clear hv5
    have m5 := (L.eats n).exp _ _ _ H5.out
    clear f5
    go_wp2_with fail
    refine PPost.call ((h n (Nat.le_refl _)).block t ht _ _ _ q5 (by omega)) (fun w' hn hf => ⟨rfl, .bad (F5.out.trans hf) (by simp only [HX.out, L.Rd.bind, H1.out, H2.out, H3.out, H4.out, H5.out, Bool.false_eq_true, if_false, if_true, hn])⟩) ?_
    rintro y s6 v6 w6 H6 hv6 q6 f6
    have F6 := Lib.hid (F5.out.trans f6)
    have Rx6 := Lib.hid (Rep.over (lo' := w.heap.size) Rx5.out f6 hpb (Nat.le_refl _))
    have Ry6 := Lib.hid (Rep.low (lo' := w.heap.size) hv6 F5.out.1)
    obtain ⟨T6, cs6, rfl⟩ := Rep.form hv6
    clear hv6
    have m6 := (L.eats n).block _ _ _ _ H6.out
    clear f6
    go_wp2_with fail
    refine PPost.call ((h n (Nat.le_refl _)).block t ht _ _ _ q6 (by omega)) (fun w' hn hf => ⟨rfl, .bad (F6.out.trans hf) (by simp only [HX.out, L.Rd.bind, H1.out, H2.out, H3.out, H4.out, H5.out, H6.out, Bool.false_eq_true, if_false, if_true, hn])⟩) ?_
    rintro z s7 v7 w7 H7 hv7 q7 f7
    have F7 := Lib.hid (F6.out.trans f7)
    have Rx7 := Lib.hid (Rep.over (lo' := w.heap.size) Rx6.out f7 hpb (Nat.le_refl _))
    have Ry7 := Lib.hid (Rep.over (lo' := w.heap.size) Ry6.out f7 hpb (Nat.le_refl _))
    have Rz7 := Lib.hid (Rep.low (lo' := w.heap.size) hv7 F6.out.1)
    obtain ⟨T7, cs7, rfl⟩ := Rep.form hv7
    clear hv7
    clear f7
    go_wp2_with fail
    go_ret
    exact .good (x := some (.choice t x y z)) F7.out (by simp only [HX.out, L.Rd.bind, H1.out, H2.out, H3.out, H4.out, H5.out, H6.out, H7.out, Bool.false_eq_true, if_false, if_true, L.Rd.ret]) ⟨_, _, _, rfl, Rx7.out, Ry7.out, Rz7.out⟩ q7
  go_wp2_with fail
  refine PPost.call (take_any [110, 101, 119] _ _ _ q4) (fun w' hn hf => ⟨rfl, .bad (F4.out.trans hf) (by simp only [HX.out, L.Rd.bind, H1.out, H2.out, H3.out, H4.out, Bool.false_eq_true, if_false, hn])⟩) ?_
  rintro b5 s5 _ w5 H5 rfl q5 f5
  have F5 := Lib.hid (F4.out.trans f5)
  have l5 := L.take_le _ _ _ _ H5.out
  clear f5
  cases b5
  rotate_left
  · have m5 := L.take_lt (by simp) H5.out
    go_wp2_with fail
    refine PPost.call (name_any _ _ _ q5) (fun w' hn hf => ⟨rfl, .bad (F5.out.trans hf) (by simp only [HX.out, L.Rd.bind, H1.out, H2.out, H3.out, H4.out, H5.out, Bool.false_eq_true, if_false, if_true, hn])⟩) ?_
    rintro nm s6 _ w6 H6 rfl q6 f6
    have F6 := Lib.hid (F5.out.trans f6)
    have m6 := L.getName_lt _ _ _ H6.out
    clear f6
    go_wp2_with fail
    refine PPost.call (want_any [61] _ _ _ q6) (fun w' hn hf => ⟨rfl, .bad (F6.out.trans hf) (by simp only [HX.out, L.Rd.bind, H1.out, H2.out, H3.out, H4.out, H5.out, H6.out, Bool.false_eq_true, if_false, if_true, hn])⟩) ?_
    rintro _ s7 _ w7 H7 rfl q7 f7
    have F7 := Lib.hid (F6.out.trans f7)
    have m7 := L.want_le _ _ _ _ H7.out
    clear f7
    go_wp2_with fail
    refine PPost.call ((h n (Nat.le_refl _)).exp _ _ _ q7 (by omega)) (fun w' hn hf => ⟨rfl, .bad (F7.out.trans hf) (by simp only [HX.out, L.Rd.bind, H1.out, H2.out, H3.out, H4.out, H5.out, H6.out, H7.out, Bool.false_eq_true, if_false, if_true, hn])⟩) ?_
    rintro x s8 v8 w8 H8 hv8 q8 f8
    have F8 := Lib.hid (F7.out.trans f8)
    have Rx8 := Lib.hid (Rep.low (lo' := w.heap.size) hv8 F7.out.1)
    obtain ⟨T8, cs8, rfl⟩ := Rep.form hv8
    clear hv8
    have m8 := (L.eats n).exp _ _ _ H8.out
    clear f8
    go_wp2_with fail
    refine PPost.call ((h n (Nat.le_refl _)).block t ht _ _ _ q8 (by omega)) (fun w' hn hf => ⟨rfl, .bad (F8.out.trans hf) (by simp only [HX.out, L.Rd.bind, H1.out, H2.out, H3.out, H4.out, H5.out, H6.out, H7.out, H8.out, Bool.false_eq_true, if_false, if_true, hn])⟩) ?_
    rintro y s9 v9 w9 H9 hv9 q9 f9
    have F9 := Lib.hid (F8.out.trans f9)
    have Rx9 := Lib.hid (Rep.over (lo' := w.heap.size) Rx8.out f9 hpb (Nat.le_refl _))
    have Ry9 := Lib.hid (Rep.low (lo' := w.heap.size) hv9 F8.out.1)
    obtain ⟨T9, cs9, rfl⟩ := Rep.form hv9
    clear hv9
    clear f9
    go_wp2_with fail
    go_ret
    exact .good (x := some (.fresh t nm x y)) F9.out (by simp only [HX.out, L.Rd.bind, H1.out, H2.out, H3.out, H4.out, H5.out, H6.out, H7.out, H8.out, H9.out, Bool.false_eq_true, if_false, if_true, L.Rd.ret]) ⟨_, _, rfl, Rx9.out, Ry9.out⟩ q9
  go_wp2_with fail
  refine PPost.call (take_any [112, 114, 111, 99] _ _ _ q5) (fun w' hn hf => ⟨rfl, .bad (F5.out.trans hf) (by simp only [HX.out, L.Rd.bind, H1.out, H2.out, H3.out, H4.out, H5.out, Bool.false_eq_true, if_false, hn])⟩) ?_
  rintro b6 s6 _ w6 H6 rfl q6 f6
  have F6 := Lib.hid (F5.out.trans f6)
  have l6 := L.take_le _ _ _ _ H6.out
  clear f6
  cases b6
  rotate_left
  · have m6 := L.take_lt (by simp) H6.out
    go_wp2_with fail
    refine PPost.call ((h n (Nat.le_refl _)).proc t ht _ _ _ q6 (by omega)) (fun w' hn hf => ⟨rfl, .bad (F6.out.trans hf) (by simp only [HX.out, L.Rd.bind, H1.out, H2.out, H3.out, H4.out, H5.out, H6.out, Bool.false_eq_true, if_false, if_true, hn])⟩) ?_
    rintro x s7 v7 w7 H7 hv7 q7 f7
    have F7 := Lib.hid (F6.out.trans f7)
    have Rx7 := Lib.hid (Rep.low (lo' := w.heap.size) hv7 F6.out.1)
    obtain ⟨T7, cs7, rfl⟩ := Rep.form hv7
    clear hv7
    clear f7
    go_wp2_with fail
    go_ret
    exact .good (x := some x) F7.out (by simp only [HX.out, L.Rd.bind, H1.out, H2.out, H3.out, H4.out, H5.out, H6.out, H7.out, Bool.false_eq_true, if_false, if_true, L.Rd.ret]) Rx7.out q7
  go_wp2_with fail
  go_ret
  exact .good (x := none) F6.out (by simp only [HX.out, L.Rd.bind, H1.out, H2.out, H3.out, H4.out, H5.out, H6.out, Bool.false_eq_true, if_false, L.Rd.ret]) rfl q6
set_option maxHeartbeats 2000000 in
theorem step_good (h : ∀ k ≤ n, Good k) (pb : Nat) (s : L.St) (w : World) (hp : PS w pb s) (hn : 10 * s.m + 4 ≤ n + 1) :
    Calls Tryz.prog 99 #[.pointer (some ⟨pb, 0, none⟩)] w (PPost (okT w.heap.size) pb (L.step (n + 1) s) w) := by
  have HX : Hid (L.step (n + 1) s = ((L.either n 0).bind fun x => match x with
    | some x => L.Rd.ret x
    | none => (L.take [115, 107, 105, 112]).bind fun b => if b then L.Rd.ret .skip else
      (L.take [119, 104, 105, 108, 101]).bind fun b => if b then (L.exp n).bind fun x => (L.block n 0).bind fun y => L.Rd.ret (.loop x y) else
      (L.take [98, 108, 111, 99, 107]).bind fun b => if b then L.getName.bind fun k => (L.block n 0).bind fun y => L.Rd.ret (.labelled k y) else
      L.getName.bind fun k => (L.take [58, 61]).bind fun b => if b then (L.exp n).bind fun x => L.Rd.ret (.assign k x) else L.call n 0 k) s) := by rw [Hid, L.step]; rfl
  have hpb := hp.1.lt
  have F0 := Lib.hid (Frm.refl (· = pb) w)
  go_enter Tryz.func99, Tryz.ntmps99
  go_wp2_with fail
  refine PPost.call ((h n (Nat.le_refl _)).either 0 (.inl rfl) _ _ _ hp (by omega)) (fun w' hn hf => ⟨rfl, .bad (F0.out.trans hf) (by simp only [HX.out, L.Rd.bind, hn])⟩) ?_
  rintro o s1 v w1 H1 hv q1 f1
  have F1 := Lib.hid (F0.out.trans f1)
  have l1 := ((L.eats n).either _ _ _ _ H1.out).1
  clear f1
  cases o with
  | some x =>
    have HV : Hid (Rep w1 (w.heap.size ≤ ·) x v) := hv
    obtain ⟨T, cs, rfl⟩ := Rep.form HV.out
    clear hv
    go_wp2_with fail
    go_ret
    exact .good F1.out (by simp only [HX.out, L.Rd.bind, H1.out, L.Rd.ret]) HV.out q1
  | none =>
    have hv : v = .nilIface := hv
    subst hv
    go_wp2_with fail
    refine PPost.call (take_any [115, 107, 105, 112] _ _ _ q1) (fun w' hn hf => ⟨rfl, .bad (F1.out.trans hf) (by simp only [HX.out, L.Rd.bind, H1.out, hn])⟩) ?_
    rintro b2 s2 _ w2 H2 rfl q2 f2
    have F2 := Lib.hid (F1.out.trans f2)
    have l2 := L.take_le _ _ _ _ H2.out
    clear f2
    cases b2
    rotate_left
    · have m2 := L.take_lt (by simp) H2.out
      go_wp2_with fail
      go_ret
      exact .good (x := .skip) F2.out (by simp only [HX.out, L.Rd.bind, H1.out, H2.out, if_true, L.Rd.ret]) rfl q2
    go_wp2_with fail
    refine PPost.call (take_any [119, 104, 105, 108, 101] _ _ _ q2) (fun w' hn hf => ⟨rfl, .bad (F2.out.trans hf) (by simp only [HX.out, L.Rd.bind, H1.out, H2.out, Bool.false_eq_true, if_false, hn])⟩) ?_
    rintro b3 s3 _ w3 H3 rfl q3 f3
    have F3 := Lib.hid (F2.out.trans f3)
    have l3 := L.take_le _ _ _ _ H3.out
    clear f3
    cases b3
    rotate_left
    · have m3 := L.take_lt (by simp) H3.out
      go_wp2_with fail
      refine PPost.call ((h n (Nat.le_refl _)).exp _ _ _ q3 (by omega)) (fun w' hn hf => ⟨rfl, .bad (F3.out.trans hf) (by simp only [HX.out, L.Rd.bind, H1.out, H2.out, H3.out, Bool.false_eq_true, if_false, if_true, hn])⟩) ?_
      rintro x s4 v4 w4 H4 hv4 q4 f4
      have F4 := Lib.hid (F3.out.trans f4)
      have Rx4 := Lib.hid (Rep.low (lo' := w.heap.size) hv4 F3.out.1)
      obtain ⟨T4, cs4, rfl⟩ := Rep.form hv4
      clear hv4
      have m4 := (L.eats n).exp _ _ _ H4.out
      clear f4
      go_wp2_with fail
      refine PPost.call ((h n (Nat.le_refl _)).block 0 (.inl rfl) _ _ _ q4 (by omega)) (fun w' hn hf => ⟨rfl, .bad (F4.out.trans hf) (by simp only [HX.out, L.Rd.bind, H1.out, H2.out, H3.out, H4.out, Bool.false_eq_true, if_false, if_true, hn])⟩) ?_
      rintro y s5 v5 w5 H5 hv5 q5 f5
      have F5 := Lib.hid (F4.out.trans f5)
      have Rx5 := Lib.hid (Rep.over (lo' := w.heap.size) Rx4.out f5 hpb (Nat.le_refl _))
      have Ry5 := Lib.hid (Rep.low (lo' := w.heap.size) hv5 F4.out.1)
      obtain ⟨T5, cs5, rfl⟩ := Rep.form hv5
      clear hv5
      clear f5
      go_wp2_with fail
      go_ret
      exact .good (x := .loop x y) F5.out (by simp only [HX.out, L.Rd.bind, H1.out, H2.out, H3.out, H4.out, H5.out, Bool.false_eq_true, if_false, if_true, L.Rd.ret]) ⟨_, _, rfl, Rx5.out, Ry5.out⟩ q5
    go_wp2_with fail
    refine PPost.call (take_any [98, 108, 111, 99, 107] _ _ _ q3) (fun w' hn hf => ⟨rfl, .bad (F3.out.trans hf) (by simp only [HX.out, L.Rd.bind, H1.out, H2.out, H3.out, Bool.false_eq_true, if_false, hn])⟩) ?_
    rintro b4 s4 _ w4 H4 rfl q4 f4
    have F4 := Lib.hid (F3.out.trans f4)
    have l4 := L.take_le _ _ _ _ H4.out
    clear f4
    cases b4
    rotate_left
    · have m4 := L.take_lt (by simp) H4.out
      go_wp2_with fail
      refine PPost.call (name_any _ _ _ q4) (fun w' hn hf => ⟨rfl, .bad (F4.out.trans hf) (by simp only [HX.out, L.Rd.bind, H1.out, H2.out, H3.out, H4.out, Bool.false_eq_true, if_false, if_true, hn])⟩) ?_
      rintro nm s5 _ w5 H5 rfl q5 f5
      have F5 := Lib.hid (F4.out.trans f5)
      have m5 := L.getName_lt _ _ _ H5.out
      clear f5
      go_wp2_with fail
      refine PPost.call ((h n (Nat.le_refl _)).block 0 (.inl rfl) _ _ _ q5 (by omega)) (fun w' hn hf => ⟨rfl, .bad (F5.out.trans hf) (by simp only [HX.out, L.Rd.bind, H1.out, H2.out, H3.out, H4.out, H5.out, Bool.false_eq_true, if_false, if_true, hn])⟩) ?_
      rintro y s6 v6 w6 H6 hv6 q6 f6
      have F6 := Lib.hid (F5.out.trans f6)
      have Ry6 := Lib.hid (Rep.low (lo' := w.heap.size) hv6 F5.out.1)
      obtain ⟨T6, cs6, rfl⟩ := Rep.form hv6
      clear hv6
      clear f6
      go_wp2_with fail
      go_ret
      exact .good (x := .labelled nm y) F6.out (by simp only [HX.out, L.Rd.bind, H1.out, H2.out, H3.out, H4.out, H5.out, H6.out, Bool.false_eq_true, if_false, if_true, L.Rd.ret]) ⟨_, rfl, Ry6.out⟩ q6
    go_wp2_with fail
    refine PPost.call (name_any _ _ _ q4) (fun w' hn hf => ⟨rfl, .bad (F4.out.trans hf) (by simp only [HX.out, L.Rd.bind, H1.out, H2.out, H3.out, H4.out, Bool.false_eq_true, if_false, hn])⟩) ?_
    rintro nm s5 _ w5 H5 rfl q5 f5
    have F5 := Lib.hid (F4.out.trans f5)
    have m5 := L.getName_lt _ _ _ H5.out
    clear f5
    go_wp2_with fail
    refine PPost.call (take_any [58, 61] _ _ _ q5) (fun w' hn hf => ⟨rfl, .bad (F5.out.trans hf) (by simp only [HX.out, L.Rd.bind, H1.out, H2.out, H3.out, H4.out, H5.out, Bool.false_eq_true, if_false, hn])⟩) ?_
    rintro b6 s6 _ w6 H6 rfl q6 f6
    have F6 := Lib.hid (F5.out.trans f6)
    have l6 := L.take_le _ _ _ _ H6.out
    clear f6
    cases b6
    rotate_left
    · have m6 := L.take_lt (by simp) H6.out
      go_wp2_with fail
      refine PPost.call ((h n (Nat.le_refl _)).exp _ _ _ q6 (by omega)) (fun w' hn hf => ⟨rfl, .bad (F6.out.trans hf) (by simp only [HX.out, L.Rd.bind, H1.out, H2.out, H3.out, H4.out, H5.out, H6.out, Bool.false_eq_true, if_false, if_true, hn])⟩) ?_
      rintro x s7 v7 w7 H7 hv7 q7 f7
      have F7 := Lib.hid (F6.out.trans f7)
      have Rx7 := Lib.hid (Rep.low (lo' := w.heap.size) hv7 F6.out.1)
      obtain ⟨T7, cs7, rfl⟩ := Rep.form hv7
      clear hv7
      clear f7
      go_wp2_with fail
      go_ret
      exact .good (x := .assign nm x) F7.out (by simp only [HX.out, L.Rd.bind, H1.out, H2.out, H3.out, H4.out, H5.out, H6.out, H7.out, Bool.false_eq_true, if_false, if_true, L.Rd.ret]) ⟨_, rfl, Rx7.out⟩ q7
    go_wp2_with fail
    refine PPost.call ((h n (Nat.le_refl _)).call 0 nm _ _ _ q6 (by omega)) (fun w' hn hf => ⟨rfl, .bad (F6.out.trans hf) (by simp only [HX.out, L.Rd.bind, H1.out, H2.out, H3.out, H4.out, H5.out, H6.out, Bool.false_eq_true, if_false, hn])⟩) ?_
    rintro x s7 v7 w7 H7 hv7 q7 f7
    have F7 := Lib.hid (F6.out.trans f7)
    have Rx7 := Lib.hid (Rep.low (lo' := w.heap.size) hv7 F6.out.1)
    obtain ⟨T7, cs7, rfl⟩ := Rep.form hv7
    clear hv7
    clear f7
    go_wp2_with fail
    go_ret
    exact .good (x := x) F7.out (by simp only [HX.out, L.Rd.bind, H1.out, H2.out, H3.out, H4.out, H5.out, H6.out, H7.out, Bool.false_eq_true, if_false]) Rx7.out q7
theorem digit_eq (l : L.Bytes) : L.digit l = match l with | [c] => (decide ((48 : UInt8) ≤ c) && decide (c < (52 : UInt8))) | _ => false := rfl
def tail2 (n : Nat) : L.Rd L.Tm := (L.take [40]).bind fun b => if b then (L.exp n).bind fun x => (L.want [41]).bind fun _ => L.Rd.ret x else
    (L.take [100, 111]).bind fun b => if b then (L.block n 0).bind fun x => (L.block n 1).bind fun y => L.Rd.ret (.doing x y) else
    L.getName.bind fun k => L.call n 1 k
theorem atom_succ (n : Nat) (s : L.St) : L.atom (n + 2) s = ((L.either (n + 1) 1).bind fun x => match x with
    | some x => L.Rd.ret x
    | none => fun s => if L.digit s.part then (L.next.bind fun _ => L.Rd.ret (.num ((s.part.headD 0).toNat - 48 : Int))) s else tail2 n s) s := by
  rw [L.atom]
  congr 1
  funext x
  cases x with
  | some x => rfl
  | none =>
    funext s
    have ht : L.atom2 (n + 1) s = tail2 n s := by rw [L.atom2]; rfl
    match hp : s.part with
    | [] => simp only [hp, L.digit]; rw [ht] <;> rfl
    | _ :: _ :: _ => simp only [hp, L.digit]; rw [ht] <;> rfl
    | [c] => simp only [hp, L.digit, List.headD_cons]; rw [ht] <;> rfl
set_option maxHeartbeats 2000000 in
theorem atom_good (h : ∀ k ≤ n, Good k) (pb : Nat) (s : L.St) (w : World) (hp : PS w pb s) (hn : 10 * s.m + 3 ≤ n + 2) (hg : Good (n + 1)) :
    Calls Tryz.prog 145 #[.pointer (some ⟨pb, 0, none⟩)] w (PPost (okT w.heap.size) pb (L.atom (n + 2) s) w) := by
  have HX := Lib.hid (atom_succ n s)
  have hpb := hp.1.lt
  have F0 := Lib.hid (Frm.refl (· = pb) w)
  go_enter Tryz.func145, Tryz.ntmps145
  go_wp2_with fail
  refine PPost.call (hg.either 1 (.inr rfl) _ _ _ hp (by omega)) (fun w' hn hf => ⟨rfl, .bad (F0.out.trans hf) (by simp only [HX.out, L.Rd.bind, hn])⟩) ?_
  rintro o s1 v w1 H1 hv q1 f1
  have F1 := Lib.hid (F0.out.trans f1)
  have l1 := ((L.eats (n + 1)).either _ _ _ _ H1.out).1
  clear f1
  cases o with
  | some x =>
    have HV : Hid (Rep w1 (w.heap.size ≤ ·) x v) := hv
    obtain ⟨T, cs, rfl⟩ := Rep.form HV.out
    clear hv
    go_wp2_with fail
    go_ret
    exact .good F1.out (by simp only [HX.out, L.Rd.bind, H1.out, L.Rd.ret]) HV.out q1
  | none =>
    have hv : v = .nilIface := hv
    subst hv
    have c0 := q1.1.cell 0
    go_wp2_with fail
    refine (isDigit_any _ _).mono ?_
    rintro e w' ⟨rfl, rfl⟩
    rw [bs_str]
    cases hd : L.digit s1.part
    rotate_left
    · obtain ⟨c, hc⟩ : ∃ c, s1.part = [c] := by
        match hpp : s1.part, hd with
        | [c], _ => exact ⟨c, rfl⟩
        | [], hd => simp [L.digit] at hd
        | _ :: _ :: _, hd => simp [L.digit] at hd
      have HD := Lib.hid hd
      have hb : (48 : Int) ≤ c.toNat ∧ (c.toNat : Int) ≤ 51 := by
        rw [hc, L.digit] at hd
        simp [UInt8.le_iff_toNat_le, UInt8.lt_iff_toNat_lt] at hd
        omega
      obtain ⟨hb1, hb2⟩ := hb
      have HC := Lib.hid hc
      have HD2 : Hid (L.digit [c] = true) := by have := HD.out; rw [HC.out] at this; exact this
      rw [hc] at c0
      clear hd hc
      have hs0 : (str [c])[0] = c := rfl
      go_wp2_with fail
      refine PPost.call (next_any _ _ _ q1) (fun w' hn hf => ⟨rfl, .bad (F1.out.trans hf) (by simp only [HX.out, L.Rd.bind, H1.out, HD.out, if_true, hn])⟩) ?_
      rintro _ s2 _ w2 H2 rfl q2 f2
      go_wp2_with fail
      go_ret
      refine .good (x := .num (c.toNat - 48 : Int)) (F1.out.trans f2) (by simp only [HX.out, L.Rd.bind, H1.out, HC.out, HD2.out, if_true, H2.out, L.Rd.ret, List.headD_cons]) rfl q2
    · have HD := Lib.hid hd
      clear hd c0
      go_wp2_with fail
      refine PPost.call (take_any [40] _ _ _ q1) (fun w' hn hf => ⟨rfl, .bad (F1.out.trans hf) (by simp only [HX.out, L.Rd.bind, H1.out, HD.out, tail2, Bool.false_eq_true, if_false, hn])⟩) ?_
      rintro b2 s2 _ w2 H2 rfl q2 f2
      have F2 := Lib.hid (F1.out.trans f2)
      have l2 := L.take_le _ _ _ _ H2.out
      clear f2
      cases b2
      rotate_left
      · have m2 := L.take_lt (by simp) H2.out
        go_wp2_with fail
        refine PPost.call ((h n (Nat.le_refl _)).exp _ _ _ q2 (by omega)) (fun w' hn hf => ⟨rfl, .bad (F2.out.trans hf) (by simp only [HX.out, L.Rd.bind, H1.out, HD.out, tail2, H2.out, Bool.false_eq_true, if_false, if_true, hn])⟩) ?_
        rintro x s3 v3 w3 H3 hv3 q3 f3
        have F3 := Lib.hid (F2.out.trans f3)
        have Rx3 := Lib.hid (Rep.low (lo' := w.heap.size) hv3 F2.out.1)
        obtain ⟨T3, cs3, rfl⟩ := Rep.form hv3
        clear hv3
        have m3 := (L.eats n).exp _ _ _ H3.out
        clear f3
        go_wp2_with fail
        refine PPost.call (want_any [41] _ _ _ q3) (fun w' hn hf => ⟨rfl, .bad (F3.out.trans hf) (by simp only [HX.out, L.Rd.bind, H1.out, HD.out, tail2, H2.out, H3.out, Bool.false_eq_true, if_false, if_true, hn])⟩) ?_
        rintro _ s4 _ w4 H4 rfl q4 f4
        have F4 := Lib.hid (F3.out.trans f4)
        have Rx4 := Lib.hid (Rep.over (lo' := w.heap.size) Rx3.out f4 hpb (Nat.le_refl _))
        clear f4
        go_wp2_with fail
        go_ret
        exact .good (x := x) F4.out (by simp only [HX.out, L.Rd.bind, H1.out, HD.out, tail2, H2.out, H3.out, H4.out, Bool.false_eq_true, if_false, if_true, L.Rd.ret]) Rx4.out q4
      go_wp2_with fail
      refine PPost.call (take_any [100, 111] _ _ _ q2) (fun w' hn hf => ⟨rfl, .bad (F2.out.trans hf) (by simp only [HX.out, L.Rd.bind, H1.out, HD.out, tail2, H2.out, Bool.false_eq_true, if_false, hn])⟩) ?_
      rintro b3 s3 _ w3 H3 rfl q3 f3
      have F3 := Lib.hid (F2.out.trans f3)
      have l3 := L.take_le _ _ _ _ H3.out
      clear f3
      cases b3
      rotate_left
      · have m3 := L.take_lt (by simp) H3.out
        go_wp2_with fail
        refine PPost.call ((h n (Nat.le_refl _)).block 0 (.inl rfl) _ _ _ q3 (by omega)) (fun w' hn hf => ⟨rfl, .bad (F3.out.trans hf) (by simp only [HX.out, L.Rd.bind, H1.out, HD.out, tail2, H2.out, H3.out, Bool.false_eq_true, if_false, if_true, hn])⟩) ?_
        rintro x s4 v4 w4 H4 hv4 q4 f4
        have F4 := Lib.hid (F3.out.trans f4)
        have Rx4 := Lib.hid (Rep.low (lo' := w.heap.size) hv4 F3.out.1)
        obtain ⟨T4, cs4, rfl⟩ := Rep.form hv4
        clear hv4
        have m4 := (L.eats n).block _ _ _ _ H4.out
        clear f4
        go_wp2_with fail
        refine PPost.call ((h n (Nat.le_refl _)).block 1 (.inr rfl) _ _ _ q4 (by omega)) (fun w' hn hf => ⟨rfl, .bad (F4.out.trans hf) (by simp only [HX.out, L.Rd.bind, H1.out, HD.out, tail2, H2.out, H3.out, H4.out, Bool.false_eq_true, if_false, if_true, hn])⟩) ?_
        rintro y s5 v5 w5 H5 hv5 q5 f5
        have F5 := Lib.hid (F4.out.trans f5)
        have Rx5 := Lib.hid (Rep.over (lo' := w.heap.size) Rx4.out f5 hpb (Nat.le_refl _))
        have Ry5 := Lib.hid (Rep.low (lo' := w.heap.size) hv5 F4.out.1)
        obtain ⟨T5, cs5, rfl⟩ := Rep.form hv5
        clear hv5
        clear f5
        go_wp2_with fail
        go_ret
        exact .good (x := .doing x y) F5.out (by simp only [HX.out, L.Rd.bind, H1.out, HD.out, tail2, H2.out, H3.out, H4.out, H5.out, Bool.false_eq_true, if_false, if_true, L.Rd.ret]) ⟨_, _, rfl, Rx5.out, Ry5.out⟩ q5
      go_wp2_with fail
      refine PPost.call (name_any _ _ _ q3) (fun w' hn hf => ⟨rfl, .bad (F3.out.trans hf) (by simp only [HX.out, L.Rd.bind, H1.out, HD.out, tail2, H2.out, H3.out, Bool.false_eq_true, if_false, hn])⟩) ?_
      rintro nm s4 _ w4 H4 rfl q4 f4
      have F4 := Lib.hid (F3.out.trans f4)
      have m4 := L.getName_lt _ _ _ H4.out
      clear f4
      go_wp2_with fail
      refine PPost.call ((h n (Nat.le_refl _)).call 1 nm _ _ _ q4 (by omega)) (fun w' hn hf => ⟨rfl, .bad (F4.out.trans hf) (by simp only [HX.out, L.Rd.bind, H1.out, HD.out, tail2, H2.out, H3.out, H4.out, Bool.false_eq_true, if_false, hn])⟩) ?_
      rintro x s5 v5 w5 H5 hv5 q5 f5
      have F5 := Lib.hid (F4.out.trans f5)
      have Rx5 := Lib.hid (Rep.low (lo' := w.heap.size) hv5 F4.out.1)
      obtain ⟨T5, cs5, rfl⟩ := Rep.form hv5
      clear hv5
      clear f5
      go_wp2_with fail
      go_ret
      exact .good (x := x) F5.out (by simp only [HX.out, L.Rd.bind, H1.out, HD.out, tail2, H2.out, H3.out, H4.out, H5.out, Bool.false_eq_true, if_false]) Rx5.out q5
end Go.Proofs.YtpdbkdcdlafobaaGreatDoor
end
section
namespace Go.Proofs.YtpdbkdcdlafobaaGreatDoor
open Go.RowKit
theorem good : ∀ n, ∀ k ≤ n, Good k
  | 0, k, hk => by
    have : k = 0 := by omega
    subst this
    exact ⟨fun _ _ _ _ _ _ h => by omega, fun _ _ _ _ _ _ h => by omega, fun _ _ _ _ h => by omega, fun _ _ _ _ h => by omega, fun _ _ _ _ _ _ h => by omega, fun _ _ _ _ _ _ h => by omega,
      fun _ _ _ _ _ _ h => by omega, fun _ _ _ _ h => by omega, fun _ _ _ _ h => by omega, fun _ _ _ _ h => by omega, fun _ _ _ _ h => by omega, fun _ _ _ _ h => by omega⟩
  | n + 1, k, hk => by
    have ih := good n
    rcases Nat.lt_or_ge k (n + 1) with hlt | hge
    · exact ih k (by omega)
    have : k = n + 1 := by omega
    subst this
    have hn := ih n (Nat.le_refl _)
    exact ⟨body_good hn, block_good hn, com_good ih, step_good ih, either_good ih, proc_good ih, call_good ih, arg_good hn, exp_good hn, fun pb s w hp h => sum_good ih pb s w hp (by omega), fun pb s w hp h => product_good ih pb s w hp (by omega),
      fun pb s w hp h => by
        match n, ih, hn, h with
        | 0, _, _, h => omega
        | m + 1, ih, hn, h => exact atom_good (fun k hk => ih k (by omega)) pb s w hp h hn⟩
end Go.Proofs.YtpdbkdcdlafobaaGreatDoor
end
