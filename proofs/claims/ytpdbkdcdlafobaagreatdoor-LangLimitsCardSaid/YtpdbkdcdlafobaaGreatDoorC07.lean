/- The contract of inRow of package lang. Contracts of the terms' method node. Contracts of the program's functions, with no condition beyond what each theorem states. -/
import Derived.Test.YtpdbkdcdlafobaaGreatDoorC06
import Derived.Test.YtpdbkdcdlafobaaGreatDoorC01
import Derived.RegionTactic
import Derived.BigRegion
import Derived.ChangeAlike
section
namespace Go.Proofs.YtpdbkdcdlafobaaGreatDoor
open Go.RowKit
theorem steps_pos {w : World} {A : Nat → Prop} {t : L.Tm} {v : Value} (h : Rep w A t v) : 1 ≤ (L.stepsOf t).length := by
  cases t <;> first | exact Nat.le_refl _ | (obtain ⟨_, _, _, h2, _⟩ := h; exact Nat.le_of_succ_le h2)
theorem flat_pos {w : World} {A : Nat → Prop} {ts : List L.Tm} {vs : List Value} (h : RepL w A ts vs) (hne : ts ≠ []) : 1 ≤ (ts.flatMap L.stepsOf).length := by
  match ts, hne, h with
  | t :: ts, _, ⟨_, _, _, h, _⟩ => rw [List.flatMap_cons, List.length_append]; have := steps_pos h; omega
set_option maxHeartbeats 1000000 in
theorem inRow_any (A A' : Nat → Prop) (v : Value) (ts : List L.Tm) (vs : List Value) (w : World) (h : w.ownsRow 0 34 1 v ts.length vs) (hr : RepL w A ts vs) (hA : ∀ b, A b → A' b) (hA2 : ∀ b, w.heap.size ≤ b → A' b) (hne : ts ≠ []) (hz : (ts.flatMap L.stepsOf).length ≤ 1000000000) :
    Calls Tryz.prog 51 #[v] w fun e w' => ∃ v', e = .returned v' ∧ Rep w' A' (L.inRow ts) v' ∧ Frm (fun _ => False) w w' := by
  have hlen : 0 < ts.length := List.length_pos_iff.2 hne
  have hfp := flat_pos hr hne
  have hcell := @World.ownsRow.cells _ _ _ _ _ _ _ h
  rcases h.2 with ⟨rfl, hn⟩ | ⟨g, cap, cur, rfl, _, hg, hn, hcap, _, ht⟩
  · omega
  have hc0 := hcell (g := g) rfl
  have hkm : ts.length ≤ 9223372036854775807 := by unfold maxLen at hcap; omega
  clear hcell hn hcap ht h
  go_enter Tryz.func51, Tryz.ntmps51
  go_wp2_with fail
  go_loopg [3, 10] (ts.length + 1) (fun n fv i wr => ∃ (k : Nat) (xs : List Value), k ≤ ts.length ∧ n = ts.length + 1 - k ∧ i = .int .i64 k ∧ wr.ownsRow w.heap.size 34 1 fv (pre ts k).length xs ∧ Hid (RepL w A (pre ts k) xs) ∧ Frm (fun _ => False) w wr)
  case atStart => exact ⟨0, [], Nat.zero_le _, rfl, rfl, World.ownsRow_nil _ _ _ _, rfl, Frm.refl _ _⟩
  case round =>
    obtain ⟨k, xs, hk, rfl, rfl, hown, HR, hf⟩ := hrel
    by_cases hlt : k < ts.length
    · obtain ⟨u, hu, hru⟩ := hr.at_ hlt
      have hcu := hf.cell id (hc0 k u hu)
      rw [add_zero_off] at hcu
      have HP := Lib.hid (pre_succ hlt)
      have HL := Lib.hid (@pre_le ts (k + 1))
      generalize ts[k] = t at hru HP
      cases hir : L.isRow t
      · obtain ⟨T, cs, rfl, hT⟩ := hru.notRow hir
        have HS : Hid (L.stepsOf t = [t]) := by cases t <;> first | rfl | simp [L.isRow] at hir
        have HX := Lib.hid (RepL.append (show RepL w A [t] [.iface T (.agg cs)] from ⟨_, _, rfl, hru, rfl⟩) HR.out)
        have a1 := fun W => assert_row_no W T (.agg cs) hT
        clear hru hu hir
        obtain ⟨i0, hi, hz0, hz1, hz2⟩ := info_parts info_term
        have hll : (pre ts k).length + 1 ≤ 1000000000 := by have := HL.out; rw [HP.out, HS.out, List.length_append, List.length_singleton] at this; omega
        go_wp2_with (at_builtin; refine wpList_append_own _ rfl _ _ 100 rfl w.heap.size 34 i0 .nilIface 1 16 Tryz.underlying100 hi hz0 hz1 hz2 rfl (by decide) _ _ _ rfl ((hown.alloc _).alloc _) ⟨wr.heap.size + 1, 0, none⟩ 1 1 [.iface T (.agg cs)] rfl rfl ?c1 ?c2 ?c3 ?c4 ?c5 ?_)
        case c1 => exact cell_one_at (by simp)
        case c2 => simp [Value.oneCell']
        case c3 => unfold maxLen; omega
        case c4 => omega
        case c5 => have := hf.1; simp; omega
        intro v' w1 hown1 hgrow _
        have F1 := Lib.hid (((hf.alloc _).alloc _).own ((hown.alloc _).alloc _) hgrow)
        clear hgrow hown hi hz0 hz1 hz2 a1
        go_wp2_with fail
        go_roundg (ts.length + 1 - (k + 1))
        case measure => omega
        case rel =>
          refine ⟨k + 1, xs ++ [.iface T (.agg cs)], by omega, rfl, by go_num, ?_, ?_, F1.out⟩
          · rw [HP.out, HS.out, List.length_append]; exact hown1
          · exact show RepL _ _ _ _ by rw [HP.out, HS.out]; exact HX.out
      · obtain ⟨us, rfl⟩ : ∃ us, t = .row us := by cases t <;> first | exact ⟨_, rfl⟩ | simp [L.isRow] at hir
        obtain ⟨sl, ys, rfl, h2, ho, _, hru⟩ := hru
        have HS : Hid (L.stepsOf (.row us) = us) := rfl
        have HX := Lib.hid (RepL.append hru HR.out)
        have hcell := @World.ownsRow.cells _ _ _ _ _ _ _ ho
        rcases ho.2 with ⟨rfl, hn⟩ | ⟨g2, cap2, cur2, rfl, _⟩
        · omega
        have hc2 := hcell (g := g2) rfl
        have hyl := RepL.len hru
        have hone := hru.one
        have hc3 : Hid (∀ (j : Nat) (u : Value), ys[j]? = some u → wr.cell? ((⟨g2, 0, none⟩ : Addr).add j) = some u) := fun j u hu => hf.cell id (hc2 j u hu)
        clear hc2
        have a1 := fun W => assert_row_yes W (.agg #[.slice (some ⟨g2, 0, none⟩) us.length cap2])
        clear hru hu hir hcell ho
        obtain ⟨i0, hi, hz0, hz1, hz2⟩ := info_parts info_term
        have hll : (pre ts k).length + us.length ≤ 1000000000 := by have := HL.out; rw [HP.out, HS.out, List.length_append] at this; omega
        go_wp2_with (at_builtin; refine wpList_append_own _ rfl _ _ 100 rfl w.heap.size 34 i0 .nilIface 1 16 Tryz.underlying100 hi hz0 hz1 hz2 rfl (by decide) _ _ _ rfl (hown.alloc _) ⟨g2, 0, none⟩ us.length cap2 ys rfl ?c0 ?c1 hone ?c3 ?c4 ?c5 ?_)
        case c0 => omega
        case c1 => exact fun j u hu => ((Frm.refl (fun _ => False) wr).alloc _).cell id (hc3.out j u hu)
        case c3 => unfold maxLen; omega
        case c4 => omega
        case c5 => have := hf.1; simp; omega
        intro v' w1 hown1 hgrow _
        have F1 := Lib.hid ((hf.alloc _).own (hown.alloc _) hgrow)
        clear hgrow hown hi hz0 hz1 hz2 a1 hone hyl
        go_wp2_with fail
        go_roundg (ts.length + 1 - (k + 1))
        case measure => omega
        case rel =>
          refine ⟨k + 1, xs ++ ys, by omega, rfl, by go_num, ?_, ?_, F1.out⟩
          · rw [HP.out, HS.out, List.length_append]; exact hown1
          · exact show RepL _ _ _ _ by rw [HP.out, HS.out]; exact HX.out
    · have e : k = ts.length := by omega
      have HA : Hid (pre ts k = ts.flatMap L.stepsOf) := by rw [e]; exact pre_all ts
      have HI : Hid (L.inRow ts = match ts.flatMap L.stepsOf with | [t] => t | l => .row l) := rfl
      rw [HA.out] at hown
      have HR' : Hid (RepL w A (ts.flatMap L.stepsOf) xs) := by have := HR.out; rw [HA.out] at this; exact this
      clear HR HA e
      generalize ts.flatMap L.stepsOf = l at hown HR' HI hz hfp
      by_cases h1 : l.length = 1
      · obtain ⟨t, rfl⟩ : ∃ t, l = [t] := by
          match l, h1 with
          | [t], _ => exact ⟨t, rfl⟩
        obtain ⟨u, us, rfl, hu, hus⟩ := HR'.out
        have : us = [] := hus
        subst this
        have HU := Lib.hid (Rep.keep (A' := A') (hf.same (fun _ _ _ => id)) (fun b hb _ => hA b hb) hu)
        have hcell := @World.ownsRow.cells _ _ _ _ _ _ _ hown
        rcases hown.2 with ⟨rfl, hn⟩ | ⟨g3, cap3, cur3, rfl, _⟩
        · simp at hn
        have hc5 := hcell (g := g3) rfl 0 u rfl
        rw [add_zero_off] at hc5
        clear hcell hown hu hus HR'
        go_wp2_with fail
        go_ret
        exact ⟨_, rfl, by rw [HI.out]; exact HU.out, hf⟩
      · have hl2 : 2 ≤ l.length := by omega
        have HU := Lib.hid (RepL.keep (A' := A') (hf.same (fun _ _ _ => id)) (fun b hb _ => hA b hb) HR'.out)
        obtain ⟨Ad, c, rfl⟩ := own_form hown
        go_wp2_with fail
        go_ret
        refine ⟨_, rfl, ?_, hf⟩
        have : L.inRow ts = .row l := by
          rw [HI.out]
          match l, h1 with
          | [], _ => rfl
          | [_], h1 => exact absurd rfl h1
          | _ :: _ :: _, _ => rfl
        rw [this]
        exact ⟨_, xs, rfl, hl2, own_base hown (Nat.zero_le _), fun g hg => hA2 g (hown.lt g hg).1, HU.out⟩
end Go.Proofs.YtpdbkdcdlafobaaGreatDoor
end
section
namespace Go.Proofs.YtpdbkdcdlafobaaGreatDoor
open Go.RowKit
/-- A method without arguments is called through an interface value: its function is entered. -/
theorem wpList_invoke {P : Program} {ops : Array Oper} {Q : Exit → Act → World → Prop} {a : Act} {w : World} {rest : List Oper} {o : Oper} (hgd : o.guard = none) (r : Operand) (name : String) (tys : Array TypeId)
    (ho : o.op = .call { callee := .invoke r name, args := #[], argTypes := tys }) (v : Value) (hr : a.eval r = v) (F : FuncId) (x : Value) (hm : (callMethod v name #[]).run P w = .ok (.enter F #[x]) w)
    (h : ∀ K : Act → World → Prop, (∀ a w, wpList P ops Q rest a w → K a w) → Calls P F #[x] w fun e w' => match e, w' with
      | .returned v, w'' => K (a.put o.dst v) w''
      | .panicked chain, w'' => Q (.panic chain) a w''
      | .outgrown, _ => LetsOut Q) : wpList P ops Q (o :: rest) a w := by
  refine wpList_plain hgd fun K hK => ?_
  unfold Oper.wp execOp
  simp only [ho, resolve, invoke, Sem.run_bind, Sem.run_pure, Result.andThen_ok, List.map_toArray, List.map_nil, hr, Array.append_empty]
  have e : (#[v] ++ #[] : Array Value)[0]? = some v := rfl
  have e2 : (#[v] : Array Value).extract 1 (#[v] : Array Value).size = #[] := rfl
  simp only [e2]
  simp [hm, Oper.upon_enter]
  exact h K hK

/-- What node hands back: the node's fields, and the kids. -/
def NodePost (A : Nat → Prop) (t : L.Tm) (w : World) (e : Ending) (w' : World) : Prop :=
  Frm (fun _ => False) w w' ∧ ∃ pv kv ks, e = .returned (.tuple #[.agg #[.int .i64 (L.kindOf t), .int .i64 (L.typeOf t), .string (str (L.nameOf t)), .int .i64 (L.valueOf t), pv, .int .i64 (L.resultOf t), .slice none 0 0], kv]) ∧
    w'.ownsRow w.heap.size 49 2 pv (L.paramsOf t).length (prs (L.paramsOf t)) ∧ w'.ownsRow 0 34 1 kv (L.kidsOf t).length ks ∧ (∀ g, kv.ownBlock = some g → A g ∨ w.heap.size ≤ g) ∧ RepL w' (fun b => A b ∨ w.heap.size ≤ b) (L.kidsOf t) ks
theorem Rep.wide {w w' : World} {A : Nat → Prop} {t : L.Tm} {v : Value} (h : Rep w A t v) (hf : Frm (fun _ => False) w w') : Rep w' (fun b => A b ∨ w.heap.size ≤ b) t v :=
  Rep.keep (hf.same fun _ _ _ => id) (fun _ hb _ => .inl hb) h
theorem own_new (w : World) (e : TypeId) (lo : Nat) (vs : List Value) (n : Nat) (hl : vs.length = n) (hm : n ≤ maxLen) (h : lo ≤ w.heap.size) : (w.alloc (.cells vs.toArray e)).ownsRow lo e 1 (.slice (some ⟨w.heap.size, 0, none⟩) n n) n vs := by
  refine ⟨by omega, .inr ⟨w.heap.size, n, vs.toArray, rfl, h, Blk.new w e vs.toArray, Nat.le_refl _, hm, by simp; omega, ?_⟩⟩
  rw [List.take_of_length_le (by simp; omega)]
set_option maxHeartbeats 1000000 in
theorem node_skip (A : Nat → Prop) (w : World) : Calls Tryz.prog 198 #[.agg #[]] w (NodePost A (.skip) w) := by
  go_enter Tryz.func198, Tryz.ntmps198
  go_wp2_with fail
  exact bodyPost_ret (v := .tuple #[.agg #[.int .i64 0, .int .i64 0, .string ⟨#[]⟩, .int .i64 0, .slice none 0 0, .int .i64 0, .slice none 0 0], .slice none 0 0]) (by simp [results, Tryz.results198, go_sem]) rfl ⟨((Frm.refl _ w).alloc _).alloc _, _, _, [], rfl, World.ownsRow_nil _ _ _ _, World.ownsRow_nil _ _ _ _, fun g hg => by simp [Value.ownBlock] at hg, rfl⟩
set_option maxHeartbeats 1000000 in
theorem node_stop (t : Int) (A : Nat → Prop) (w : World) : Calls Tryz.prog 199 #[.agg #[.int .i64 t]] w (NodePost A (.stop t) w) := by
  go_enter Tryz.func199, Tryz.ntmps199
  go_wp2_with fail
  exact bodyPost_ret (v := .tuple #[.agg #[.int .i64 1, .int .i64 t, .string ⟨#[]⟩, .int .i64 0, .slice none 0 0, .int .i64 0, .slice none 0 0], .slice none 0 0]) (by simp [results, Tryz.results199, go_sem]) rfl ⟨((Frm.refl _ w).alloc _).alloc _, _, _, [], rfl, World.ownsRow_nil _ _ _ _, World.ownsRow_nil _ _ _ _, fun g hg => by simp [Value.ownBlock] at hg, rfl⟩
set_option maxHeartbeats 1000000 in
theorem node_fault (t : Int) (A : Nat → Prop) (w : World) : Calls Tryz.prog 200 #[.agg #[.int .i64 t]] w (NodePost A (.fault t) w) := by
  go_enter Tryz.func200, Tryz.ntmps200
  go_wp2_with fail
  exact bodyPost_ret (v := .tuple #[.agg #[.int .i64 2, .int .i64 t, .string ⟨#[]⟩, .int .i64 0, .slice none 0 0, .int .i64 0, .slice none 0 0], .slice none 0 0]) (by simp [results, Tryz.results200, go_sem]) rfl ⟨((Frm.refl _ w).alloc _).alloc _, _, _, [], rfl, World.ownsRow_nil _ _ _ _, World.ownsRow_nil _ _ _ _, fun g hg => by simp [Value.ownBlock] at hg, rfl⟩
set_option maxHeartbeats 1000000 in
theorem node_assign (n : L.Bytes) (x : L.Tm) (a0 : Value) (A : Nat → Prop) (w : World) (hx : Rep w A x a0) : Calls Tryz.prog 188 #[.agg #[.string (str n), a0]] w (NodePost A (.assign n x) w) := by
  obtain ⟨T0, c0, rfl⟩ := Rep.form hx
  have R0 := Lib.hid hx
  clear hx
  go_enter Tryz.func188, Tryz.ntmps188
  go_wp2_with fail
  go_region
  go_wp2_with fail
  refine bodyPost_ret (v := .tuple #[.agg #[.int .i64 4, .int .i64 0, .string (str n), .int .i64 0, .slice none 0 0, .int .i64 0, .slice none 0 0], .slice (some ⟨w.heap.size + 1 + 1, 0, none⟩) 1 1]) (by simp [results, Tryz.results188, go_sem]) rfl ⟨(((Frm.refl _ w).alloc _).alloc _).alloc _, _, _, [.iface T0 (.agg c0)], rfl, World.ownsRow_nil _ _ _ _, ?_, fun g hg => .inr (by simp [Value.ownBlock] at hg; omega), ?_⟩
  · have := own_new ((w.alloc (.cells #[.string (str n), .iface T0 (.agg c0)] 116)).alloc (.cells #[.int .i64 4, .int .i64 0, .string (str n), .int .i64 0, .slice none 0 0, .int .i64 0, .slice none 0 0] 47)) 34 0 [.iface T0 (.agg c0)] 1 rfl (by unfold maxLen; omega) (Nat.zero_le _)
    simp at this; exact this
  · exact ⟨_, _, rfl, Rep.wide R0.out ((((Frm.refl _ w).alloc _).alloc _).alloc _), rfl⟩
set_option maxHeartbeats 1000000 in
theorem node_choice (t : Int) (x : L.Tm) (a0 : Value) (y : L.Tm) (a1 : Value) (z : L.Tm) (a2 : Value) (A : Nat → Prop) (w : World) (hx : Rep w A x a0) (hy : Rep w A y a1) (hz : Rep w A z a2) : Calls Tryz.prog 189 #[.agg #[.int .i64 t, a0, a1, a2]] w (NodePost A (.choice t x y z) w) := by
  obtain ⟨T0, c0, rfl⟩ := Rep.form hx
  have R0 := Lib.hid hx
  obtain ⟨T1, c1, rfl⟩ := Rep.form hy
  have R1 := Lib.hid hy
  obtain ⟨T2, c2, rfl⟩ := Rep.form hz
  have R2 := Lib.hid hz
  clear hx hy hz
  go_enter Tryz.func189, Tryz.ntmps189
  go_wp2_with fail
  go_region
  go_wp2_with fail
  refine bodyPost_ret (v := .tuple #[.agg #[.int .i64 5, .int .i64 t, .string ⟨#[]⟩, .int .i64 0, .slice none 0 0, .int .i64 0, .slice none 0 0], .slice (some ⟨w.heap.size + 1 + 1, 0, none⟩) 3 3]) (by simp [results, Tryz.results189, go_sem]) rfl ⟨(((Frm.refl _ w).alloc _).alloc _).alloc _, _, _, [.iface T0 (.agg c0), .iface T1 (.agg c1), .iface T2 (.agg c2)], rfl, World.ownsRow_nil _ _ _ _, ?_, fun g hg => .inr (by simp [Value.ownBlock] at hg; omega), ?_⟩
  · have := own_new ((w.alloc (.cells #[.int .i64 t, .iface T0 (.agg c0), .iface T1 (.agg c1), .iface T2 (.agg c2)] 118)).alloc (.cells #[.int .i64 5, .int .i64 t, .string ⟨#[]⟩, .int .i64 0, .slice none 0 0, .int .i64 0, .slice none 0 0] 47)) 34 0 [.iface T0 (.agg c0), .iface T1 (.agg c1), .iface T2 (.agg c2)] 3 rfl (by unfold maxLen; omega) (Nat.zero_le _)
    simp at this; exact this
  · exact ⟨_, _, rfl, Rep.wide R0.out ((((Frm.refl _ w).alloc _).alloc _).alloc _), ⟨_, _, rfl, Rep.wide R1.out ((((Frm.refl _ w).alloc _).alloc _).alloc _), ⟨_, _, rfl, Rep.wide R2.out ((((Frm.refl _ w).alloc _).alloc _).alloc _), rfl⟩⟩⟩
set_option maxHeartbeats 1000000 in
theorem node_loop (x : L.Tm) (a0 : Value) (y : L.Tm) (a1 : Value) (A : Nat → Prop) (w : World) (hx : Rep w A x a0) (hy : Rep w A y a1) : Calls Tryz.prog 190 #[.agg #[a0, a1]] w (NodePost A (.loop x y) w) := by
  obtain ⟨T0, c0, rfl⟩ := Rep.form hx
  have R0 := Lib.hid hx
  obtain ⟨T1, c1, rfl⟩ := Rep.form hy
  have R1 := Lib.hid hy
  clear hx hy
  go_enter Tryz.func190, Tryz.ntmps190
  go_wp2_with fail
  go_region
  go_wp2_with fail
  refine bodyPost_ret (v := .tuple #[.agg #[.int .i64 6, .int .i64 0, .string ⟨#[]⟩, .int .i64 0, .slice none 0 0, .int .i64 0, .slice none 0 0], .slice (some ⟨w.heap.size + 1 + 1, 0, none⟩) 2 2]) (by simp [results, Tryz.results190, go_sem]) rfl ⟨(((Frm.refl _ w).alloc _).alloc _).alloc _, _, _, [.iface T0 (.agg c0), .iface T1 (.agg c1)], rfl, World.ownsRow_nil _ _ _ _, ?_, fun g hg => .inr (by simp [Value.ownBlock] at hg; omega), ?_⟩
  · have := own_new ((w.alloc (.cells #[.iface T0 (.agg c0), .iface T1 (.agg c1)] 120)).alloc (.cells #[.int .i64 6, .int .i64 0, .string ⟨#[]⟩, .int .i64 0, .slice none 0 0, .int .i64 0, .slice none 0 0] 47)) 34 0 [.iface T0 (.agg c0), .iface T1 (.agg c1)] 2 rfl (by unfold maxLen; omega) (Nat.zero_le _)
    simp at this; exact this
  · exact ⟨_, _, rfl, Rep.wide R0.out ((((Frm.refl _ w).alloc _).alloc _).alloc _), ⟨_, _, rfl, Rep.wide R1.out ((((Frm.refl _ w).alloc _).alloc _).alloc _), rfl⟩⟩
set_option maxHeartbeats 1000000 in
theorem node_fresh (t : Int) (n : L.Bytes) (x : L.Tm) (a0 : Value) (y : L.Tm) (a1 : Value) (A : Nat → Prop) (w : World) (hx : Rep w A x a0) (hy : Rep w A y a1) : Calls Tryz.prog 193 #[.agg #[.int .i64 t, .string (str n), a0, a1]] w (NodePost A (.fresh t n x y) w) := by
  obtain ⟨T0, c0, rfl⟩ := Rep.form hx
  have R0 := Lib.hid hx
  obtain ⟨T1, c1, rfl⟩ := Rep.form hy
  have R1 := Lib.hid hy
  clear hx hy
  go_enter Tryz.func193, Tryz.ntmps193
  go_wp2_with fail
  go_region
  go_wp2_with fail
  refine bodyPost_ret (v := .tuple #[.agg #[.int .i64 7, .int .i64 t, .string (str n), .int .i64 0, .slice none 0 0, .int .i64 0, .slice none 0 0], .slice (some ⟨w.heap.size + 1 + 1, 0, none⟩) 2 2]) (by simp [results, Tryz.results193, go_sem]) rfl ⟨(((Frm.refl _ w).alloc _).alloc _).alloc _, _, _, [.iface T0 (.agg c0), .iface T1 (.agg c1)], rfl, World.ownsRow_nil _ _ _ _, ?_, fun g hg => .inr (by simp [Value.ownBlock] at hg; omega), ?_⟩
  · have := own_new ((w.alloc (.cells #[.int .i64 t, .string (str n), .iface T0 (.agg c0), .iface T1 (.agg c1)] 126)).alloc (.cells #[.int .i64 7, .int .i64 t, .string (str n), .int .i64 0, .slice none 0 0, .int .i64 0, .slice none 0 0] 47)) 34 0 [.iface T0 (.agg c0), .iface T1 (.agg c1)] 2 rfl (by unfold maxLen; omega) (Nat.zero_le _)
    simp at this; exact this
  · exact ⟨_, _, rfl, Rep.wide R0.out ((((Frm.refl _ w).alloc _).alloc _).alloc _), ⟨_, _, rfl, Rep.wide R1.out ((((Frm.refl _ w).alloc _).alloc _).alloc _), rfl⟩⟩
set_option maxHeartbeats 1000000 in
theorem node_num (i : Int) (A : Nat → Prop) (w : World) : Calls Tryz.prog 201 #[.agg #[.int .i64 i]] w (NodePost A (.num i) w) := by
  go_enter Tryz.func201, Tryz.ntmps201
  go_wp2_with fail
  exact bodyPost_ret (v := .tuple #[.agg #[.int .i64 10, .int .i64 1, .string ⟨#[]⟩, .int .i64 i, .slice none 0 0, .int .i64 0, .slice none 0 0], .slice none 0 0]) (by simp [results, Tryz.results201, go_sem]) rfl ⟨((Frm.refl _ w).alloc _).alloc _, _, _, [], rfl, World.ownsRow_nil _ _ _ _, World.ownsRow_nil _ _ _ _, fun g hg => by simp [Value.ownBlock] at hg, rfl⟩
set_option maxHeartbeats 1000000 in
theorem node_read (n : L.Bytes) (A : Nat → Prop) (w : World) : Calls Tryz.prog 185 #[.agg #[.string (str n)]] w (NodePost A (.read n) w) := by
  go_enter Tryz.func185, Tryz.ntmps185
  go_wp2_with fail
  exact bodyPost_ret (v := .tuple #[.agg #[.int .i64 11, .int .i64 1, .string (str n), .int .i64 0, .slice none 0 0, .int .i64 0, .slice none 0 0], .slice none 0 0]) (by simp [results, Tryz.results185, go_sem]) rfl ⟨((Frm.refl _ w).alloc _).alloc _, _, _, [], rfl, World.ownsRow_nil _ _ _ _, World.ownsRow_nil _ _ _ _, fun g hg => by simp [Value.ownBlock] at hg, rfl⟩
set_option maxHeartbeats 1000000 in
theorem node_binary (k : Int) (x : L.Tm) (a0 : Value) (y : L.Tm) (a1 : Value) (A : Nat → Prop) (w : World) (hx : Rep w A x a0) (hy : Rep w A y a1) : Calls Tryz.prog 191 #[.agg #[.int .i64 k, a0, a1]] w (NodePost A (.binary k x y) w) := by
  obtain ⟨T0, c0, rfl⟩ := Rep.form hx
  have R0 := Lib.hid hx
  obtain ⟨T1, c1, rfl⟩ := Rep.form hy
  have R1 := Lib.hid hy
  clear hx hy
  go_enter Tryz.func191, Tryz.ntmps191
  go_wp2_with fail
  go_region
  go_wp2_with fail
  refine bodyPost_ret (v := .tuple #[.agg #[.int .i64 k, .int .i64 1, .string ⟨#[]⟩, .int .i64 0, .slice none 0 0, .int .i64 0, .slice none 0 0], .slice (some ⟨w.heap.size + 1 + 1, 0, none⟩) 2 2]) (by simp [results, Tryz.results191, go_sem]) rfl ⟨(((Frm.refl _ w).alloc _).alloc _).alloc _, _, _, [.iface T0 (.agg c0), .iface T1 (.agg c1)], rfl, World.ownsRow_nil _ _ _ _, ?_, fun g hg => .inr (by simp [Value.ownBlock] at hg; omega), ?_⟩
  · have := own_new ((w.alloc (.cells #[.int .i64 k, .iface T0 (.agg c0), .iface T1 (.agg c1)] 122)).alloc (.cells #[.int .i64 k, .int .i64 1, .string ⟨#[]⟩, .int .i64 0, .slice none 0 0, .int .i64 0, .slice none 0 0] 47)) 34 0 [.iface T0 (.agg c0), .iface T1 (.agg c1)] 2 rfl (by unfold maxLen; omega) (Nat.zero_le _)
    simp at this; exact this
  · exact ⟨_, _, rfl, Rep.wide R0.out ((((Frm.refl _ w).alloc _).alloc _).alloc _), ⟨_, _, rfl, Rep.wide R1.out ((((Frm.refl _ w).alloc _).alloc _).alloc _), rfl⟩⟩
set_option maxHeartbeats 1000000 in
theorem node_doing (x : L.Tm) (a0 : Value) (y : L.Tm) (a1 : Value) (A : Nat → Prop) (w : World) (hx : Rep w A x a0) (hy : Rep w A y a1) : Calls Tryz.prog 192 #[.agg #[a0, a1]] w (NodePost A (.doing x y) w) := by
  obtain ⟨T0, c0, rfl⟩ := Rep.form hx
  have R0 := Lib.hid hx
  obtain ⟨T1, c1, rfl⟩ := Rep.form hy
  have R1 := Lib.hid hy
  clear hx hy
  go_enter Tryz.func192, Tryz.ntmps192
  go_wp2_with fail
  go_region
  go_wp2_with fail
  refine bodyPost_ret (v := .tuple #[.agg #[.int .i64 17, .int .i64 1, .string ⟨#[]⟩, .int .i64 0, .slice none 0 0, .int .i64 0, .slice none 0 0], .slice (some ⟨w.heap.size + 1 + 1, 0, none⟩) 2 2]) (by simp [results, Tryz.results192, go_sem]) rfl ⟨(((Frm.refl _ w).alloc _).alloc _).alloc _, _, _, [.iface T0 (.agg c0), .iface T1 (.agg c1)], rfl, World.ownsRow_nil _ _ _ _, ?_, fun g hg => .inr (by simp [Value.ownBlock] at hg; omega), ?_⟩
  · have := own_new ((w.alloc (.cells #[.iface T0 (.agg c0), .iface T1 (.agg c1)] 124)).alloc (.cells #[.int .i64 17, .int .i64 1, .string ⟨#[]⟩, .int .i64 0, .slice none 0 0, .int .i64 0, .slice none 0 0] 47)) 34 0 [.iface T0 (.agg c0), .iface T1 (.agg c1)] 2 rfl (by unfold maxLen; omega) (Nat.zero_le _)
    simp at this; exact this
  · exact ⟨_, _, rfl, Rep.wide R0.out ((((Frm.refl _ w).alloc _).alloc _).alloc _), ⟨_, _, rfl, Rep.wide R1.out ((((Frm.refl _ w).alloc _).alloc _).alloc _), rfl⟩⟩
set_option maxHeartbeats 1000000 in
theorem node_labelled (n : L.Bytes) (x : L.Tm) (a0 : Value) (A : Nat → Prop) (w : World) (hx : Rep w A x a0) : Calls Tryz.prog 196 #[.agg #[.string (str n), a0]] w (NodePost A (.labelled n x) w) := by
  obtain ⟨T0, c0, rfl⟩ := Rep.form hx
  have R0 := Lib.hid hx
  clear hx
  go_enter Tryz.func196, Tryz.ntmps196
  go_wp2_with fail
  go_region
  go_wp2_with fail
  refine bodyPost_ret (v := .tuple #[.agg #[.int .i64 18, .int .i64 0, .string (str n), .int .i64 0, .slice none 0 0, .int .i64 0, .slice none 0 0], .slice (some ⟨w.heap.size + 1 + 1, 0, none⟩) 1 1]) (by simp [results, Tryz.results196, go_sem]) rfl ⟨(((Frm.refl _ w).alloc _).alloc _).alloc _, _, _, [.iface T0 (.agg c0)], rfl, World.ownsRow_nil _ _ _ _, ?_, fun g hg => .inr (by simp [Value.ownBlock] at hg; omega), ?_⟩
  · have := own_new ((w.alloc (.cells #[.string (str n), .iface T0 (.agg c0)] 133)).alloc (.cells #[.int .i64 18, .int .i64 0, .string (str n), .int .i64 0, .slice none 0 0, .int .i64 0, .slice none 0 0] 47)) 34 0 [.iface T0 (.agg c0)] 1 rfl (by unfold maxLen; omega) (Nat.zero_le _)
    simp at this; exact this
  · exact ⟨_, _, rfl, Rep.wide R0.out ((((Frm.refl _ w).alloc _).alloc _).alloc _), rfl⟩
set_option maxHeartbeats 1000000 in
theorem node_exit (t : Int) (n : L.Bytes) (A : Nat → Prop) (w : World) : Calls Tryz.prog 197 #[.agg #[.int .i64 t, .string (str n)]] w (NodePost A (.exit t n) w) := by
  go_enter Tryz.func197, Tryz.ntmps197
  go_wp2_with fail
  exact bodyPost_ret (v := .tuple #[.agg #[.int .i64 19, .int .i64 t, .string (str n), .int .i64 0, .slice none 0 0, .int .i64 0, .slice none 0 0], .slice none 0 0]) (by simp [results, Tryz.results197, go_sem]) rfl ⟨((Frm.refl _ w).alloc _).alloc _, _, _, [], rfl, World.ownsRow_nil _ _ _ _, World.ownsRow_nil _ _ _ _, fun g hg => by simp [Value.ownBlock] at hg, rfl⟩
theorem info_term2 : (Tryz.prog.info? 34).map (fun i => (i.zero, i.size, i.bytes)) = some (some .nilIface, 1, 16) := by kernel_rfl
set_option maxHeartbeats 1000000 in
theorem node_call (t : Int) (n : L.Bytes) (ts : List L.Tm) (sl : Value) (vs : List Value) (A : Nat → Prop) (w : World) (ho : w.ownsRow 0 34 1 sl ts.length vs) (ha : ∀ g, sl.ownBlock = some g → A g) (hr : RepL w A ts vs) :
    Calls Tryz.prog 186 #[.agg #[.int .i64 t, .string (str n), sl]] w (NodePost A (.call t n ts) w) := by
  obtain ⟨Ad, c, rfl⟩ := own_form ho
  have HO := Lib.hid ho
  have HR := Lib.hid hr
  clear ho hr
  go_enter Tryz.func186, Tryz.ntmps186
  go_wp2_with fail
  go_region
  go_wp2_with fail
  have F : Frm (fun _ => False) w ((w.alloc (.cells #[.int .i64 t, .string (str n), .slice Ad ts.length c] 106)).alloc (.cells #[.int .i64 8, .int .i64 t, .string (str n), .int .i64 0, .slice none 0 0, .int .i64 0, .slice none 0 0] 47)).drew := (((Frm.refl _ w).alloc _).alloc _).drew
  exact bodyPost_ret (v := .tuple #[.agg #[.int .i64 8, .int .i64 t, .string (str n), .int .i64 0, .slice none 0 0, .int .i64 0, .slice none 0 0], .slice Ad ts.length c]) (by simp [results, Tryz.results186, go_sem]) rfl
    ⟨F, _, _, vs, rfl, World.ownsRow_nil _ _ _ _, F.row HO.out (fun _ _ h => h) (Nat.le_refl _), fun g hg => .inl (ha g hg), RepL.keep (F.same fun _ _ _ => id) (fun _ hb _ => .inl hb) HR.out⟩
theorem RepL.take {w : World} {A : Nat → Prop} : ∀ {ts : List L.Tm} {vs : List Value}, RepL w A ts vs → ∀ k, RepL w A (ts.take k) (vs.take k)
  | _, _, _, 0 => by simp [RepL]
  | [], _, h, k + 1 => by rw [show _ = [] from h]; simp [RepL]
  | _ :: _, _, ⟨v, vs', e, hv, hr⟩, k + 1 => ⟨v, vs'.take k, by rw [e]; rfl, hv, RepL.take hr k⟩
theorem own_prefix {w : World} {base n m cap : Nat} {e : TypeId} {a : Option Addr} {xs : List Value} (h : w.ownsRow base e 1 (.slice a n cap) n xs) (hm : m ≤ n) (h0 : 0 < n) : w.ownsRow base e 1 (.slice a m cap) m (xs.take m) := by
  have hl := h.1
  rcases h.2 with ⟨e, hn⟩ | ⟨g, cap', cur, e, h1, h2, h3, h4, h5, h6⟩
  · omega
  · injection e with e1 e2 e3
    subst e1 e3
    refine ⟨by rw [List.length_take]; omega, .inr ⟨g, cap, cur, rfl, h1, h2, by omega, h4, h5, ?_⟩⟩
    rw [← h6, List.take_take]; congr 1; omega
theorem RepL.at2 {w : World} {A : Nat → Prop} {ts : List L.Tm} {vs : List Value} (h : RepL w A ts vs) {k : Nat} {t : L.Tm} (ht : ts[k]? = some t) : ∃ v, vs[k]? = some v ∧ Rep w A t v := by
  obtain ⟨hk, rfl⟩ := List.getElem?_eq_some_iff.1 ht
  exact h.at_ hk
theorem rowKids_two {ts : List L.Tm} {y z : L.Tm} (h : ts.length = 2) (hy : ts[0]? = some y) (hz : ts[1]? = some z) : L.rowKids ts = [y, z] := by
  match ts, h with
  | [a, b], _ => cases hy; cases hz; rfl
theorem rowKids_more {ts : List L.Tm} {n : Nat} {z : L.Tm} (h : ts.length = n + 3) (hz : ts[n + 2]? = some z) : L.rowKids ts = [.row (ts.take (n + 2)), z] := by
  have h1 : ts.getLast? = some z := by rw [List.getLast?_eq_getElem?, h]; exact hz
  unfold L.rowKids
  rw [h1]
  have h2 : ts.dropLast = ts.take (n + 2) := by rw [List.dropLast_eq_take, h]; rfl
  simp only [h2, h]
  rw [if_neg (by omega)]
set_option maxHeartbeats 1000000 in
theorem node_row (ts : List L.Tm) (sl : Value) (vs : List Value) (A : Nat → Prop) (w : World) (h2 : 2 ≤ ts.length) (ho : w.ownsRow 0 34 1 sl ts.length vs) (ha : ∀ g, sl.ownBlock = some g → A g) (hr : RepL w A ts vs) :
    Calls Tryz.prog 187 #[.agg #[sl]] w (NodePost A (.row ts) w) := by
  have hcell := @World.ownsRow.cells _ _ _ _ _ _ _ ho
  rcases ho.2 with ⟨rfl, hn⟩ | ⟨g, cap, cur, rfl, _, hg, hn, hcap, hcur, ht⟩
  · omega
  have hc0 := hcell (g := g) rfl
  obtain ⟨y, hy⟩ : ∃ y, ts[0]? = some y := ⟨_, List.getElem?_eq_getElem (by omega)⟩
  obtain ⟨v0, hv0, hr0⟩ := hr.at2 hy
  have c0 := hc0 0 v0 hv0
  rw [add_zero_off] at c0
  obtain ⟨T0, s0, rfl⟩ := Rep.form hr0
  unfold maxLen at hcap
  have hone := hr.one
  rcases Nat.lt_or_ge 2 ts.length with hgt | hle
  · obtain ⟨n, hn2⟩ : ∃ n, ts.length = n + 3 := ⟨ts.length - 3, by omega⟩
    obtain ⟨z, hz⟩ : ∃ z, ts[n + 2]? = some z := ⟨_, List.getElem?_eq_getElem (by omega)⟩
    obtain ⟨vz, hvz, hrz⟩ := hr.at2 hz
    have cz := hc0 _ vz hvz
    rw [add_zero_off] at cz
    obtain ⟨Tz, sz, rfl⟩ := Rep.form hrz
    have HK := Lib.hid (rowKids_more hn2 hz)
    rw [hn2] at ho ha hn
    have HN := Lib.hid hn2
    suffices hs : Calls Tryz.prog 187 #[.agg #[.slice (some ⟨g, 0, none⟩) (n + 3) cap]] w (NodePost A (.row ts) w) by rw [hn2]; exact hs
    have c0a : ∀ o1 o2, ((w.alloc o1).alloc o2).cell? ⟨g, 0, none⟩ = some (.iface T0 (.agg s0)) := fun o1 o2 => (((Frm.refl (fun _ => False) w).alloc o1).alloc o2).cell id c0
    have cza : ∀ o1 o2, ((w.alloc o1).alloc o2).cell? ⟨g, n + 2, none⟩ = some (.iface Tz (.agg sz)) := fun o1 o2 => (((Frm.refl (fun _ => False) w).alloc o1).alloc o2).cell id cz
    clear c0 cz
    have HO := Lib.hid (own_prefix ho (m := n + 2) (by omega) (by omega))
    have HR := Lib.hid (RepL.take hr (n + 2))
    have HZ := Lib.hid hrz
    have HA := Lib.hid ha
    have HL : Hid ((ts.take (n + 2)).length = n + 2) := by rw [Hid, List.length_take]; omega
    clear ho hr hrz hr0 hc0 hcell hvz hv0 hcur ht hg h2 hgt ha hone hn2 hy hz
    go_enter Tryz.func187, Tryz.ntmps187
    go_wp2_with fail
    go_region
    go_wp2_with fail
    have F : Frm (fun _ => False) w (((w.alloc (.cells #[.slice (some ⟨g, 0, none⟩) (n + 3) cap] 111)).alloc (.cells #[.int .i64 3, .int .i64 0, .string ⟨#[]⟩, .int .i64 0, .slice none 0 0, .int .i64 0, .slice none 0 0] 47)).alloc (.cells #[.iface 111 (.agg #[.slice (some ⟨g, 0, none⟩) (n + 2) cap]), .iface Tz (.agg sz)] 34)).drew := ((((Frm.refl _ w).alloc _).alloc _).alloc _).drew
    refine bodyPost_ret (v := .tuple #[.agg #[.int .i64 3, .int .i64 0, .string ⟨#[]⟩, .int .i64 0, .slice none 0 0, .int .i64 0, .slice none 0 0], .slice (some ⟨w.heap.size + 1 + 1, 0, none⟩) 2 2]) (by simp [results, Tryz.results187, go_sem]) rfl ?_
    unfold NodePost
    rw [show L.kidsOf (L.Tm.row ts) = _ from HK.out]
    refine ⟨F, _, _, [.iface 111 (.agg #[.slice (some ⟨g, 0, none⟩) (n + 2) cap]), .iface Tz (.agg sz)], rfl, World.ownsRow_nil _ _ _ _, ?_, fun g hg => .inr (by simp [Value.ownBlock] at hg; omega), ?_⟩
    · have := own_new ((w.alloc (.cells #[.slice (some ⟨g, 0, none⟩) (n + 3) cap] 111)).alloc (.cells #[.int .i64 3, .int .i64 0, .string ⟨#[]⟩, .int .i64 0, .slice none 0 0, .int .i64 0, .slice none 0 0] 47)) 34 0 [.iface 111 (.agg #[.slice (some ⟨g, 0, none⟩) (n + 2) cap]), .iface Tz (.agg sz)] 2 rfl (by unfold maxLen; omega) (Nat.zero_le _)
      simp at this; exact this
    · exact ⟨_, _, rfl, Rep.wide (A := A) (t := .row (ts.take (n + 2))) ⟨_, _, rfl, by rw [HL.out]; omega, by rw [HL.out]; exact HO.out, fun g' hg => HA.out g' hg, HR.out⟩ F, _, _, rfl, Rep.wide HZ.out F, rfl⟩
  · have hn2 : ts.length = 2 := by omega
    obtain ⟨z, hz⟩ : ∃ z, ts[1]? = some z := ⟨_, List.getElem?_eq_getElem (by omega)⟩
    obtain ⟨vz, hvz, hrz⟩ := hr.at2 hz
    have cz := hc0 _ vz hvz
    rw [add_zero_off] at cz
    obtain ⟨Tz, sz, rfl⟩ := Rep.form hrz
    have HK := Lib.hid (rowKids_two hn2 hy hz)
    rw [hn2] at hn
    suffices hs : Calls Tryz.prog 187 #[.agg #[.slice (some ⟨g, 0, none⟩) 2 cap]] w (NodePost A (.row ts) w) by rw [hn2]; exact hs
    have c0a : ∀ o1 o2, ((w.alloc o1).alloc o2).cell? ⟨g, 0, none⟩ = some (.iface T0 (.agg s0)) := fun o1 o2 => (((Frm.refl (fun _ => False) w).alloc o1).alloc o2).cell id c0
    have cza : ∀ o1 o2, ((w.alloc o1).alloc o2).cell? ⟨g, 1, none⟩ = some (.iface Tz (.agg sz)) := fun o1 o2 => (((Frm.refl (fun _ => False) w).alloc o1).alloc o2).cell id cz
    have HY := Lib.hid hr0
    have HZ := Lib.hid hrz
    clear ho hr hrz hr0 hc0 hcell hvz hv0 hcur ht hg h2 hle ha hone hn2 hy hz c0 cz
    go_enter Tryz.func187, Tryz.ntmps187
    go_wp2_with fail
    go_region
    go_wp2_with fail
    have F : Frm (fun _ => False) w (((w.alloc (.cells #[.slice (some ⟨g, 0, none⟩) 2 cap] 111)).alloc (.cells #[.int .i64 3, .int .i64 0, .string ⟨#[]⟩, .int .i64 0, .slice none 0 0, .int .i64 0, .slice none 0 0] 47)).alloc (.cells #[.iface T0 (.agg s0), .iface Tz (.agg sz)] 34)).drew := ((((Frm.refl _ w).alloc _).alloc _).alloc _).drew
    refine bodyPost_ret (v := .tuple #[.agg #[.int .i64 3, .int .i64 0, .string ⟨#[]⟩, .int .i64 0, .slice none 0 0, .int .i64 0, .slice none 0 0], .slice (some ⟨w.heap.size + 1 + 1, 0, none⟩) 2 2]) (by simp [results, Tryz.results187, go_sem]) rfl ?_
    unfold NodePost
    rw [show L.kidsOf (L.Tm.row ts) = _ from HK.out]
    refine ⟨F, _, _, [.iface T0 (.agg s0), .iface Tz (.agg sz)], rfl, World.ownsRow_nil _ _ _ _, ?_, fun g hg => .inr (by simp [Value.ownBlock] at hg; omega), ?_⟩
    · have := own_new ((w.alloc (.cells #[.slice (some ⟨g, 0, none⟩) 2 cap] 111)).alloc (.cells #[.int .i64 3, .int .i64 0, .string ⟨#[]⟩, .int .i64 0, .slice none 0 0, .int .i64 0, .slice none 0 0] 47)) 34 0 [.iface T0 (.agg s0), .iface Tz (.agg sz)] 2 rfl (by unfold maxLen; omega) (Nat.zero_le _)
      simp at this; exact this
    · exact ⟨_, _, rfl, Rep.wide HY.out F, _, _, rfl, Rep.wide HZ.out F, rfl⟩
end Go.Proofs.YtpdbkdcdlafobaaGreatDoor
end
