/- The contract of inRow of package lang. Each way of reading a term reads something. Nodes of terms, as plain functions. They import nothing of the program. Contracts of the program's functions, with no condition beyond what each theorem states. -/
import Derived.Test.YtpdbkdcdlafobaaGreatDoorM04
import Derived.Test.YtpdbkdcdlafobaaGreatDoorM03
section
namespace Go.Proofs.YtpdbkdcdlafobaaGreatDoor
open Go.RowKit
theorem steps_pos {w : World} {A : Nat → Prop} {t : L.Tm} {v : Value} (h : Rep w A t v) : 1 ≤ (L.stepsOf t).length := by
  cases t <;> first | exact Nat.le_refl _ | (obtain ⟨_, _, _, h2, _⟩ := h; exact Nat.le_of_succ_le h2)
theorem flat_pos {w : World} {A : Nat → Prop} {ts : List L.Tm} {vs : List Value} (h : RepL w A ts vs) (hne : ts ≠ []) : 1 ≤ (ts.flatMap L.stepsOf).length := by
  match ts, hne, h with
  | t :: ts, _, ⟨_, _, _, h, _⟩ => rw [List.flatMap_cons, List.length_append]; have := steps_pos h; omega
set_option maxHeartbeats 1000000 in
theorem inRow_any (A A' : Nat → Prop) (v : Value) (ts : List L.Tm) (vs : List Value) (w : World) (h : w.ownsRow 0 34 1 v ts.length vs) (hr : RepL w A ts vs) (hA : ∀ b, A b → A' b) (hA2 : ∀ b, w.heap.size ≤ b → A' b) (hne : ts ≠ []) (hz : (ts.flatMap L.stepsOf).length ≤ 1000000000) :
    Calls Tryz.prog 51 #[v] w fun e w' => ∃ v', e = .returned v' ∧ Rep w' A' (L.inRow ts) v' ∧ Frm (fun _ => False) w w' := by
  have hlen : 0 < ts.length := List.length_pos_iff.2 hne
  have hfp := flat_pos hr hne
  have hcell := @World.ownsRow.cells _ _ _ _ _ _ _ h
  rcases h.2 with ⟨rfl, hn⟩ | ⟨g, cap, cur, rfl, _, hg, hn, hcap, _, ht⟩
  · omega
  have hc0 := hcell (g := g) rfl
  have hkm : ts.length ≤ 9223372036854775807 := by unfold maxLen at hcap; omega
  clear hcell hn hcap ht h
  go_enter Tryz.func51, Tryz.ntmps51
  go_wp2_with fail
  go_loopg [3, 10] (ts.length + 1) (fun n fv i wr => ∃ (k : Nat) (xs : List Value), k ≤ ts.length ∧ n = ts.length + 1 - k ∧ i = .int .i64 k ∧ wr.ownsRow w.heap.size 34 1 fv (pre ts k).length xs ∧ Hid (RepL w A (pre ts k) xs) ∧ Frm (fun _ => False) w wr)
  case atStart => exact ⟨0, [], Nat.zero_le _, rfl, rfl, World.ownsRow_nil _ _ _ _, rfl, Frm.refl _ _⟩
  case round =>
    obtain ⟨k, xs, hk, rfl, rfl, hown, HR, hf⟩ := hrel
    by_cases hlt : k < ts.length
    · obtain ⟨u, hu, hru⟩ := hr.at_ hlt
      have hcu := hf.cell id (hc0 k u hu)
      rw [add_zero_off] at hcu
      have HP := Lib.hid (pre_succ hlt)
      have HL := Lib.hid (@pre_le ts (k + 1))
      generalize ts[k] = t at hru HP
      cases hir : L.isRow t
      · obtain ⟨T, cs, rfl, hT⟩ := hru.notRow hir
        have HS : Hid (L.stepsOf t = [t]) := by cases t <;> first | rfl | simp [L.isRow] at hir
        have HX := Lib.hid (RepL.append (show RepL w A [t] [.iface T (.agg cs)] from ⟨_, _, rfl, hru, rfl⟩) HR.out)
        have a1 := fun W => assert_row_no W T (.agg cs) hT
        clear hru hu hir
        obtain ⟨i0, hi, hz0, hz1, hz2⟩ := info_parts info_term
        have hll : (pre ts k).length + 1 ≤ 1000000000 := by have := HL.out; rw [HP.out, HS.out, List.length_append, List.length_singleton] at this; omega
        go_wp2_with (at_builtin; refine wpList_append_own _ rfl _ _ 100 rfl w.heap.size 34 i0 .nilIface 1 16 Tryz.underlying100 hi hz0 hz1 hz2 rfl (by decide) _ _ _ rfl ((hown.alloc _).alloc _) ⟨wr.heap.size + 1, 0, none⟩ 1 1 [.iface T (.agg cs)] rfl rfl ?c1 ?c2 ?c3 ?c4 ?c5 ?_)
        case c1 => exact cell_one_at (by simp)
        case c2 => simp [Value.oneCell']
        case c3 => unfold maxLen; omega
        case c4 => omega
        case c5 => have := hf.1; simp; omega
        intro v' w1 hown1 hgrow _
        have F1 := Lib.hid (((hf.alloc _).alloc _).own ((hown.alloc _).alloc _) hgrow)
        clear hgrow hown hi hz0 hz1 hz2 a1
        go_wp2_with fail
        go_roundg (ts.length + 1 - (k + 1))
        case measure => omega
        case rel =>
          refine ⟨k + 1, xs ++ [.iface T (.agg cs)], by omega, rfl, by go_num, ?_, ?_, F1.out⟩
          · rw [HP.out, HS.out, List.length_append]; exact hown1
          · exact show RepL _ _ _ _ by rw [HP.out, HS.out]; exact HX.out
      · obtain ⟨us, rfl⟩ : ∃ us, t = .row us := by cases t <;> first | exact ⟨_, rfl⟩ | simp [L.isRow] at hir
        obtain ⟨sl, ys, rfl, h2, ho, _, hru⟩ := hru
        have HS : Hid (L.stepsOf (.row us) = us) := rfl
        have HX := Lib.hid (RepL.append hru HR.out)
        have hcell := @World.ownsRow.cells _ _ _ _ _ _ _ ho
        rcases ho.2 with ⟨rfl, hn⟩ | ⟨g2, cap2, cur2, rfl, _⟩
        · omega
        have hc2 := hcell (g := g2) rfl
        have hyl := RepL.len hru
        have hone := hru.one
        have hc3 : Hid (∀ (j : Nat) (u : Value), ys[j]? = some u → wr.cell? ((⟨g2, 0, none⟩ : Addr).add j) = some u) := fun j u hu => hf.cell id (hc2 j u hu)
        clear hc2
        have a1 := fun W => assert_row_yes W (.agg #[.slice (some ⟨g2, 0, none⟩) us.length cap2])
        clear hru hu hir hcell ho
        obtain ⟨i0, hi, hz0, hz1, hz2⟩ := info_parts info_term
        have hll : (pre ts k).length + us.length ≤ 1000000000 := by have := HL.out; rw [HP.out, HS.out, List.length_append] at this; omega
        go_wp2_with (at_builtin; refine wpList_append_own _ rfl _ _ 100 rfl w.heap.size 34 i0 .nilIface 1 16 Tryz.underlying100 hi hz0 hz1 hz2 rfl (by decide) _ _ _ rfl (hown.alloc _) ⟨g2, 0, none⟩ us.length cap2 ys rfl ?c0 ?c1 hone ?c3 ?c4 ?c5 ?_)
        case c0 => omega
        case c1 => exact fun j u hu => ((Frm.refl (fun _ => False) wr).alloc _).cell id (hc3.out j u hu)
        case c3 => unfold maxLen; omega
        case c4 => omega
        case c5 => have := hf.1; simp; omega
        intro v' w1 hown1 hgrow _
        have F1 := Lib.hid ((hf.alloc _).own (hown.alloc _) hgrow)
        clear hgrow hown hi hz0 hz1 hz2 a1 hone hyl
        go_wp2_with fail
        go_roundg (ts.length + 1 - (k + 1))
        case measure => omega
        case rel =>
          refine ⟨k + 1, xs ++ ys, by omega, rfl, by go_num, ?_, ?_, F1.out⟩
          · rw [HP.out, HS.out, List.length_append]; exact hown1
          · exact show RepL _ _ _ _ by rw [HP.out, HS.out]; exact HX.out
    · have e : k = ts.length := by omega
      have HA : Hid (pre ts k = ts.flatMap L.stepsOf) := by rw [e]; exact pre_all ts
      have HI : Hid (L.inRow ts = match ts.flatMap L.stepsOf with | [t] => t | l => .row l) := rfl
      rw [HA.out] at hown
      have HR' : Hid (RepL w A (ts.flatMap L.stepsOf) xs) := by have := HR.out; rw [HA.out] at this; exact this
      clear HR HA e
      generalize ts.flatMap L.stepsOf = l at hown HR' HI hz hfp
      by_cases h1 : l.length = 1
      · obtain ⟨t, rfl⟩ : ∃ t, l = [t] := by
          match l, h1 with
          | [t], _ => exact ⟨t, rfl⟩
        obtain ⟨u, us, rfl, hu, hus⟩ := HR'.out
        have : us = [] := hus
        subst this
        have HU := Lib.hid (Rep.keep (A' := A') (hf.same (fun _ _ _ => id)) (fun b hb _ => hA b hb) hu)
        have hcell := @World.ownsRow.cells _ _ _ _ _ _ _ hown
        rcases hown.2 with ⟨rfl, hn⟩ | ⟨g3, cap3, cur3, rfl, _⟩
        · simp at hn
        have hc5 := hcell (g := g3) rfl 0 u rfl
        rw [add_zero_off] at hc5
        clear hcell hown hu hus HR'
        go_wp2_with fail
        go_ret
        exact ⟨_, rfl, by rw [HI.out]; exact HU.out, hf⟩
      · have hl2 : 2 ≤ l.length := by omega
        have HU := Lib.hid (RepL.keep (A' := A') (hf.same (fun _ _ _ => id)) (fun b hb _ => hA b hb) HR'.out)
        obtain ⟨Ad, c, rfl⟩ := own_form hown
        go_wp2_with fail
        go_ret
        refine ⟨_, rfl, ?_, hf⟩
        have : L.inRow ts = .row l := by
          rw [HI.out]
          match l, h1 with
          | [], _ => rfl
          | [_], h1 => exact absurd rfl h1
          | _ :: _ :: _, _ => rfl
        rw [this]
        exact ⟨_, xs, rfl, hl2, own_base hown (Nat.zero_le _), fun g hg => hA2 g (hown.lt g hg).1, HU.out⟩
end Go.Proofs.YtpdbkdcdlafobaaGreatDoor
end
section
namespace Go.Proofs.YtpdbkdcdlafobaaGreatDoor.L
theorem lt_take {α : Type} {p : Bytes} (hp : p ≠ []) {A B : Rd α} (hA : Le A) (hB : Lt B) : Lt ((take p).bind fun b => if b then A else B) := fun s y s' e => by
  obtain ⟨b, s1, e1, e2⟩ := bind_some e
  cases b
  · exact Nat.lt_of_lt_of_le (hB s1 y s' e2) (take_le p _ _ _ e1)
  · exact Nat.lt_of_le_of_lt (hA s1 y s' e2) (take_lt hp e1)
theorem le_take {α : Type} {p : Bytes} {A B : Rd α} (hA : Le A) (hB : Le B) : Le ((take p).bind fun b => if b then A else B) := le_bind (take_le p) fun _ => le_ite hA hB
/-- What is read of what commands and expressions have in common takes something, if it is there. -/
def LtO (r : Rd (Option Tm)) : Prop := ∀ s x s', r s = some (x, s') → s'.m ≤ s.m ∧ (x.isSome = true → s'.m < s.m)
theorem lto_take {p : Bytes} (hp : p ≠ []) {A B : Rd (Option Tm)} (hA : Le A) (hB : LtO B) : LtO ((take p).bind fun b => if b then A else B) := fun s y s' e => by
  obtain ⟨b, s1, e1, e2⟩ := bind_some e
  cases b
  · have := hB s1 y s' e2
    have := take_le p _ _ _ e1
    exact ⟨by omega, fun h => by have := (hB s1 y s' e2).2 h; omega⟩
  · have := hA s1 y s' e2
    have := take_lt hp e1
    exact ⟨by omega, fun _ => by omega⟩
theorem lto_none : LtO (Rd.ret none) := fun s y s' e => by simp [Rd.ret] at e; rw [e.2, ← e.1]; simp
theorem lt_opt {β : Type} {m : Rd (Option Tm)} {f : Option Tm → Rd β} (hm : LtO m) (hs : ∀ x, Le (f (some x))) (hn : Lt (f none)) : Lt (m.bind f) := fun s y s' e => by
  obtain ⟨x, s1, e1, e2⟩ := bind_some e
  cases x with
  | none => have := hn s1 y s' e2; have := (hm _ _ _ e1).1; omega
  | some x => have := hs x s1 y s' e2; have := (hm _ _ _ e1).2 rfl; omega
structure Eats (n : Nat) : Prop where
  body : ∀ t, Lt (body n t)
  block : ∀ t, Lt (block n t)
  com : Lt (com n)
  comFrom : ∀ acc, Lt (comFrom n acc)
  step : Lt (step n)
  either : ∀ t, LtO (either n t)
  proc : ∀ t, Lt (proc n t)
  call : ∀ t k, Le (call n t k)
  argsFrom : ∀ t k acc, Lt (argsFrom n t k acc)
  arg : Lt (arg n)
  exp : Lt (exp n)
  sum : Lt (sum n)
  sumFrom : ∀ x, Le (sumFrom n x)
  product : Lt (product n)
  productFrom : ∀ x, Le (productFrom n x)
  atom : Lt (atom n)
  atom2 : Lt (atom2 n)
theorem eats : ∀ n, Eats n
  | 0 => ⟨fun _ => lt_no, fun _ => lt_no, lt_no, fun _ => lt_no, lt_no, fun _ => fun _ _ _ e => by simp [L.either, Rd.no] at e, fun _ => lt_no, fun _ _ => lt_no.le, fun _ _ _ => lt_no, lt_no, lt_no, lt_no, fun _ => lt_no.le, lt_no, fun _ => lt_no.le, lt_no, lt_no⟩
  | n + 1 => by
    have h := eats n
    refine ⟨fun t => ?_, fun t => ?_, ?_, fun acc => ?_, ?_, fun t => ?_, fun t => ?_, fun t k => ?_, fun t k acc => ?_, ?_, ?_, ?_, fun x => ?_, ?_, fun x => ?_, ?_, ?_⟩
    · rw [L.body]; exact lt_ite h.com h.exp
    · rw [L.block]; exact lt_bind' (want_le _) fun _ => lt_bind (h.body t) fun _ => le_bind (want_le _) fun _ => le_ret _
    · rw [L.com]; exact h.comFrom _
    · rw [L.comFrom]; exact lt_bind h.step fun _ => le_take (h.comFrom _).le (le_ret _)
    · rw [L.step]
      refine lt_opt (h.either 0) (fun _ => le_ret _) ?_
      exact lt_take (by simp) (le_ret _) (lt_take (by simp) (le_bind h.exp.le fun _ => le_bind (h.block 0).le fun _ => le_ret _) (lt_take (by simp) (le_bind getName_lt.le fun _ => le_bind (h.block 0).le fun _ => le_ret _)
        (lt_bind getName_lt fun _ => le_take (le_bind h.exp.le fun _ => le_ret _) (h.call _ _))))
    · rw [L.either]
      exact lto_take (by simp) (le_ret _) (lto_take (by simp) (le_ret _) (lto_take (by simp) (le_bind getName_lt.le fun _ => le_ret _) (lto_take (by simp) (le_bind h.exp.le fun _ => le_bind (h.block _).le fun _ => le_bind (h.block _).le fun _ => le_ret _)
        (lto_take (by simp) (le_bind getName_lt.le fun _ => le_bind (want_le _) fun _ => le_bind h.exp.le fun _ => le_bind (h.block _).le fun _ => le_ret _) (lto_take (by simp) (le_bind (h.proc _).le fun _ => le_ret _) lto_none)))))
    · rw [L.proc]
      exact lt_bind getName_lt fun _ => le_bind (want_le _) fun _ => le_bind params_le fun _ => le_bind (want_le _) fun _ => le_bind (want_le _) fun _ => le_bind result_le fun _ => le_bind (h.block _).le fun _ => le_bind (h.block _).le fun _ => le_ret _
    · rw [L.call]; exact le_take (h.argsFrom _ _ _).le (le_ret _)
    · rw [L.argsFrom]; exact lt_bind h.arg fun _ => le_take (h.argsFrom _ _ _).le (le_bind (want_le _) fun _ => le_ite (le_ret _) lt_no.le)
    · rw [L.arg]
      intro s x s' e
      dsimp only at e
      split at e
      · exact h.block 0 s x s' e
      · exact h.exp s x s' e
    · rw [L.exp]; exact lt_bind h.sum fun _ => le_bind comparison_le fun _ => le_ite (le_bind h.sum.le fun _ => le_ret _) (le_ret _)
    · rw [L.sum]; exact lt_bind h.product fun _ => h.sumFrom _
    · rw [L.sumFrom]; exact le_bind plusOrMinus_le fun _ => le_ite (le_bind h.product.le fun _ => h.sumFrom _) (le_ret _)
    · rw [L.product]; exact lt_bind h.atom fun _ => h.productFrom _
    · rw [L.productFrom]; exact le_bind times_le fun _ => le_ite (le_bind h.atom.le fun _ => h.productFrom _) (le_ret _)
    · rw [L.atom]
      refine lt_opt (h.either 1) (fun _ => le_ret _) ?_
      intro s x s' e
      dsimp only at e
      split at e
      · rename_i c hc
        split at e
        · obtain ⟨y, s1, e1, e2⟩ := bind_some e
          cases e2
          have := next_m e1
          rw [hc, List.length_singleton] at this
          omega
        · exact h.atom2 s x s' e
      · exact h.atom2 s x s' e
    · rw [L.atom2]; exact lt_take (by simp) (le_bind h.exp.le fun _ => le_bind (want_le _) fun _ => le_ret _) (lt_take (by simp) (le_bind (h.block _).le fun _ => le_bind (h.block _).le fun _ => le_ret _) (lt_bind getName_lt fun _ => h.call _ _))
end Go.Proofs.YtpdbkdcdlafobaaGreatDoor.L
namespace Go.Proofs.YtpdbkdcdlafobaaGreatDoor.L
/-- All that a text consists of. -/
def whole (l : Bytes) : Rd (List Decl × Int × Tm) := next.bind fun _ => decls.bind fun d => (want [124, 45]).bind fun _ => result.bind fun t => (want [58]).bind fun _ => (body (10 * l.length + 8) t).bind fun x => (want []).bind fun _ => Rd.ret (d, t, x)
def parse (l : Bytes) : Option (List Decl × Int × Tm) := if 4000 < l.length then none else match whole l ⟨[], l⟩ with
  | some (x, _) => some x
  | none => none
end Go.Proofs.YtpdbkdcdlafobaaGreatDoor.L
end
section
namespace Go.Proofs.YtpdbkdcdlafobaaGreatDoor.L
def kindOf : Tm → Int
  | .skip => 0 | .stop _ => 1 | .fault _ => 2 | .row _ => 3 | .assign _ _ => 4 | .choice _ _ _ _ => 5 | .loop _ _ => 6 | .fresh _ _ _ _ => 7 | .call _ _ _ => 8 | .proc _ _ _ _ _ _ => 9
  | .num _ => 10 | .read _ => 11 | .binary k _ _ => k | .doing _ _ => 17 | .labelled _ _ => 18 | .exit _ _ => 19
def typeOf : Tm → Int
  | .stop t => t | .fault t => t | .choice t _ _ _ => t | .fresh t _ _ _ => t | .call t _ _ => t | .proc t _ _ _ _ _ => t | .exit t _ => t
  | .num _ => 1 | .read _ => 1 | .binary _ _ _ => 1 | .doing _ _ => 1
  | .skip => 0 | .row _ => 0 | .assign _ _ => 0 | .loop _ _ => 0 | .labelled _ _ => 0
def nameOf : Tm → Bytes
  | .assign n _ => n | .fresh _ n _ _ => n | .call _ n _ => n | .proc _ n _ _ _ _ => n | .read n => n | .labelled n _ => n | .exit _ n => n
  | .skip => [] | .stop _ => [] | .fault _ => [] | .row _ => [] | .choice _ _ _ _ => [] | .loop _ _ => [] | .num _ => [] | .binary _ _ _ => [] | .doing _ _ => []
def valueOf : Tm → Int
  | .num i => i
  | .skip => 0 | .stop _ => 0 | .fault _ => 0 | .row _ => 0 | .assign _ _ => 0 | .choice _ _ _ _ => 0 | .loop _ _ => 0 | .fresh _ _ _ _ => 0 | .call _ _ _ => 0 | .proc _ _ _ _ _ _ => 0
  | .read _ => 0 | .binary _ _ _ => 0 | .doing _ _ => 0 | .labelled _ _ => 0 | .exit _ _ => 0
def paramsOf : Tm → List (Bytes × Int)
  | .proc _ _ ps _ _ _ => ps
  | .skip => [] | .stop _ => [] | .fault _ => [] | .row _ => [] | .assign _ _ => [] | .choice _ _ _ _ => [] | .loop _ _ => [] | .fresh _ _ _ _ => [] | .call _ _ _ => []
  | .num _ => [] | .read _ => [] | .binary _ _ _ => [] | .doing _ _ => [] | .labelled _ _ => [] | .exit _ _ => []
def resultOf : Tm → Int
  | .proc _ _ _ r _ _ => r
  | .skip => 0 | .stop _ => 0 | .fault _ => 0 | .row _ => 0 | .assign _ _ => 0 | .choice _ _ _ _ => 0 | .loop _ _ => 0 | .fresh _ _ _ _ => 0 | .call _ _ _ => 0
  | .num _ => 0 | .read _ => 0 | .binary _ _ _ => 0 | .doing _ _ => 0 | .labelled _ _ => 0 | .exit _ _ => 0
/-- The kids of a row of steps: all but the last step, as one term, and the last one. -/
def rowKids (ts : List Tm) : List Tm := match ts.getLast? with
  | none => []
  | some z => [if ts.length = 2 then ts.headD .skip else .row ts.dropLast, z]
def kidsOf : Tm → List Tm
  | .row ts => rowKids ts
  | .assign _ x => [x] | .choice _ x y z => [x, y, z] | .loop x y => [x, y] | .fresh _ _ x y => [x, y] | .call _ _ ts => ts | .proc _ _ _ _ x y => [x, y]
  | .binary _ x y => [x, y] | .doing x y => [x, y] | .labelled _ x => [x]
  | .skip => [] | .stop _ => [] | .fault _ => [] | .num _ => [] | .read _ => [] | .exit _ _ => []
mutual
/-- How many nodes a term has. -/
def nodes : Tm → Nat
  | .row ts => ts.length - 1 + nodesL ts
  | .assign _ x => 1 + nodes x
  | .choice _ x y z => 1 + nodes x + nodes y + nodes z
  | .loop x y => 1 + nodes x + nodes y
  | .fresh _ _ x y => 1 + nodes x + nodes y
  | .call _ _ ts => 1 + nodesL ts
  | .proc _ _ _ _ x y => 1 + nodes x + nodes y
  | .binary _ x y => 1 + nodes x + nodes y
  | .doing x y => 1 + nodes x + nodes y
  | .labelled _ x => 1 + nodes x
  | .skip => 1 | .stop _ => 1 | .fault _ => 1 | .num _ => 1 | .read _ => 1 | .exit _ _ => 1
def nodesL : List Tm → Nat
  | [] => 0
  | t :: ts => nodes t + nodesL ts
end
mutual
/-- How many levels a term has. -/
def levels : Tm → Nat
  | .row ts => 1 + levelsL ts
  | .assign _ x => 1 + levels x
  | .choice _ x y z => 1 + max (levels x) (max (levels y) (levels z))
  | .loop x y => 1 + max (levels x) (levels y)
  | .fresh _ _ x y => 1 + max (levels x) (levels y)
  | .call _ _ ts => 1 + levelsL ts
  | .proc _ _ _ _ x y => 1 + max (levels x) (levels y)
  | .binary _ x y => 1 + max (levels x) (levels y)
  | .doing x y => 1 + max (levels x) (levels y)
  | .labelled _ x => 1 + levels x
  | .skip => 1 | .stop _ => 1 | .fault _ => 1 | .num _ => 1 | .read _ => 1 | .exit _ _ => 1
def levelsL : List Tm → Nat
  | [] => 0
  | t :: ts => max (levels t) (levelsL ts)
end
/-- The terms one level below a term, and how many nodes it has besides theirs. -/
def below : Tm → List Tm
  | .row ts => ts
  | .assign _ x => [x] | .choice _ x y z => [x, y, z] | .loop x y => [x, y] | .fresh _ _ x y => [x, y] | .call _ _ ts => ts | .proc _ _ _ _ x y => [x, y]
  | .binary _ x y => [x, y] | .doing x y => [x, y] | .labelled _ x => [x]
  | .skip => [] | .stop _ => [] | .fault _ => [] | .num _ => [] | .read _ => [] | .exit _ _ => []
def own : Tm → Nat
  | .row ts => ts.length - 1
  | .assign _ _ => 1 | .choice _ _ _ _ => 1 | .loop _ _ => 1 | .fresh _ _ _ _ => 1 | .call _ _ _ => 1 | .proc _ _ _ _ _ _ => 1
  | .binary _ _ _ => 1 | .doing _ _ => 1 | .labelled _ _ => 1
  | .skip => 1 | .stop _ => 1 | .fault _ => 1 | .num _ => 1 | .read _ => 1 | .exit _ _ => 1
theorem nodes_eq (t : Tm) : nodes t = own t + nodesL (below t) := by
  cases t <;> simp [nodes, own, below, nodesL] <;> omega
theorem levels_eq (t : Tm) : levels t = 1 + levelsL (below t) := by
  cases t <;> simp [levels, below, levelsL] <;> omega
theorem below_kids {t : Tm} (h : isRow t = false) : below t = kidsOf t ∧ own t = 1 := by
  cases t <;> first | exact ⟨rfl, rfl⟩ | simp [isRow] at h
theorem nodesL_append : ∀ (a b : List Tm), nodesL (a ++ b) = nodesL a + nodesL b
  | [], b => by simp [nodesL]
  | t :: a, b => by rw [List.cons_append, nodesL, nodesL, nodesL_append a b]; omega
theorem levelsL_append : ∀ (a b : List Tm), levelsL (a ++ b) = max (levelsL a) (levelsL b)
  | [], b => by simp [levelsL]
  | t :: a, b => by rw [List.cons_append, levelsL, levelsL, levelsL_append a b]; omega
theorem nodesL_take (l : List Tm) (k : Nat) (hk : k < l.length) : nodesL (l.take (k + 1)) = nodesL (l.take k) + nodes l[k] := by
  rw [List.take_succ_eq_append_getElem hk, nodesL_append]; simp [nodesL]
theorem levelsL_take (l : List Tm) (k : Nat) (hk : k < l.length) : levelsL (l.take (k + 1)) = max (levelsL (l.take k)) (levels l[k]) := by
  rw [List.take_succ_eq_append_getElem hk, levelsL_append]; simp [levelsL]
theorem nodesL_le (l : List Tm) (k : Nat) : nodesL (l.take k) ≤ nodesL l := by
  have := nodesL_append (l.take k) (l.drop k)
  rw [List.take_append_drop] at this; omega
theorem levelsL_le (l : List Tm) (k : Nat) : levelsL (l.take k) ≤ levelsL l := by
  have := levelsL_append (l.take k) (l.drop k)
  rw [List.take_append_drop] at this; omega
theorem nodes_mem {l : List Tm} {k : Nat} (hk : k < l.length) : nodes l[k] ≤ nodesL l := by
  have := nodesL_take l k hk
  have := nodesL_le l (k + 1)
  omega
noncomputable def sz (t : Tm) : Nat := sizeOf t
theorem sz_pos (t : Tm) : 0 < sz t := by cases t <;> simp [sz] <;> omega
theorem below_lt {t k : Tm} (h : k ∈ below t) : sz k < sz t := by
  unfold sz
  cases t <;> simp [below] at h
  case row ts => have := List.sizeOf_lt_of_mem h; simp; omega
  case call a b ts => have := List.sizeOf_lt_of_mem h; simp; omega
  all_goals first | (rcases h with rfl | rfl | rfl <;> simp <;> omega) | (rcases h with rfl | rfl <;> simp <;> omega) | (subst h; simp <;> omega)
end Go.Proofs.YtpdbkdcdlafobaaGreatDoor.L
end
