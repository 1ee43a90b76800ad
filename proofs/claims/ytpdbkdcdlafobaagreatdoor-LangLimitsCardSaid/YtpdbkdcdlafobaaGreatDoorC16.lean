/- The parser's contracts that call each other: com, arg, exp. The parser's contracts that call each other: call, arg, exp. The parser's contracts that call each other: sum, product. Contracts of the program's functions, with no condition beyond what each theorem states. -/
import Derived.Test.YtpdbkdcdlafobaaGreatDoorC15
import Derived.Maps.AppendAt
section
namespace Go.Proofs.YtpdbkdcdlafobaaGreatDoor
open Go.RowKit
variable {n : Nat}
def NotRow (r : L.Rd L.Tm) : Prop := ∀ s x s', r s = some (x, s') → L.isRow x = false
theorem nr_bind {α : Type} {m : L.Rd α} {f : α → L.Rd L.Tm} (hf : ∀ x, NotRow (f x)) : NotRow (m.bind f) := fun s y s' e => by
  obtain ⟨x, s1, _, e2⟩ := L.bind_some e
  exact hf x s1 y s' e2
theorem nr_ret {t : L.Tm} (h : L.isRow t = false) : NotRow (L.Rd.ret t) := fun s y s' e => by simp [L.Rd.ret] at e; rw [← e.1]; exact h
theorem nr_no : NotRow L.Rd.no := fun s y s' e => by simp [L.Rd.no] at e
theorem nr_ite {c : Prop} [Decidable c] {a b : L.Rd L.Tm} (ha : NotRow a) (hb : NotRow b) : NotRow (if c then a else b) := by split <;> assumption
def NotRowO (r : L.Rd (Option L.Tm)) : Prop := ∀ s x s', r s = some (some x, s') → L.isRow x = false
theorem nro_bind {α : Type} {m : L.Rd α} {f : α → L.Rd (Option L.Tm)} (hf : ∀ x, NotRowO (f x)) : NotRowO (m.bind f) := fun s y s' e => by
  obtain ⟨x, s1, _, e2⟩ := L.bind_some e
  exact hf x s1 y s' e2
theorem nro_ret {t : L.Tm} (h : L.isRow t = false) : NotRowO (L.Rd.ret (some t)) := fun s y s' e => by simp [L.Rd.ret] at e; rw [← e.1]; exact h
theorem nro_none : NotRowO (L.Rd.ret none) := fun s y s' e => by simp [L.Rd.ret] at e
theorem nro_ite {c : Prop} [Decidable c] {a b : L.Rd (Option L.Tm)} (ha : NotRowO a) (hb : NotRowO b) : NotRowO (if c then a else b) := by split <;> assumption
theorem proc_notRow (n : Nat) (t : Int) : NotRow (L.proc n t) := by
  match n with
  | 0 => rw [L.proc]; exact nr_no
  | n + 1 => rw [L.proc]; exact nr_bind fun _ => nr_bind fun _ => nr_bind fun _ => nr_bind fun _ => nr_bind fun _ => nr_bind fun _ => nr_bind fun _ => nr_bind fun _ => nr_ret rfl
theorem argsFrom_notRow : ∀ (n : Nat) (t : Int) (k : L.Bytes) (acc : List L.Tm), NotRow (L.argsFrom n t k acc)
  | 0, _, _, _ => by rw [L.argsFrom]; exact nr_no
  | n + 1, t, k, _ => by rw [L.argsFrom]; exact nr_bind fun _ => nr_bind fun _ => nr_ite (argsFrom_notRow n t k _) (nr_bind fun _ => nr_ite (nr_ret rfl) nr_no)
theorem call_notRow (n : Nat) (t : Int) (k : L.Bytes) : NotRow (L.call n t k) := by
  match n with
  | 0 => rw [L.call]; exact nr_no
  | n + 1 => rw [L.call]; exact nr_bind fun _ => nr_ite (argsFrom_notRow _ _ _ _) (nr_ret rfl)
theorem either_notRow (n : Nat) (t : Int) : NotRowO (L.either n t) := by
  match n with
  | 0 => rw [L.either]; exact fun s y s' e => by simp [L.Rd.no] at e
  | n + 1 =>
    rw [L.either]
    refine nro_bind fun _ => nro_ite (nro_ret rfl) (nro_bind fun _ => nro_ite (nro_ret rfl) (nro_bind fun _ => nro_ite (nro_bind fun _ => nro_ret rfl) (nro_bind fun _ => nro_ite (nro_bind fun _ => nro_bind fun _ => nro_bind fun _ => nro_ret rfl)
      (nro_bind fun _ => nro_ite (nro_bind fun _ => nro_bind fun _ => nro_bind fun _ => nro_bind fun _ => nro_ret rfl) (nro_bind fun _ => nro_ite ?_ nro_none)))))
    intro s x s' e
    obtain ⟨y, s1, e1, e2⟩ := L.bind_some e
    simp [L.Rd.ret] at e2
    rw [← e2.1]; exact proc_notRow _ _ _ _ _ e1
theorem step_notRow {n : Nat} {s s' : L.St} {t : L.Tm} (h : L.step n s = some (t, s')) : L.isRow t = false := by
  match n with
  | 0 => rw [L.step] at h; simp [L.Rd.no] at h
  | n + 1 =>
    rw [L.step] at h
    obtain ⟨x, s1, e1, e2⟩ := L.bind_some h
    cases x with
    | some x =>
      simp [L.Rd.ret] at e2
      rw [← e2.1]; exact either_notRow _ _ _ _ _ e1
    | none =>
      exact nr_bind (fun _ => nr_ite (nr_ret rfl) (nr_bind fun _ => nr_ite (nr_bind fun _ => nr_bind fun _ => nr_ret rfl) (nr_bind fun _ => nr_ite (nr_bind fun _ => nr_bind fun _ => nr_ret rfl)
        (nr_bind fun _ => nr_bind fun _ => nr_ite (nr_bind fun _ => nr_ret rfl) (call_notRow _ _ _))))) _ _ _ e2
theorem flat_id : ∀ {l : List L.Tm}, (∀ t ∈ l, L.isRow t = false) → l.flatMap L.stepsOf = l
  | [], _ => rfl
  | t :: l, h => by
    have h1 : L.stepsOf t = [t] := by
      have := h t (List.mem_cons_self ..)
      cases t <;> first | rfl | simp [L.isRow] at this
    rw [List.flatMap_cons, h1, flat_id fun u hu => h u (List.mem_cons_of_mem _ hu)]; rfl
/-- What has been gathered in a row of the call's own stays as it is when the row grows. -/
theorem RepL.grow {lo : Nat} {w w' : World} {v v' : Value} {c : Nat} {xs : List Value} {ts : List L.Tm} {vs : List Value} (h : RepL w (fun b => lo ≤ b ∧ v.ownBlock ≠ some b) ts vs) (_ho : w.ownsRow lo 34 1 v c xs)
    (o : Obj) (hg : (w.alloc o).grownBy w' v.ownBlock) (hat : v'.ownBlock = v.ownBlock ∨ v'.ownBlock = some (w.heap.size + 1)) : RepL w' (fun b => lo ≤ b ∧ v'.ownBlock ≠ some b) ts vs := by
  refine RepL.keep (fun b hb hl => ?_) (fun b hb hl => ⟨hb.1, fun e => ?_⟩) h
  · exact (hg.block b (by simp; omega) (fun e => hb.2 e.symm)).trans (Below.heap_alloc w o b hl)
  · rcases hat with h | h
    · exact hb.2 (h ▸ e)
    · rw [h] at e; injection e with e; omega
set_option maxHeartbeats 1000000 in
theorem com_good (h : ∀ k ≤ n, Good k) (pb : Nat) (s : L.St) (w : World) (hp : PS w pb s) (hn : 10 * s.m + 6 ≤ n + 1) :
    Calls Tryz.prog 68 #[.pointer (some ⟨pb, 0, none⟩)] w (PPost (okT w.heap.size) pb (L.com (n + 1) s) w) := by
  have HX : Hid (L.com (n + 1) s = L.comFrom n [] s) := by rw [Hid, L.com]
  have hpb := hp.1.lt
  go_enter Tryz.func68, Tryz.ntmps68
  go_wp2_with fail
  go_loopg [3] n (fun k v wr => ∃ (acc : List L.Tm) (vs : List Value) (s1 : L.St), PS wr pb s1 ∧ 10 * s1.m + 5 ≤ k ∧ k ≤ n ∧ acc.length + s1.m ≤ 8002 ∧ wr.ownsRow w.heap.size 34 1 v acc.length vs ∧
    Hid (RepL wr (fun b => w.heap.size ≤ b ∧ v.ownBlock ≠ some b) acc vs) ∧ Hid (∀ t ∈ acc, L.isRow t = false) ∧ Hid (L.com (n + 1) s = L.comFrom k acc s1) ∧ Frm (· = pb) w wr)
  case atStart => exact ⟨[], [], s, hp, by omega, Nat.le_refl _, by have := hp.2.1; have := hp.2.2; simp only [L.St.m, List.length_nil]; omega, World.ownsRow_nil _ _ _ _, rfl, (fun t ht => by cases ht), HX, Frm.refl _ _⟩
  case round =>
    obtain ⟨acc, vs, s1, hs1, hk, hkn, hle, hown, HR, HN, HT, hf⟩ := hrel
    obtain ⟨k, rfl⟩ : ∃ k, gk = k + 1 := ⟨gk - 1, by omega⟩
    have HY : Hid (L.comFrom (k + 1) acc s1 = ((L.step k).bind fun x => (L.take [59]).bind fun b => if b then L.comFrom k (acc ++ [x]) else L.Rd.ret (L.inRow (acc ++ [x]))) s1) := by rw [Hid, L.comFrom]
    go_wp2_with fail
    refine PPost.call ((h k (by omega)).step _ _ _ hs1 (by omega)) (fun w' hn hf1 => ⟨rfl, .bad (hf.trans hf1) (by simp only [HT.out, HY.out, L.Rd.bind, hn])⟩) ?_
    rintro x s2 v w2 H2 hv q2 f2
    obtain ⟨T, cs, rfl⟩ := Rep.form hv
    have hown2 := f2.row hown (fun g hg e => by have := (hown.lt g hg).1; omega) (Nat.le_refl _)
    have HR2 := Lib.hid (RepL.keep (A' := fun b => w.heap.size ≤ b ∧ u3.ownBlock ≠ some b) (f2.same fun b hb _ => by omega) (fun _ hb _ => hb) HR.out)
    have hlt1 : ∀ g, u3.ownBlock = some g → g < wr.heap.size := fun g hg => (hown.lt g hg).2
    have HV := Lib.hid (Rep.keep (A' := fun b => w.heap.size ≤ b ∧ u3.ownBlock ≠ some b) (fun _ _ _ => rfl) (fun b hb _ => ⟨Nat.le_trans hf.1 hb, fun e => by have := hlt1 b e; omega⟩) hv)
    have hsz := Lib.hid f2.1
    have hlt := (L.eats k).step _ _ _ H2.out
    clear hown hv hlt1
    obtain ⟨i0, hi, hz0, hz1, hz2⟩ := info_parts info_term
    go_wp2_with (at_builtin; refine wpList_append_own_at _ rfl _ _ 100 rfl w.heap.size 34 i0 .nilIface 1 16 Tryz.underlying100 hi hz0 hz1 hz2 rfl (by decide) _ _ _ rfl (hown2.alloc _) ⟨w2.heap.size, 0, none⟩ 1 1 [.iface T (.agg cs)] rfl rfl ?c1 ?c2 ?c3 ?c4 ?c5 ?_)
    case c1 => exact cell_one_at (by simp)
    case c2 => simp [Value.oneCell']
    case c3 => unfold maxLen; omega
    case c4 => omega
    case c5 => have := hf.1; have := hsz.out; simp; omega
    intro v' w3 hown3 hgrow _ hat
    have HR3 := Lib.hid (RepL.grow (RepL.snoc HV.out HR2.out) hown2 _ hgrow hat)
    have F3 := Lib.hid (((hf.trans f2).alloc _).own (hown2.alloc _) hgrow)
    have q3 : PS w3 pb s2 := ⟨(q2.1.alloc _).grown hgrow (fun e => by have := (hown2.lt pb e.symm).1; omega), q2.2⟩
    clear hgrow hown2 hi hz0 hz1 hz2 hat
    go_wp2_with fail
    refine PPost.call (take_any [59] _ _ _ q3) (fun w' hn hf1 => ⟨rfl, .bad (F3.out.trans hf1) (by simp only [HT.out, HY.out, L.Rd.bind, H2.out, hn])⟩) ?_
    rintro b s4 v w4 H4 rfl q4 f4
    have hown4 := f4.row hown3 (fun g hg e => by have := (hown3.lt g hg).1; omega) (Nat.le_refl _)
    have HR4 := Lib.hid (RepL.keep (A' := fun b => w.heap.size ≤ b ∧ v'.ownBlock ≠ some b) (f4.same fun b hb _ => by omega) (fun _ hb _ => hb) HR3.out)
    have HN4 : Hid (∀ t ∈ acc ++ [x], L.isRow t = false) := by
      intro t ht
      rcases List.mem_append.1 ht with h | h
      · exact HN.out t h
      · rw [List.mem_singleton.1 h]; exact step_notRow H2.out
    have hle4 := L.take_le _ _ _ _ H4.out
    have hlen : (acc ++ [x]).length = acc.length + 1 := by simp
    rw [← hlen] at hown4
    clear hown3
    cases b
    · have hz : ((acc ++ [x]).flatMap L.stepsOf).length ≤ 1000000000 := by rw [flat_id HN4.out, hlen]; omega
      clear hlen
      go_wp2_with fail
      refine (inRow_any (fun b => w.heap.size ≤ b ∧ v'.ownBlock ≠ some b) (w.heap.size ≤ ·) _ _ _ _ (own_base hown4 (Nat.zero_le _)) HR4.out (fun _ hb => hb.1) (fun _ hb => Nat.le_trans (F3.out.trans f4).1 hb) (by simp) hz).mono ?_
      rintro e w5 ⟨u, rfl, hu, f5⟩
      go_wp2_with fail
      go_ret
      exact .good (F3.out.trans (f4.trans (f5.mono fun _ _ h => h.elim))) (by simp only [HT.out, HY.out, L.Rd.bind, H2.out, H4.out, Bool.false_eq_true, if_false, L.Rd.ret]) hu ⟨f5.blk q4.1 id, q4.2⟩
    · clear hlen
      go_wp2_with fail
      go_roundg k
      case measure => omega
      case rel =>
        refine ⟨acc ++ [x], _, s4, q4, by omega, by omega, by simp; omega, hown4, HR4.out, HN4, ?_, F3.out.trans f4⟩
        exact show _ = _ by simp only [HT.out, HY.out, L.Rd.bind, H2.out, H4.out, if_true]
end Go.Proofs.YtpdbkdcdlafobaaGreatDoor
end
section
namespace Go.Proofs.YtpdbkdcdlafobaaGreatDoor
open Go.RowKit
variable {n : Nat}
set_option maxHeartbeats 1000000 in
theorem call_good (h : ∀ k ≤ n, Good k) (t : Int) (nm : L.Bytes) (pb : Nat) (s : L.St) (w : World) (hp : PS w pb s) (hn : 10 * s.m + 1 ≤ n + 1) :
    Calls Tryz.prog 128 #[.pointer (some ⟨pb, 0, none⟩), .int .i64 t, .string (str nm)] w (PPost (okT w.heap.size) pb (L.call (n + 1) t nm s) w) := by
  have HX : Hid (L.call (n + 1) t nm s = ((L.take [40]).bind fun b => if b then L.argsFrom n t nm [] else L.Rd.ret (.call t nm [])) s) := by rw [Hid, L.call]
  have hpb := hp.1.lt
  go_enter Tryz.func128, Tryz.ntmps128
  go_wp2_with fail
  refine PPost.call (take_any [40] _ _ _ hp) (fun w' hn hf => ⟨rfl, .bad hf (by simp only [HX.out, L.Rd.bind, hn])⟩) ?_
  rintro b s0 v w1 H0 rfl q0 f0
  cases b
  · go_wp2_with fail
    go_ret
    exact .good (x := .call t nm []) f0 (by simp only [HX.out, L.Rd.bind, H0.out, Bool.false_eq_true, if_false, L.Rd.ret]) ⟨_, [], rfl, World.ownsRow_nil _ _ _ _, (fun g hg => by simp [Value.ownBlock] at hg), rfl⟩ q0
  have hm0 := L.take_lt (by simp) H0.out
  have hsz0 := f0.1
  have F0 := Lib.hid f0
  go_wp2_with fail
  go_loopg [7] n (fun k v wr => ∃ (acc : List L.Tm) (vs : List Value) (s1 : L.St), PS wr pb s1 ∧ 10 * s1.m + 8 ≤ k ∧ k ≤ n ∧ acc.length + s1.m ≤ 8002 ∧ wr.ownsRow w.heap.size 34 1 v acc.length vs ∧
    Hid (RepL wr (fun b => w.heap.size ≤ b ∧ v.ownBlock ≠ some b) acc vs) ∧ Hid (L.argsFrom n t nm [] s0 = L.argsFrom k t nm acc s1) ∧ Hid (Frm (· = pb) w wr))
  case atStart => exact ⟨[], [], s0, q0, by omega, Nat.le_refl _, by have := q0.2.1; have := q0.2.2; simp only [L.St.m, List.length_nil]; omega, World.ownsRow_nil _ _ _ _, rfl, rfl, F0⟩
  case round =>
    obtain ⟨acc, vs, s1, hs1, hk, hkn, hle, hown, HR, HT, HF⟩ := hrel
    obtain ⟨k, rfl⟩ : ∃ k, gk = k + 1 := ⟨gk - 1, by omega⟩
    have HY : Hid (L.argsFrom (k + 1) t nm acc s1 = ((L.arg k).bind fun x => (L.take [44]).bind fun b => if b then L.argsFrom k t nm (acc ++ [x]) else
      (L.want [41]).bind fun _ => if (acc ++ [x]).length ≤ 3 then L.Rd.ret (.call t nm (acc ++ [x])) else L.Rd.no) s1) := by rw [Hid, L.argsFrom]
    go_wp2_with fail
    refine PPost.call ((h k (by omega)).arg _ _ _ hs1 (by omega)) (fun w' hn hf1 => ⟨rfl, .bad (HF.out.trans hf1) (by simp only [HX.out, L.Rd.bind, H0.out, if_true, HT.out, HY.out, hn])⟩) ?_
    rintro x s2 v w2 H2 hv q2 f2
    obtain ⟨T, cs, rfl⟩ := Rep.form hv
    have hown2 := f2.row hown (fun g hg e => by have := (hown.lt g hg).1; omega) (Nat.le_refl _)
    have HR2 := Lib.hid (RepL.keep (A' := fun b => w.heap.size ≤ b ∧ u7.ownBlock ≠ some b) (f2.same fun b hb _ => by omega) (fun _ hb _ => hb) HR.out)
    have hlt1 : ∀ g, u7.ownBlock = some g → g < wr.heap.size := fun g hg => (hown.lt g hg).2
    have HV := Lib.hid (Rep.keep (A' := fun b => w.heap.size ≤ b ∧ u7.ownBlock ≠ some b) (fun _ _ _ => rfl) (fun b hb _ => ⟨Nat.le_trans HF.out.1 hb, fun e => by have := hlt1 b e; omega⟩) hv)
    have hsz := Lib.hid f2.1
    have hlt := (L.eats k).arg _ _ _ H2.out
    clear hown hv hlt1
    obtain ⟨i0, hi, hz0, hz1, hz2⟩ := info_parts info_term
    go_wp2_with (at_builtin; refine wpList_append_own_at _ rfl _ _ 100 rfl w.heap.size 34 i0 .nilIface 1 16 Tryz.underlying100 hi hz0 hz1 hz2 rfl (by decide) _ _ _ rfl (hown2.alloc _) ⟨w2.heap.size, 0, none⟩ 1 1 [.iface T (.agg cs)] rfl rfl ?c1 ?c2 ?c3 ?c4 ?c5 ?_)
    case c1 => exact cell_one_at (by simp)
    case c2 => simp [Value.oneCell']
    case c3 => unfold maxLen; omega
    case c4 => omega
    case c5 => have := HF.out.1; have := hsz.out; simp; omega
    intro v' w3 hown3 hgrow _ hat
    have HR3 := Lib.hid (RepL.grow (RepL.snoc HV.out HR2.out) hown2 _ hgrow hat)
    have F3 := Lib.hid (((HF.out.trans f2).alloc _).own (hown2.alloc _) hgrow)
    have q3 : PS w3 pb s2 := ⟨(q2.1.alloc _).grown hgrow (fun e => by have := (hown2.lt pb e.symm).1; omega), q2.2⟩
    clear hgrow hown2 hi hz0 hz1 hz2 hat
    go_wp2_with fail
    refine PPost.call (take_any [44] _ _ _ q3) (fun w' hn hf1 => ⟨rfl, .bad (F3.out.trans hf1) (by simp only [HX.out, L.Rd.bind, H0.out, if_true, HT.out, HY.out, H2.out, hn])⟩) ?_
    rintro b s4 v w4 H4 rfl q4 f4
    have hown4 := f4.row hown3 (fun g hg e => by have := (hown3.lt g hg).1; omega) (Nat.le_refl _)
    have HR4 := Lib.hid (RepL.keep (A' := fun b => w.heap.size ≤ b ∧ v'.ownBlock ≠ some b) (f4.same fun b hb _ => by omega) (fun _ hb _ => hb) HR3.out)
    have hle4 := L.take_le _ _ _ _ H4.out
    have hlen : (acc ++ [x]).length = acc.length + 1 := by simp
    rw [← hlen] at hown4
    clear hown3
    cases b
    · go_wp2_with fail
      refine PPost.call (want_any [41] _ _ _ q4) (fun w' hn hf1 => ⟨rfl, .bad (F3.out.trans (f4.trans hf1)) (by simp only [HX.out, L.Rd.bind, H0.out, if_true, HT.out, HY.out, H2.out, H4.out, Bool.false_eq_true, if_false, hn])⟩) ?_
      rintro _ s5 v w5 H5 rfl q5 f5
      have hown5 := f5.row hown4 (fun g hg e => by have := (hown4.lt g hg).1; omega) (Nat.le_refl _)
      have HR5 := Lib.hid (RepL.keep (A' := fun b => w.heap.size ≤ b) (f5.same fun b hb _ => by omega) (fun _ hb _ => hb.1) HR4.out)
      obtain ⟨Ad, cp, rfl⟩ := own_form hown5
      have HO5 := Lib.hid hown5
      have HG5 : Hid (∀ g, (Value.slice Ad (acc ++ [x]).length cp).ownBlock = some g → w.heap.size ≤ g) := fun g hg => (hown5.lt g hg).1
      have HLe := Lib.hid hlen
      clear hlen hown4 hown5
      by_cases h3 : acc.length + 1 ≤ 3
      · have hd : decide ((acc.length : Int) + 1 ≤ 3) = true := decide_eq_true (by omega)
        go_wp2_with (go_at_call 66; refine (must_true _).mono ?_; rintro e w' ⟨rfl, rfl⟩)
        go_ret
        exact .good (x := .call t nm (acc ++ [x])) (F3.out.trans (f4.trans f5)) (by simp only [HX.out, L.Rd.bind, H0.out, if_true, HT.out, HY.out, H2.out, H4.out, Bool.false_eq_true, if_false, H5.out, HLe.out, if_pos h3, L.Rd.ret]) ⟨.slice Ad (acc ++ [x]).length cp, _, by rw [HLe.out]; rfl, own_base HO5.out (Nat.zero_le _), HG5.out, HR5.out⟩ q5
      · have hd : decide ((acc.length : Int) + 1 ≤ 3) = false := decide_eq_false (by omega)
        go_wp2_with (go_at_call 66; refine (must_false _).mono ?_; rintro e w' ⟨rfl, rfl⟩)
        exact ⟨rfl, .bad (F3.out.trans (f4.trans f5)) (by simp only [HX.out, L.Rd.bind, H0.out, if_true, HT.out, HY.out, H2.out, H4.out, Bool.false_eq_true, if_false, H5.out, HLe.out, if_neg h3]; rfl)⟩
    · clear hlen
      go_wp2_with fail
      go_roundg k
      case measure => omega
      case rel =>
        refine ⟨acc ++ [x], _, s4, q4, by omega, by omega, by simp; omega, hown4, HR4, ?_, Lib.hid (F3.out.trans f4)⟩
        exact show _ = _ by simp only [HT.out, HY.out, L.Rd.bind, H2.out, H4.out, if_true]
theorem arg_good (h : Good n) (pb : Nat) (s : L.St) (w : World) (hp : PS w pb s) (hn : 10 * s.m + 7 ≤ n + 1) :
    Calls Tryz.prog 144 #[.pointer (some ⟨pb, 0, none⟩)] w (PPost (okT w.heap.size) pb (L.arg (n + 1) s) w) := by
  have h0 := hp.1.cell 0
  have HX : Hid (L.arg (n + 1) s = if s.part = [123] then L.block n 0 s else L.exp n s) := by rw [Hid, L.arg]
  by_cases hq : s.part = [123]
  · have hpq : (s.part == [123]) = true := by simpa using hq
    rw [if_pos hq] at HX
    clear hq
    go_enter Tryz.func144, Tryz.ntmps144
    go_wp2_with fail
    refine PPost.call (h.block 0 (.inl rfl) _ _ _ hp (by omega)) (fun w' hn hf => ⟨rfl, .bad hf (by rw [HX.out]; exact hn)⟩) ?_
    rintro x s1 v w1 H1 hv q1 f1
    go_wp2_with fail
    go_ret
    exact .good f1 (by rw [HX.out]; exact H1.out) hv q1
  · have hpq : (s.part == [123]) = false := by simpa using hq
    rw [if_neg hq] at HX
    clear hq
    go_enter Tryz.func144, Tryz.ntmps144
    go_wp2_with fail
    refine PPost.call (h.exp _ _ _ hp (by omega)) (fun w' hn hf => ⟨rfl, .bad hf (by rw [HX.out]; exact hn)⟩) ?_
    rintro x s1 v w1 H1 hv q1 f1
    go_wp2_with fail
    go_ret
    exact .good f1 (by rw [HX.out]; exact H1.out) hv q1
theorem exp_good (h : Good n) (pb : Nat) (s : L.St) (w : World) (hp : PS w pb s) (hn : 10 * s.m + 6 ≤ n + 1) :
    Calls Tryz.prog 69 #[.pointer (some ⟨pb, 0, none⟩)] w (PPost (okT w.heap.size) pb (L.exp (n + 1) s) w) := by
  have HX : Hid (L.exp (n + 1) s = ((L.sum n).bind fun x => L.comparison.bind fun k => if k.2 then (L.sum n).bind fun y => L.Rd.ret (.binary k.1 x y) else L.Rd.ret x) s) := by rw [Hid, L.exp]
  have hpb := hp.1.lt
  go_enter Tryz.func69, Tryz.ntmps69
  go_wp2_with fail
  refine PPost.call (h.sum _ _ _ hp (by omega)) (fun w' hn hf => ⟨rfl, .bad hf (by simp only [HX.out, L.Rd.bind, hn])⟩) ?_
  rintro x s1 v w1 H1 hv q1 f1
  have hm1 := (L.eats n).sum _ _ _ H1.out
  go_wp2_with fail
  refine PPost.call (comparison_any _ _ _ q1) (fun w' hn hf => ⟨rfl, .bad (f1.trans hf) (by simp only [HX.out, L.Rd.bind, H1.out, hn])⟩) ?_
  rintro ⟨k, b⟩ s2 _ w2 H2 rfl q2 f2
  have hm2 := L.comparison_le _ _ _ H2.out
  have HV2 := Lib.hid (Rep.over (lo' := w.heap.size) hv f2 hpb (Nat.le_refl _))
  obtain ⟨T, cs, rfl⟩ := Rep.form hv
  clear hv
  dsimp only
  cases b
  · go_wp2_with fail
    go_ret
    exact .good (f1.trans f2) (by simp only [HX.out, L.Rd.bind, H1.out, H2.out, Bool.false_eq_true, if_false, L.Rd.ret]) HV2.out q2
  · go_wp2_with fail
    refine PPost.call (h.sum _ _ _ q2 (by omega)) (fun w' hn hf => ⟨rfl, .bad (f1.trans (f2.trans hf)) (by simp only [HX.out, L.Rd.bind, H1.out, H2.out, if_true, hn])⟩) ?_
    rintro y s3 v w3 H3 hv3 q3 f3
    have HV3 := Lib.hid (Rep.over (lo' := w.heap.size) HV2.out f3 hpb (Nat.le_refl _))
    have HW3 := Lib.hid (Rep.low (lo' := w.heap.size) hv3 (f1.trans f2).1)
    obtain ⟨T2, cs2, rfl⟩ := Rep.form hv3
    clear hv3
    go_wp2_with fail
    go_ret
    exact .good (x := .binary k x y) (f1.trans (f2.trans f3)) (by simp only [HX.out, L.Rd.bind, H1.out, H2.out, if_true, H3.out, L.Rd.ret]) ⟨_, _, rfl, HV3.out, HW3.out⟩ q3
end Go.Proofs.YtpdbkdcdlafobaaGreatDoor
end
section
namespace Go.Proofs.YtpdbkdcdlafobaaGreatDoor
open Go.RowKit
variable {n : Nat}
theorem product_lt {s s' : L.St} {x : Int × Bool} (h : L.times s = some (x, s')) (hx : x.2 = true) : s'.m < s.m := by
  obtain ⟨b, s1, e1, e2⟩ := L.bind_some h
  cases e2
  cases hx
  exact L.take_lt (by simp) e1
theorem sum_lt {s s' : L.St} {x : Int × Bool} (h : L.plusOrMinus s = some (x, s')) (hx : x.2 = true) : s'.m < s.m := by
  obtain ⟨b, s1, e1, e2⟩ := L.bind_some h
  cases b
  · obtain ⟨b, s2, e3, e4⟩ := L.bind_some e2
    have := L.take_le _ _ _ _ e1
    cases b
    · cases e4; cases hx
    · cases e4
      have := L.take_lt (by simp) e3
      omega
  · cases e2
    exact L.take_lt (by simp) e1
set_option maxHeartbeats 1000000 in
theorem fromLeft_sum (h : ∀ k ≤ n, Good k) (pb : Nat) (s : L.St) (w : World) (hp : PS w pb s) (hn : 10 * s.m + 4 ≤ n) :
    Calls Tryz.prog 129 #[.func (.func 130) #[.pointer (some ⟨pb, 0, none⟩)] #[], .func (.func 131) #[.pointer (some ⟨pb, 0, none⟩)] #[]] w (PPost (okT w.heap.size) pb (((L.product n).bind fun x => L.sumFrom n x) s) w) := by
  have hpb := hp.1.lt
  go_enter Tryz.func129, Tryz.ntmps129
  go_wp2_with fail
  refine PPost.call ((h n (Nat.le_refl _)).product _ _ _ hp (by omega)) (fun w' hn hf => ⟨rfl, .bad hf (by simp only [L.Rd.bind, hn])⟩) ?_
  rintro x s1 v w1 H1 hv q1 f1
  have hm1 := (L.eats n).product _ _ _ H1.out
  have HV1 : Hid (Rep w1 (w.heap.size ≤ ·) x v) := hv
  have F1 := Lib.hid f1
  clear hv f1
  go_wp2_with fail
  go_loopg [5] n (fun k v wr => ∃ (x1 : L.Tm) (s2 : L.St), PS wr pb s2 ∧ 10 * s2.m + 4 ≤ k ∧ k ≤ n ∧ Hid (Rep wr (w.heap.size ≤ ·) x1 v) ∧ Hid (L.sumFrom n x s1 = L.sumFrom k x1 s2) ∧ Hid (Frm (· = pb) w wr))
  case atStart => exact ⟨x, s1, q1, by omega, Nat.le_refl _, HV1, rfl, F1⟩
  case round =>
    obtain ⟨x1, s2, q2, hk, hkn, HV2, HT, HF⟩ := hrel
    obtain ⟨k, rfl⟩ : ∃ k, gk = k + 1 := ⟨gk - 1, by omega⟩
    have HY : Hid (L.sumFrom (k + 1) x1 s2 = (L.plusOrMinus.bind fun q => if q.2 then (L.product k).bind fun y => L.sumFrom k (.binary q.1 x1 y) else L.Rd.ret x1) s2) := by rw [Hid, L.sumFrom]
    obtain ⟨T, cs, rfl⟩ := Rep.form HV2.out
    go_wp2_with fail
    refine PPost.call (plusOrMinus_any _ _ _ q2) (fun w' hn hf => ⟨rfl, .bad (HF.out.trans hf) (by simp only [L.Rd.bind, H1.out, HT.out, HY.out, hn])⟩) ?_
    rintro ⟨kd, b⟩ s3 _ w3 H3 rfl q3 f3
    have HV3 := Lib.hid (Rep.over (lo' := w.heap.size) HV2.out f3 hpb (Nat.le_refl _))
    have hm3 : b = true → s3.m < s2.m := fun hb => sum_lt H3.out hb
    have F3 := Lib.hid (HF.out.trans f3)
    clear f3
    dsimp only
    cases b
    · go_wp2_with fail
      go_ret
      exact .good F3.out (by simp only [L.Rd.bind, H1.out, HT.out, HY.out, H3.out, Bool.false_eq_true, if_false, L.Rd.ret]) HV3.out q3
    · have hm3 := hm3 rfl
      go_wp2_with fail
      refine PPost.call ((h k (by omega)).product _ _ _ q3 (by omega)) (fun w' hn hf => ⟨rfl, .bad (F3.out.trans hf) (by simp only [L.Rd.bind, H1.out, HT.out, HY.out, H3.out, if_true, hn])⟩) ?_
      rintro y s4 v w4 H4 hv q4 f4
      have hm4 := (L.eats k).product _ _ _ H4.out
      have HV4 := Lib.hid (Rep.over (lo' := w.heap.size) HV3.out f4 hpb (Nat.le_refl _))
      have HW4 := Lib.hid (Rep.low (lo' := w.heap.size) hv F3.out.1)
      have F4 := Lib.hid (F3.out.trans f4)
      obtain ⟨T2, cs2, rfl⟩ := Rep.form hv
      clear hv f4
      go_wp2_with fail
      go_roundg k
      case measure => omega
      case rel =>
        refine ⟨.binary kd x1 y, s4, q4, by omega, by omega, ⟨_, _, rfl, HV4.out, HW4.out⟩, ?_, F4⟩
        exact show _ = _ by simp only [HT.out, HY.out, L.Rd.bind, H3.out, if_true, H4.out]
theorem sum_good (h : ∀ k ≤ n, Good k) (pb : Nat) (s : L.St) (w : World) (hp : PS w pb s) (hn : 10 * s.m + 4 + 1 ≤ n + 1) :
    Calls Tryz.prog 100 #[.pointer (some ⟨pb, 0, none⟩)] w (PPost (okT w.heap.size) pb (L.sum (n + 1) s) w) := by
  have HX : Hid (L.sum (n + 1) s = ((L.product n).bind fun x => L.sumFrom n x) s) := by rw [Hid, L.sum]
  have hmf : ∀ (fn : Fn) (first cap : Array Value) (w : World), (Instr.makeFunc fn first cap).run Tryz.prog w = .ok (.func fn first cap) w := fun _ _ _ _ => rfl
  go_enter Tryz.func100, Tryz.ntmps100
  go_wp2_with fail
  refine PPost.call (fromLeft_sum h _ _ _ hp (by omega)) (fun w' hn hf => ⟨rfl, .bad hf (by rw [HX.out]; exact hn)⟩) ?_
  rintro x s1 v w1 H1 hv q1 f1
  go_wp2_with fail
  go_ret
  exact .good f1 (by rw [HX.out]; exact H1.out) hv q1
set_option maxHeartbeats 1000000 in
theorem fromLeft_product (h : ∀ k ≤ n, Good k) (pb : Nat) (s : L.St) (w : World) (hp : PS w pb s) (hn : 10 * s.m + 3 ≤ n) :
    Calls Tryz.prog 129 #[.func (.func 145) #[.pointer (some ⟨pb, 0, none⟩)] #[], .func (.func 146) #[.pointer (some ⟨pb, 0, none⟩)] #[]] w (PPost (okT w.heap.size) pb (((L.atom n).bind fun x => L.productFrom n x) s) w) := by
  have hpb := hp.1.lt
  go_enter Tryz.func129, Tryz.ntmps129
  go_wp2_with fail
  refine PPost.call ((h n (Nat.le_refl _)).atom _ _ _ hp (by omega)) (fun w' hn hf => ⟨rfl, .bad hf (by simp only [L.Rd.bind, hn])⟩) ?_
  rintro x s1 v w1 H1 hv q1 f1
  have hm1 := (L.eats n).atom _ _ _ H1.out
  have HV1 : Hid (Rep w1 (w.heap.size ≤ ·) x v) := hv
  have F1 := Lib.hid f1
  clear hv f1
  go_wp2_with fail
  go_loopg [5] n (fun k v wr => ∃ (x1 : L.Tm) (s2 : L.St), PS wr pb s2 ∧ 10 * s2.m + 3 ≤ k ∧ k ≤ n ∧ Hid (Rep wr (w.heap.size ≤ ·) x1 v) ∧ Hid (L.productFrom n x s1 = L.productFrom k x1 s2) ∧ Hid (Frm (· = pb) w wr))
  case atStart => exact ⟨x, s1, q1, by omega, Nat.le_refl _, HV1, rfl, F1⟩
  case round =>
    obtain ⟨x1, s2, q2, hk, hkn, HV2, HT, HF⟩ := hrel
    obtain ⟨k, rfl⟩ : ∃ k, gk = k + 1 := ⟨gk - 1, by omega⟩
    have HY : Hid (L.productFrom (k + 1) x1 s2 = (L.times.bind fun q => if q.2 then (L.atom k).bind fun y => L.productFrom k (.binary q.1 x1 y) else L.Rd.ret x1) s2) := by rw [Hid, L.productFrom]
    obtain ⟨T, cs, rfl⟩ := Rep.form HV2.out
    go_wp2_with fail
    refine PPost.call (times_any _ _ _ q2) (fun w' hn hf => ⟨rfl, .bad (HF.out.trans hf) (by simp only [L.Rd.bind, H1.out, HT.out, HY.out, hn])⟩) ?_
    rintro ⟨kd, b⟩ s3 _ w3 H3 rfl q3 f3
    have HV3 := Lib.hid (Rep.over (lo' := w.heap.size) HV2.out f3 hpb (Nat.le_refl _))
    have hm3 : b = true → s3.m < s2.m := fun hb => product_lt H3.out hb
    have F3 := Lib.hid (HF.out.trans f3)
    clear f3
    dsimp only
    cases b
    · go_wp2_with fail
      go_ret
      exact .good F3.out (by simp only [L.Rd.bind, H1.out, HT.out, HY.out, H3.out, Bool.false_eq_true, if_false, L.Rd.ret]) HV3.out q3
    · have hm3 := hm3 rfl
      go_wp2_with fail
      refine PPost.call ((h k (by omega)).atom _ _ _ q3 (by omega)) (fun w' hn hf => ⟨rfl, .bad (F3.out.trans hf) (by simp only [L.Rd.bind, H1.out, HT.out, HY.out, H3.out, if_true, hn])⟩) ?_
      rintro y s4 v w4 H4 hv q4 f4
      have hm4 := (L.eats k).atom _ _ _ H4.out
      have HV4 := Lib.hid (Rep.over (lo' := w.heap.size) HV3.out f4 hpb (Nat.le_refl _))
      have HW4 := Lib.hid (Rep.low (lo' := w.heap.size) hv F3.out.1)
      have F4 := Lib.hid (F3.out.trans f4)
      obtain ⟨T2, cs2, rfl⟩ := Rep.form hv
      clear hv f4
      go_wp2_with fail
      go_roundg k
      case measure => omega
      case rel =>
        refine ⟨.binary kd x1 y, s4, q4, by omega, by omega, ⟨_, _, rfl, HV4.out, HW4.out⟩, ?_, F4⟩
        exact show _ = _ by simp only [HT.out, HY.out, L.Rd.bind, H3.out, if_true, H4.out]
theorem product_good (h : ∀ k ≤ n, Good k) (pb : Nat) (s : L.St) (w : World) (hp : PS w pb s) (hn : 10 * s.m + 3 + 1 ≤ n + 1) :
    Calls Tryz.prog 130 #[.pointer (some ⟨pb, 0, none⟩)] w (PPost (okT w.heap.size) pb (L.product (n + 1) s) w) := by
  have HX : Hid (L.product (n + 1) s = ((L.atom n).bind fun x => L.productFrom n x) s) := by rw [Hid, L.product]
  have hmf : ∀ (fn : Fn) (first cap : Array Value) (w : World), (Instr.makeFunc fn first cap).run Tryz.prog w = .ok (.func fn first cap) w := fun _ _ _ _ => rfl
  go_enter Tryz.func130, Tryz.ntmps130
  go_wp2_with fail
  refine PPost.call (fromLeft_product h _ _ _ hp (by omega)) (fun w' hn hf => ⟨rfl, .bad hf (by rw [HX.out]; exact hn)⟩) ?_
  rintro x s1 v w1 H1 hv q1 f1
  go_wp2_with fail
  go_ret
  exact .good f1 (by rw [HX.out]; exact H1.out) hv q1
end Go.Proofs.YtpdbkdcdlafobaaGreatDoor
end
