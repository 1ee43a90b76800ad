/- Contracts of the parser's steps: next, take, want, name. Contracts of the parser: result, typ, comparison, plusOrMinus, times. Contracts of validParams and validDecls of package lang. Contracts of the program's functions, with no condition beyond what each theorem states. -/
import Derived.Test.YtpdbkdcdlafobaaGreatDoorM04
import Derived.Shelf.Strings.SlTrimAscii
import Derived.Test.YtpdbkdcdlafobaaGreatDoorM01
import Derived.Deep.LoopGhost
section
namespace Go.Proofs.YtpdbkdcdlafobaaGreatDoor
open Go.RowKit
theorem trimLeft_any (l : L.Bytes) (w : World) : Calls Tryz.prog 62 #[.string (str l), .string ⟨#[32, 9, 10]⟩] w fun e w' => e = .returned (.string (str (l.dropWhile L.blank))) ∧ Below w.heap.size w w' := by
  have h := Go.Proofs.Any.strings_TrimLeft_laid Tryz.lays161 (by kernel_rfl) (str l) ⟨#[32, 9, 10]⟩ w (by decide) (Go.Proofs.ascii_of_all (by decide))
  refine Calls.mono h fun e w' ⟨he, hb⟩ => ⟨?_, hb⟩
  rw [he]
  congr 2
  simp only [Lib.trimLeftS]
  rw [show (str l).data.toList = l from bs_str l]
  have e : (fun c => ([32, 9, 10] : List UInt8).contains c) = L.blank := by
    funext c
    simp only [List.contains_cons, List.contains_nil, Bool.or_false, L.blank, Bool.or_assoc]
  exact congrArg (fun f => (⟨(List.dropWhile f l).toArray⟩ : ByteArray)) e
def malformed : List PanicEntry := [{ v := .iface 186 (.agg #[]), recovered := false }]
/-- The parser at block pb stands at s. -/
def PS (w : World) (pb : Nat) (s : L.St) : Prop := Blk w pb 88 #[.string (str s.part), .string (str s.rest)] ∧ s.part.length ≤ 4000 ∧ s.rest.length ≤ 4000
/-- What a call of the parser comes to: what was read, and where it stands then, or the panic. -/
def PPost {α : Type} (ok : α → Value → World → Prop) (pb : Nat) (r : Option (α × L.St)) (w : World) (e : Ending) (w' : World) : Prop :=
  Frm (· = pb) w w' ∧ match r with
  | some (x, s) => ∃ v, e = .returned v ∧ ok x v w' ∧ PS w' pb s
  | none => e = .panicked malformed
theorem PPost.cases {α : Type} {ok : α → Value → World → Prop} {pb : Nat} {r : Option (α × L.St)} {w w' : World} {e : Ending} (h : PPost ok pb r w e w') :
    (r = none ∧ e = .panicked malformed ∧ Frm (· = pb) w w') ∨ (∃ x s v, r = some (x, s) ∧ e = .returned v ∧ ok x v w' ∧ PS w' pb s ∧ Frm (· = pb) w w') := by
  obtain ⟨hf, h⟩ := h
  match r, h with
  | none, h => exact .inl ⟨rfl, h, hf⟩
  | some (x, s), ⟨v, he, ho, hp⟩ => exact .inr ⟨x, s, v, rfl, he, ho, hp, hf⟩
theorem PPost.bad {α : Type} {ok : α → Value → World → Prop} {pb : Nat} {r : Option (α × L.St)} {w w' : World} (hf : Frm (· = pb) w w') (h : r = none) : PPost ok pb r w (.panicked malformed) w' := by
  subst h; exact ⟨hf, rfl⟩
theorem PPost.good {α : Type} {ok : α → Value → World → Prop} {pb : Nat} {r : Option (α × L.St)} {w w' : World} {v : Value} {x : α} {s : L.St} (hf : Frm (· = pb) w w') (h : r = some (x, s)) (ho : ok x v w') (hp : PS w' pb s) : PPost ok pb r w (.returned v) w' := by
  subst h; exact ⟨hf, v, rfl, ho, hp⟩
/-- A call of the parser within a walk: what it read is hidden from the walk. -/
theorem PPost.call {α : Type} {ok : α → Value → World → Prop} {pb : Nat} {r : Option (α × L.St)} {w : World} {f : FuncId} {args : Array Value} {Φ : Ending → World → Prop}
    (hC : Calls Tryz.prog f args w (PPost ok pb r w)) (bad : ∀ w', r = none → Frm (· = pb) w w' → Φ (.panicked malformed) w')
    (good : ∀ x s v w', Hid (r = some (x, s)) → ok x v w' → PS w' pb s → Frm (· = pb) w w' → Φ (.returned v) w') : Calls Tryz.prog f args w Φ := by
  refine hC.mono fun e w' hp => ?_
  rcases hp.cases with ⟨hn, rfl, hf⟩ | ⟨x, s, v, hn, rfl, ho, hq, hf⟩
  · exact bad w' hn hf
  · exact good x s v w' (Lib.hid hn) ho hq hf
def okU : Unit → Value → World → Prop := fun _ v _ => v = .tuple #[]
def okB : Bool → Value → World → Prop := fun b v _ => v = .bool b
def okS : L.Bytes → Value → World → Prop := fun l v _ => v = .string (str l)
def okI : Int → Value → World → Prop := fun i v _ => v = .int .i64 i
set_option maxHeartbeats 400000 in
theorem next_any (pb : Nat) (s : L.St) (w : World) (h : PS w pb s) : Calls Tryz.prog 36 #[.pointer (some ⟨pb, 0, none⟩)] w (PPost okU pb (L.next s) w) := by
  obtain ⟨p, r⟩ := s
  obtain ⟨h, _, hs⟩ := h
  dsimp only at h hs
  have h1 := h.cell 1
  have hf1 := h.frozen 1
  have hf0 := h.frozen 0
  go_enter Tryz.func36, Tryz.ntmps36
  go_wp2_with fail
  refine (trimLeft_any _ _).mono ?_
  rintro e w1 ⟨rfl, hb1⟩
  have q1 := Blk.below h hb1 h.lt
  have c1 := q1.cell 1
  have c0 := q1.cell 0
  have f1 := q1.frozen 1
  have f0 := q1.frozen 0
  have hl : (r.dropWhile L.blank).length ≤ 4000 := Nat.le_trans (List.Sublist.length_le (List.dropWhile_sublist _)) hs
  have F1 := Lib.hid ((Frm.refl (· = pb) w).below hb1 (Nat.le_refl _))
  have Q1 := Lib.hid (Blk.set_ q1 1 (.string (str (r.dropWhile L.blank))))
  clear h1 hf1 hf0 hs hb1
  go_wp2_with fail
  refine (partLength_any _ _ hl).mono ?_
  rintro e w2 ⟨rfl, rfl⟩
  cases hk : L.partLen (r.dropWhile L.blank) with
  | none => exact ⟨rfl, .bad (F1.out.set_ (fun _ => rfl) _) (by simp [L.next, hk])⟩
  | some k =>
    have hle := L.partLen_le hk
    have hn : L.next ⟨p, r⟩ = some ((), ⟨(r.dropWhile L.blank).take k, (r.dropWhile L.blank).drop k⟩) := by simp [L.next, hk]
    have HN := Lib.hid hn
    clear hn
    go_wp2
    go_end0
    refine .good (((F1.out.set_ (fun _ => rfl) _).set_ (fun _ => rfl) _).set_ (fun _ => rfl) _) HN.out rfl ⟨?_, ?_, ?_⟩
    · have e1 : (str (r.dropWhile L.blank)).extract 0 k = str ((r.dropWhile L.blank).take k) := by rw [extract_str, List.drop_zero, Nat.sub_zero]
      have e2 : (str (r.dropWhile L.blank)).extract k (r.dropWhile L.blank).length = str ((r.dropWhile L.blank).drop k) := by
        rw [extract_str, List.take_of_length_le (by simp)]
      rw [e1, e2]
      exact (Q1.out.set_ 0 (.string (str ((r.dropWhile L.blank).take k)))).set_ 1 (.string (str ((r.dropWhile L.blank).drop k)))
    · simp; omega
    · simp; omega
set_option maxHeartbeats 400000 in
theorem take_any (q : L.Bytes) (pb : Nat) (s : L.St) (w : World) (h : PS w pb s) : Calls Tryz.prog 65 #[.pointer (some ⟨pb, 0, none⟩), .string (str q)] w (PPost okB pb (L.take q s) w) := by
  obtain ⟨p, r⟩ := s
  have h0 := h.1.cell 0
  by_cases hp : p = q
  · have hpq : (p == q) = true := by simpa using hp
    by_cases hq : q = []
    · subst hq; subst hp
      go_enter Tryz.func65, Tryz.ntmps65
      go_wp2_with fail
      go_ret
      exact .good (Frm.refl _ _) (by simp [L.take]) rfl h
    · have hq' : (!List.isEmpty q) = true := by simpa using hq
      have HT : Hid (L.take q ⟨p, r⟩ = (L.next.bind fun _ => .ret true) ⟨p, r⟩) := by simp [Hid, L.take, hp, hq]
      clear hp hq
      go_enter Tryz.func65, Tryz.ntmps65
      go_wp2_with fail
      refine (next_any _ _ _ h).mono ?_
      intro e w1 hp
      rcases hp.cases with ⟨hn, rfl, hf⟩ | ⟨x, s1, v, hn, rfl, rfl, hq, hf⟩
      · exact ⟨rfl, .bad hf (by rw [HT.out]; simp only [L.Rd.bind, hn])⟩
      · have HN := Lib.hid hn
        clear hn
        go_wp2_with fail
        go_ret
        exact .good hf (by rw [HT.out]; simp only [L.Rd.bind, HN.out]; rfl) rfl hq
  · have hpq : (p == q) = false := by simpa using hp
    have HT : Hid (L.take q ⟨p, r⟩ = some (false, ⟨p, r⟩)) := by simp [Hid, L.take, hp]
    clear hp
    go_enter Tryz.func65, Tryz.ntmps65
    go_wp2_with fail
    go_ret
    exact .good (Frm.refl _ _) HT.out rfl h
set_option maxHeartbeats 400000 in
theorem want_any (q : L.Bytes) (pb : Nat) (s : L.St) (w : World) (h : PS w pb s) : Calls Tryz.prog 38 #[.pointer (some ⟨pb, 0, none⟩), .string (str q)] w (PPost okU pb (L.want q s) w) := by
  go_enter Tryz.func38, Tryz.ntmps38
  go_wp2_with fail
  refine (take_any _ _ _ _ h).mono ?_
  intro e w1 hp
  rcases hp.cases with ⟨hn, rfl, hf⟩ | ⟨x, s1, v, hn, rfl, rfl, hq, hf⟩
  · exact ⟨rfl, .bad hf (by simp only [L.want, L.Rd.bind, hn])⟩
  · have HN := Lib.hid hn
    clear hn
    cases x
    · go_wp2_with (go_at_call 66; refine (must_false _).mono ?_; rintro e w' ⟨rfl, rfl⟩)
      exact ⟨rfl, .bad hf (by simp only [L.want, L.Rd.bind, HN.out]; rfl)⟩
    · go_wp2_with (go_at_call 66; refine (must_true _).mono ?_; rintro e w' ⟨rfl, rfl⟩)
      go_end0
      exact .good hf (by simp only [L.want, L.Rd.bind, HN.out]; rfl) rfl hq
set_option maxHeartbeats 400000 in
theorem name_any (pb : Nat) (s : L.St) (w : World) (h : PS w pb s) : Calls Tryz.prog 93 #[.pointer (some ⟨pb, 0, none⟩)] w (PPost okS pb (L.getName s) w) := by
  have h0 := h.1.cell 0
  have hm : (str s.part).size ≤ maxLen := by rw [size_str]; have := h.2.1; unfold maxLen; omega
  have HG : Hid (L.getName s = if L.name s.part then (L.next.bind fun _ => .ret s.part) s else none) := rfl
  go_enter Tryz.func93, Tryz.ntmps93
  go_wp2_with fail
  refine (validName_any _ _ hm).mono ?_
  rintro e w1 ⟨rfl, rfl⟩
  rw [bs_str]
  cases hn : L.name s.part
  · rw [hn] at HG
    go_wp2_with (go_at_call 66; refine (must_false _).mono ?_; rintro e w' ⟨rfl, rfl⟩)
    exact ⟨rfl, .bad (Frm.refl _ _) HG.out⟩
  · rw [hn] at HG
    clear hn
    go_wp2_with (go_at_call 66; refine (must_true _).mono ?_; rintro e w' ⟨rfl, rfl⟩)
    refine (next_any _ _ _ h).mono ?_
    intro e w1 hp
    rcases hp.cases with ⟨hn, rfl, hf⟩ | ⟨x, s1, v, hn, rfl, rfl, hq, hf⟩
    · exact ⟨rfl, .bad hf (by rw [HG.out]; simp only [L.Rd.bind, hn]; rfl)⟩
    · have HN := Lib.hid hn
      clear hn
      go_wp2_with fail
      go_ret
      exact .good hf (by rw [HG.out]; simp only [L.Rd.bind, HN.out]; rfl) rfl hq
end Go.Proofs.YtpdbkdcdlafobaaGreatDoor
end
section
namespace Go.Proofs.YtpdbkdcdlafobaaGreatDoor
open Go.RowKit
/-- A pair of a kind and whether there is one. -/
def okP : Int × Bool → Value → World → Prop := fun x v _ => v = .tuple #[.int .i64 x.1, .bool x.2]
set_option maxHeartbeats 400000 in
theorem result_any (pb : Nat) (s : L.St) (w : World) (h : PS w pb s) : Calls Tryz.prog 39 #[.pointer (some ⟨pb, 0, none⟩)] w (PPost okI pb (L.result s) w) := by
  go_enter Tryz.func39, Tryz.ntmps39
  go_wp2_with fail
  refine PPost.call (take_any [99, 111, 109] _ _ _ h) (fun w' hn hf => ⟨rfl, .bad hf (by simp only [L.result, L.Rd.bind, hn])⟩) ?_
  rintro x s1 v w1 H1 rfl q1 f1
  cases x
  · go_wp2_with fail
    refine PPost.call (want_any [101, 120, 112] _ _ _ q1) (fun w' hn hf => ⟨rfl, .bad (f1.trans hf) (by simp only [L.result, L.Rd.bind, H1.out, Bool.false_eq_true, if_false, hn])⟩) ?_
    rintro x s2 v w2 H2 rfl q2 f2
    go_wp2_with fail
    go_ret
    exact .good (f1.trans f2) (by simp only [L.result, L.Rd.bind, H1.out, Bool.false_eq_true, if_false, H2.out, L.Rd.ret]) rfl q2
  · go_wp2_with fail
    go_ret
    exact .good f1 (by simp only [L.result, L.Rd.bind, H1.out, if_true, L.Rd.ret]) rfl q1
set_option maxHeartbeats 400000 in
theorem typ_any (pb : Nat) (s : L.St) (w : World) (h : PS w pb s) : Calls Tryz.prog 94 #[.pointer (some ⟨pb, 0, none⟩)] w (PPost okI pb (L.typ s) w) := by
  go_enter Tryz.func94, Tryz.ntmps94
  go_wp2_with fail
  refine PPost.call (take_any [118, 97, 108] _ _ _ h) (fun w' hn hf => ⟨rfl, .bad hf (by simp only [L.typ, L.Rd.bind, hn])⟩) ?_
  rintro x s1 v w1 H1 rfl q1 f1
  cases x
  · go_wp2_with fail
    refine PPost.call (result_any _ _ _ q1) (fun w' hn hf => ⟨rfl, .bad (f1.trans hf) (by simp only [L.typ, L.Rd.bind, H1.out, Bool.false_eq_true, if_false, hn])⟩) ?_
    rintro x s2 v w2 H2 rfl q2 f2
    go_wp2_with fail
    go_ret
    exact .good (f1.trans f2) (by simp only [L.typ, L.Rd.bind, H1.out, Bool.false_eq_true, if_false, H2.out]) rfl q2
  · go_wp2_with fail
    go_ret
    exact .good f1 (by simp only [L.typ, L.Rd.bind, H1.out, if_true, L.Rd.ret]) rfl q1
set_option maxHeartbeats 400000 in
theorem times_any (pb : Nat) (s : L.St) (w : World) (h : PS w pb s) : Calls Tryz.prog 146 #[.pointer (some ⟨pb, 0, none⟩)] w (PPost okP pb (L.times s) w) := by
  go_enter Tryz.func146, Tryz.ntmps146
  go_wp2_with fail
  refine PPost.call (take_any [42] _ _ _ h) (fun w' hn hf => ⟨rfl, .bad hf (by simp only [L.times, L.Rd.bind, hn])⟩) ?_
  rintro x s1 v w1 H1 rfl q1 f1
  go_wp2_with fail
  go_ret2
  exact .good (x := (14, x)) f1 (by simp only [L.times, L.Rd.bind, H1.out, L.Rd.ret]) rfl q1
set_option maxHeartbeats 400000 in
theorem plusOrMinus_any (pb : Nat) (s : L.St) (w : World) (h : PS w pb s) : Calls Tryz.prog 131 #[.pointer (some ⟨pb, 0, none⟩)] w (PPost okP pb (L.plusOrMinus s) w) := by
  go_enter Tryz.func131, Tryz.ntmps131
  go_wp2_with fail
  refine PPost.call (take_any [43] _ _ _ h) (fun w' hn hf => ⟨rfl, .bad hf (by simp only [L.plusOrMinus, L.Rd.bind, hn])⟩) ?_
  rintro x s1 v w1 H1 rfl q1 f1
  cases x
  · go_wp2_with fail
    refine PPost.call (take_any [45] _ _ _ q1) (fun w' hn hf => ⟨rfl, .bad (f1.trans hf) (by simp only [L.plusOrMinus, L.Rd.bind, H1.out, Bool.false_eq_true, if_false, hn])⟩) ?_
    rintro x s2 v w2 H2 rfl q2 f2
    cases x
    · go_wp2_with fail
      go_ret2
      exact .good (x := (0, false)) (f1.trans f2) (by simp only [L.plusOrMinus, L.Rd.bind, H1.out, Bool.false_eq_true, if_false, H2.out, L.Rd.ret]) rfl q2
    · go_wp2_with fail
      go_ret2
      exact .good (x := (13, true)) (f1.trans f2) (by simp only [L.plusOrMinus, L.Rd.bind, H1.out, Bool.false_eq_true, if_false, H2.out, if_true, L.Rd.ret]) rfl q2
  · go_wp2_with fail
    go_ret2
    exact .good (x := (12, true)) f1 (by simp only [L.plusOrMinus, L.Rd.bind, H1.out, if_true, L.Rd.ret]) rfl q1
set_option maxHeartbeats 400000 in
theorem comparison_any (pb : Nat) (s : L.St) (w : World) (h : PS w pb s) : Calls Tryz.prog 101 #[.pointer (some ⟨pb, 0, none⟩)] w (PPost okP pb (L.comparison s) w) := by
  go_enter Tryz.func101, Tryz.ntmps101
  go_wp2_with fail
  refine PPost.call (take_any [61, 61] _ _ _ h) (fun w' hn hf => ⟨rfl, .bad hf (by simp only [L.comparison, L.Rd.bind, hn])⟩) ?_
  rintro x s1 v w1 H1 rfl q1 f1
  cases x
  · go_wp2_with fail
    refine PPost.call (take_any [60] _ _ _ q1) (fun w' hn hf => ⟨rfl, .bad (f1.trans hf) (by simp only [L.comparison, L.Rd.bind, H1.out, Bool.false_eq_true, if_false, hn])⟩) ?_
    rintro x s2 v w2 H2 rfl q2 f2
    cases x
    · go_wp2_with fail
      go_ret2
      exact .good (x := (0, false)) (f1.trans f2) (by simp only [L.comparison, L.Rd.bind, H1.out, Bool.false_eq_true, if_false, H2.out, L.Rd.ret]) rfl q2
    · go_wp2_with fail
      go_ret2
      exact .good (x := (16, true)) (f1.trans f2) (by simp only [L.comparison, L.Rd.bind, H1.out, Bool.false_eq_true, if_false, H2.out, if_true, L.Rd.ret]) rfl q2
  · go_wp2_with fail
    go_ret2
    exact .good (x := (15, true)) f1 (by simp only [L.comparison, L.Rd.bind, H1.out, if_true, L.Rd.ret]) rfl q1
end Go.Proofs.YtpdbkdcdlafobaaGreatDoor
end
section
namespace Go.Proofs.YtpdbkdcdlafobaaGreatDoor
open Go.RowKit
def strs (l : List L.Bytes) : List Value := l.map fun x => .string (str x)
/-- A slice of strings that reads as a list. -/
def Strs (w : World) (v : Value) (l : List L.Bytes) : Prop := w.ownsRow 0 9 1 v l.length (strs l)
def prs (l : List (L.Bytes × Int)) : List Value := l.flatMap fun x => [.string (str x.1), .int .i64 x.2]
/-- A slice of parameters that reads as a list. -/
def Prs (w : World) (v : Value) (l : List (L.Bytes × Int)) : Prop := w.ownsRow 0 49 2 v l.length (prs l)
theorem add_zero_off (g j : Nat) : (⟨g, 0, none⟩ : Addr).add j = ⟨g, j, none⟩ := by unfold Addr.add; split <;> simp_all
theorem cell_one_at {w : World} {v : Value} {e : TypeId} {n : Nat} (hn : w.heap.size = n) : ∀ (j : Nat) (u : Value), [v][j]? = some u → (w.alloc (.cells #[v] e)).cell? ((⟨n, 0, none⟩ : Addr).add j) = some u := by
  subst hn; exact cell_one_new _ _ _
theorem contains_any (v : Value) (l : List L.Bytes) (x : L.Bytes) (w : World) (h : Strs w v l) : Calls Tryz.prog 96 #[v, .string (str x)] w fun e w' => e = .returned (.bool (l.contains x)) ∧ w = w' := by
  have hc := @World.ownsRow.cells _ _ _ _ _ _ _ h
  rcases h.2 with ⟨rfl, hn⟩ | ⟨g, cap, cur, rfl, _, _, hn, hcap, _⟩
  · have : l = [] := by simpa using hn
    subst this
    refine (Tryz.slices_Contains_string_empty _ _ _ _).mono fun e w' ⟨he, hw⟩ => ⟨by rw [he]; rfl, hw.symm⟩
  · have hc := hc rfl
    rcases l with _ | ⟨a, l⟩
    · refine (Tryz.slices_Contains_string_empty _ _ _ _).mono fun e w' ⟨he, hw⟩ => ⟨by rw [he]; rfl, hw.symm⟩
    · refine (Tryz.slices_Contains_string g 0 _ _ ((a :: l).map str) _ _ (by simp) (by unfold maxLen at hcap; omega) ?_).mono fun e w' ⟨he, hw⟩ => ⟨?_, hw.symm⟩
      · intro j hj
        have := hc j (.string (((a :: l).map str).getD j ByteArray.empty)) (by
          rw [List.length_map] at hj
          simp only [strs, List.getElem?_map, List.getElem?_eq_getElem hj, Option.map_some, List.getD_eq_getElem?_getD, Option.getD_some])
        rw [add_zero_off] at this
        rw [Nat.zero_add]; exact this
      · rw [he]
        refine ret_bool ?_
        rw [Bool.eq_iff_iff]
        rw [Lib.containsS_iff, List.take_of_length_le (by simp), List.contains_iff_mem, List.mem_map]
        exact ⟨fun ⟨b, hb, e⟩ => by have := congrArg bs e; simp at this; exact this ▸ hb, fun hx => ⟨x, hx, rfl⟩⟩
theorem prs_at {l : List (L.Bytes × Int)} {k : Nat} (hk : k < l.length) : (prs l)[k * 2]? = some (.string (str l[k].1)) ∧ (prs l)[k * 2 + 1]? = some (.int .i64 l[k].2) := by
  induction l generalizing k with
  | nil => simp at hk
  | cons a l ih =>
    match k with
    | 0 => exact ⟨rfl, rfl⟩
    | k + 1 =>
      have h := ih (k := k) (by simpa using hk)
      rw [show (k + 1) * 2 = k * 2 + 1 + 1 from by omega]
      exact h
def firsts (ps : List (L.Bytes × Int)) (k : Nat) : List L.Bytes := (ps.take k).map (·.1)
theorem firsts_len {ps : List (L.Bytes × Int)} {k : Nat} (h : k ≤ ps.length) : (firsts ps k).length = k := by simp [firsts]; omega
theorem firsts_succ {ps : List (L.Bytes × Int)} {k : Nat} (hk : k < ps.length) : firsts ps (k + 1) = firsts ps k ++ [ps[k].1] := by rw [firsts, List.take_succ_eq_append_getElem hk, List.map_append]; rfl
theorem okFrom_step {ps : List (L.Bytes × Int)} {k : Nat} (hk : k < ps.length) : L.okParamsFrom (firsts ps k) (ps.drop k) =
    (L.name ps[k].1 && !(firsts ps k).contains ps[k].1 && decide (ps[k].2 = 0 ∨ ps[k].2 = 1 ∨ ps[k].2 = 2) && L.okParamsFrom (firsts ps (k + 1)) (ps.drop (k + 1))) := by
  rw [List.drop_eq_getElem_cons hk, L.okParamsFrom, firsts_succ hk]
theorem info_string : (Tryz.prog.info? 9).map (fun i => (i.zero, i.size, i.bytes)) = some (some (.string ⟨#[]⟩), 1, 16) := by kernel_rfl
set_option maxHeartbeats 1000000 in
theorem validParams_slice (g cap : Nat) (cur : Array Value) (ps : List (L.Bytes × Int)) (w : World) (hb : w.heap[g]? = some (.cells cur 49 (0, 0))) (hcur : cur.toList.take (ps.length * 2) = prs ps) (hm : ps.length ≤ maxLen) (hns : ∀ x ∈ ps, x.1.length ≤ maxLen) :
    Calls Tryz.prog 166 #[.slice (some ⟨g, 0, none⟩) ps.length cap] w fun e w' => e = .returned (.bool (L.okParams ps)) ∧ Frm (fun _ => False) w w' := by
  have HO : Hid (L.okParams ps = (decide (ps.length ≤ 3) && L.okParamsFrom [] ps)) := rfl
  by_cases h3 : ps.length ≤ 3
  · go_enter Tryz.func166, Tryz.ntmps166
    go_wp2_with fail
    go_loopg [3, 11] (ps.length + 1) (fun n nv i wr => ∃ k : Nat, k ≤ ps.length ∧ n = ps.length + 1 - k ∧ i = .int .i64 k ∧ wr.ownsRow w.heap.size 9 1 nv k (strs (firsts ps k)) ∧ Hid (L.okParamsFrom [] ps = L.okParamsFrom (firsts ps k) (ps.drop k)) ∧ Frm (fun _ => False) w wr)
    case atStart => exact ⟨0, Nat.zero_le _, rfl, rfl, World.ownsRow_nil _ _ _ _, rfl, Frm.refl _ _⟩
    case round =>
      obtain ⟨k, hk, rfl, rfl, hown, hok, hf⟩ := hrel
      by_cases hlt : k < ps.length
      · have hg : wr.heap[g]? = some (.cells cur 49 (0, 0)) := (hf.2 g (by rcases Nat.lt_or_ge g w.heap.size with h | h; exact h; rw [Array.getElem?_eq_none h] at hb; cases hb) id).trans hb
        have hp := prs_at hlt
        rw [← hcur, List.getElem?_take_of_lt (by omega), List.getElem?_take_of_lt (by omega)] at hp
        obtain ⟨p0, p1⟩ := hp
        have c0 : wr.cell? ⟨g, k * 2, none⟩ = some (.string (str ps[k].1)) := (cell_of_row wr g _ cur _ (0, 0) hg).trans (by simpa using p0)
        have c1 : wr.cell? ⟨g, k * 2 + 1, none⟩ = some (.int .i64 ps[k].2) := (cell_of_row wr g _ cur _ (0, 0) hg).trans (by simpa using p1)
        clear p0 p1 hg
        have HS := Lib.hid (okFrom_step hlt)
        have HF := Lib.hid (firsts_succ hlt)
        have hm1 := hns ps[k] (List.getElem_mem hlt)
        rw [← size_str] at hm1
        generalize ps[k] = x at c0 c1 HS HF hm1
        obtain ⟨x, t⟩ := x
        dsimp only at c0 c1 HS HF hm1
        have hown' := hown.alloc (.cells #[.string (str x), .int .i64 t] 49)
        have hlen := firsts_len hk
        have hst : Strs (wr.alloc (.cells #[.string (str x), .int .i64 t] 49)) u3 (firsts ps k) := by
          unfold Strs; rw [hlen]; exact ⟨hown'.1, hown'.2.imp id fun ⟨g, cap, cur, h1, h2, h3⟩ => ⟨g, cap, cur, h1, Nat.zero_le _, h3⟩⟩
        have HL := Lib.hid hlen
        clear hlen hown
        cases hn : L.name x
        · have HN := Lib.hid hn
          go_wp2_with fail
          refine (validName_any _ _ hm1).mono ?_
          rintro e w' ⟨rfl, rfl⟩
          rw [bs_str, hn]
          clear hm1 hn hst
          go_wp2_with fail
          go_ret
          exact ⟨ret_bool (by rw [HO.out, hok.out, HS.out, HN.out]; simp), hf.alloc _⟩
        · have HN := Lib.hid hn
          go_wp2_with fail
          refine (validName_any _ _ hm1).mono ?_
          rintro e w' ⟨rfl, rfl⟩
          rw [bs_str, hn]
          clear hm1 hn
          go_wp2_with fail
          refine (contains_any _ _ _ _ hst).mono ?_
          rintro e w' ⟨rfl, rfl⟩
          cases hc : (firsts ps k).contains x
          · have HC := Lib.hid hc
            clear hc
            go_wp2_with fail
            refine (validType_any _ _).mono ?_
            rintro e w' ⟨rfl, rfl⟩
            cases ht : decide (t = 0 ∨ t = 1 ∨ t = 2)
            · have HT := Lib.hid ht
              clear hst ht
              go_wp2_with fail
              go_ret
              exact ⟨ret_bool (by rw [HO.out, hok.out, HS.out, HT.out]; simp), hf.alloc _⟩
            · have HT := Lib.hid ht
              clear hst ht
              obtain ⟨i0, hi, hz0, hz1, hz2⟩ := info_parts info_string
              go_wp2_with (at_builtin; refine wpList_append_own _ rfl _ _ 159 rfl w.heap.size 9 i0 (.string ⟨#[]⟩) 1 16 Tryz.underlying159 hi hz0 hz1 hz2 rfl (by decide) _ _ _ rfl (hown'.alloc _) ⟨wr.heap.size + 1, 0, none⟩ 1 1 [.string (str x)] rfl rfl ?c1 ?c2 ?c3 ?c4 ?c5 ?_)
              case c1 => exact cell_one_at (by simp)
              case c2 => simp [Value.oneCell']
              case c3 => unfold maxLen at hm ⊢; omega
              case c4 => omega
              case c5 => have := hf.1; simp; omega
              intro v' w1 hown1 hgrow _
              have F1 := Lib.hid (((hf.alloc _).alloc _).own (hown'.alloc _) hgrow)
              clear hgrow hown' hi hz0 hz1 hz2
              go_wp2_with fail
              go_roundg (ps.length + 1 - (k + 1))
              case measure => omega
              case rel =>
                refine ⟨k + 1, by omega, rfl, by go_num, ?_, ?_, F1.out⟩
                · rw [HF.out]; simpa only [strs, List.map_append, List.map_cons, List.map_nil] using hown1
                · exact show _ = _ by rw [hok.out, HS.out, HN.out, HC.out, HT.out]; simp
          · have HC := Lib.hid hc
            clear hst hc
            go_wp2_with fail
            go_ret
            exact ⟨ret_bool (by rw [HO.out, hok.out, HS.out, HC.out]; simp), hf.alloc _⟩
      · go_wp2_with fail
        go_ret
        exact ⟨ret_bool (by rw [HO.out, hok.out, decide_eq_true h3, List.drop_of_length_le (by omega)]; rfl), hf⟩
  · go_enter Tryz.func166, Tryz.ntmps166
    go_wp2_with fail
    go_ret
    exact ⟨ret_bool (by rw [HO.out, decide_eq_false h3]; rfl), Frm.refl _ _⟩
end Go.Proofs.YtpdbkdcdlafobaaGreatDoor
end
