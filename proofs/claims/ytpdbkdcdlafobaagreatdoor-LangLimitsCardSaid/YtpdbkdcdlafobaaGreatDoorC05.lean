/- Contracts of the parser: result, typ, comparison, plusOrMinus, times. Contracts of validParams and validDecls of package lang. The contract of validDecls of package lang. Contracts of the parser: params, decl, decls. Contracts of the program's functions, with no condition beyond what each theorem states. -/
import Derived.Test.YtpdbkdcdlafobaaGreatDoorC04
import Derived.Test.YtpdbkdcdlafobaaGreatDoorC01
import Derived.Deep.LoopGhost
section
namespace Go.Proofs.YtpdbkdcdlafobaaGreatDoor
open Go.RowKit
/-- A pair of a kind and whether there is one. -/
def okP : Int × Bool → Value → World → Prop := fun x v _ => v = .tuple #[.int .i64 x.1, .bool x.2]
set_option maxHeartbeats 400000 in
theorem result_any (pb : Nat) (s : L.St) (w : World) (h : PS w pb s) : Calls Tryz.prog 39 #[.pointer (some ⟨pb, 0, none⟩)] w (PPost okI pb (L.result s) w) := by
  go_enter Tryz.func39, Tryz.ntmps39
  go_wp2_with fail
  refine PPost.call (take_any [99, 111, 109] _ _ _ h) (fun w' hn hf => ⟨rfl, .bad hf (by simp only [L.result, L.Rd.bind, hn])⟩) ?_
  rintro x s1 v w1 H1 rfl q1 f1
  cases x
  · go_wp2_with fail
    refine PPost.call (want_any [101, 120, 112] _ _ _ q1) (fun w' hn hf => ⟨rfl, .bad (f1.trans hf) (by simp only [L.result, L.Rd.bind, H1.out, Bool.false_eq_true, if_false, hn])⟩) ?_
    rintro x s2 v w2 H2 rfl q2 f2
    go_wp2_with fail
    go_ret
    exact .good (f1.trans f2) (by simp only [L.result, L.Rd.bind, H1.out, Bool.false_eq_true, if_false, H2.out, L.Rd.ret]) rfl q2
  · go_wp2_with fail
    go_ret
    exact .good f1 (by simp only [L.result, L.Rd.bind, H1.out, if_true, L.Rd.ret]) rfl q1
set_option maxHeartbeats 400000 in
theorem typ_any (pb : Nat) (s : L.St) (w : World) (h : PS w pb s) : Calls Tryz.prog 94 #[.pointer (some ⟨pb, 0, none⟩)] w (PPost okI pb (L.typ s) w) := by
  go_enter Tryz.func94, Tryz.ntmps94
  go_wp2_with fail
  refine PPost.call (take_any [118, 97, 108] _ _ _ h) (fun w' hn hf => ⟨rfl, .bad hf (by simp only [L.typ, L.Rd.bind, hn])⟩) ?_
  rintro x s1 v w1 H1 rfl q1 f1
  cases x
  · go_wp2_with fail
    refine PPost.call (result_any _ _ _ q1) (fun w' hn hf => ⟨rfl, .bad (f1.trans hf) (by simp only [L.typ, L.Rd.bind, H1.out, Bool.false_eq_true, if_false, hn])⟩) ?_
    rintro x s2 v w2 H2 rfl q2 f2
    go_wp2_with fail
    go_ret
    exact .good (f1.trans f2) (by simp only [L.typ, L.Rd.bind, H1.out, Bool.false_eq_true, if_false, H2.out]) rfl q2
  · go_wp2_with fail
    go_ret
    exact .good f1 (by simp only [L.typ, L.Rd.bind, H1.out, if_true, L.Rd.ret]) rfl q1
set_option maxHeartbeats 400000 in
theorem times_any (pb : Nat) (s : L.St) (w : World) (h : PS w pb s) : Calls Tryz.prog 146 #[.pointer (some ⟨pb, 0, none⟩)] w (PPost okP pb (L.times s) w) := by
  go_enter Tryz.func146, Tryz.ntmps146
  go_wp2_with fail
  refine PPost.call (take_any [42] _ _ _ h) (fun w' hn hf => ⟨rfl, .bad hf (by simp only [L.times, L.Rd.bind, hn])⟩) ?_
  rintro x s1 v w1 H1 rfl q1 f1
  go_wp2_with fail
  go_ret2
  exact .good (x := (14, x)) f1 (by simp only [L.times, L.Rd.bind, H1.out, L.Rd.ret]) rfl q1
set_option maxHeartbeats 400000 in
theorem plusOrMinus_any (pb : Nat) (s : L.St) (w : World) (h : PS w pb s) : Calls Tryz.prog 131 #[.pointer (some ⟨pb, 0, none⟩)] w (PPost okP pb (L.plusOrMinus s) w) := by
  go_enter Tryz.func131, Tryz.ntmps131
  go_wp2_with fail
  refine PPost.call (take_any [43] _ _ _ h) (fun w' hn hf => ⟨rfl, .bad hf (by simp only [L.plusOrMinus, L.Rd.bind, hn])⟩) ?_
  rintro x s1 v w1 H1 rfl q1 f1
  cases x
  · go_wp2_with fail
    refine PPost.call (take_any [45] _ _ _ q1) (fun w' hn hf => ⟨rfl, .bad (f1.trans hf) (by simp only [L.plusOrMinus, L.Rd.bind, H1.out, Bool.false_eq_true, if_false, hn])⟩) ?_
    rintro x s2 v w2 H2 rfl q2 f2
    cases x
    · go_wp2_with fail
      go_ret2
      exact .good (x := (0, false)) (f1.trans f2) (by simp only [L.plusOrMinus, L.Rd.bind, H1.out, Bool.false_eq_true, if_false, H2.out, L.Rd.ret]) rfl q2
    · go_wp2_with fail
      go_ret2
      exact .good (x := (13, true)) (f1.trans f2) (by simp only [L.plusOrMinus, L.Rd.bind, H1.out, Bool.false_eq_true, if_false, H2.out, if_true, L.Rd.ret]) rfl q2
  · go_wp2_with fail
    go_ret2
    exact .good (x := (12, true)) f1 (by simp only [L.plusOrMinus, L.Rd.bind, H1.out, if_true, L.Rd.ret]) rfl q1
set_option maxHeartbeats 400000 in
theorem comparison_any (pb : Nat) (s : L.St) (w : World) (h : PS w pb s) : Calls Tryz.prog 101 #[.pointer (some ⟨pb, 0, none⟩)] w (PPost okP pb (L.comparison s) w) := by
  go_enter Tryz.func101, Tryz.ntmps101
  go_wp2_with fail
  refine PPost.call (take_any [61, 61] _ _ _ h) (fun w' hn hf => ⟨rfl, .bad hf (by simp only [L.comparison, L.Rd.bind, hn])⟩) ?_
  rintro x s1 v w1 H1 rfl q1 f1
  cases x
  · go_wp2_with fail
    refine PPost.call (take_any [60] _ _ _ q1) (fun w' hn hf => ⟨rfl, .bad (f1.trans hf) (by simp only [L.comparison, L.Rd.bind, H1.out, Bool.false_eq_true, if_false, hn])⟩) ?_
    rintro x s2 v w2 H2 rfl q2 f2
    cases x
    · go_wp2_with fail
      go_ret2
      exact .good (x := (0, false)) (f1.trans f2) (by simp only [L.comparison, L.Rd.bind, H1.out, Bool.false_eq_true, if_false, H2.out, L.Rd.ret]) rfl q2
    · go_wp2_with fail
      go_ret2
      exact .good (x := (16, true)) (f1.trans f2) (by simp only [L.comparison, L.Rd.bind, H1.out, Bool.false_eq_true, if_false, H2.out, if_true, L.Rd.ret]) rfl q2
  · go_wp2_with fail
    go_ret2
    exact .good (x := (15, true)) f1 (by simp only [L.comparison, L.Rd.bind, H1.out, if_true, L.Rd.ret]) rfl q1
end Go.Proofs.YtpdbkdcdlafobaaGreatDoor
end
section
namespace Go.Proofs.YtpdbkdcdlafobaaGreatDoor
open Go.RowKit
def strs (l : List L.Bytes) : List Value := l.map fun x => .string (str x)
/-- A slice of strings that reads as a list. -/
def Strs (w : World) (v : Value) (l : List L.Bytes) : Prop := w.ownsRow 0 9 1 v l.length (strs l)
def prs (l : List (L.Bytes × Int)) : List Value := l.flatMap fun x => [.string (str x.1), .int .i64 x.2]
/-- A slice of parameters that reads as a list. -/
def Prs (w : World) (v : Value) (l : List (L.Bytes × Int)) : Prop := w.ownsRow 0 49 2 v l.length (prs l)
theorem add_zero_off (g j : Nat) : (⟨g, 0, none⟩ : Addr).add j = ⟨g, j, none⟩ := by unfold Addr.add; split <;> simp_all
theorem cell_one_at {w : World} {v : Value} {e : TypeId} {n : Nat} (hn : w.heap.size = n) : ∀ (j : Nat) (u : Value), [v][j]? = some u → (w.alloc (.cells #[v] e)).cell? ((⟨n, 0, none⟩ : Addr).add j) = some u := by
  subst hn; exact cell_one_new _ _ _
theorem contains_any (v : Value) (l : List L.Bytes) (x : L.Bytes) (w : World) (h : Strs w v l) : Calls Tryz.prog 96 #[v, .string (str x)] w fun e w' => e = .returned (.bool (l.contains x)) ∧ w = w' := by
  have hc := @World.ownsRow.cells _ _ _ _ _ _ _ h
  rcases h.2 with ⟨rfl, hn⟩ | ⟨g, cap, cur, rfl, _, _, hn, hcap, _⟩
  · have : l = [] := by simpa using hn
    subst this
    refine (Tryz.slices_Contains_string_empty _ _ _ _).mono fun e w' ⟨he, hw⟩ => ⟨by rw [he]; rfl, hw.symm⟩
  · have hc := hc rfl
    rcases l with _ | ⟨a, l⟩
    · refine (Tryz.slices_Contains_string_empty _ _ _ _).mono fun e w' ⟨he, hw⟩ => ⟨by rw [he]; rfl, hw.symm⟩
    · refine (Tryz.slices_Contains_string g 0 _ _ ((a :: l).map str) _ _ (by simp) (by unfold maxLen at hcap; omega) ?_).mono fun e w' ⟨he, hw⟩ => ⟨?_, hw.symm⟩
      · intro j hj
        have := hc j (.string (((a :: l).map str).getD j ByteArray.empty)) (by
          rw [List.length_map] at hj
          simp only [strs, List.getElem?_map, List.getElem?_eq_getElem hj, Option.map_some, List.getD_eq_getElem?_getD, Option.getD_some])
        rw [add_zero_off] at this
        rw [Nat.zero_add]; exact this
      · rw [he]
        refine ret_bool ?_
        rw [Bool.eq_iff_iff]
        rw [Lib.containsS_iff, List.take_of_length_le (by simp), List.contains_iff_mem, List.mem_map]
        exact ⟨fun ⟨b, hb, e⟩ => by have := congrArg bs e; simp at this; exact this ▸ hb, fun hx => ⟨x, hx, rfl⟩⟩
theorem prs_at {l : List (L.Bytes × Int)} {k : Nat} (hk : k < l.length) : (prs l)[k * 2]? = some (.string (str l[k].1)) ∧ (prs l)[k * 2 + 1]? = some (.int .i64 l[k].2) := by
  induction l generalizing k with
  | nil => simp at hk
  | cons a l ih =>
    match k with
    | 0 => exact ⟨rfl, rfl⟩
    | k + 1 =>
      have h := ih (k := k) (by simpa using hk)
      rw [show (k + 1) * 2 = k * 2 + 1 + 1 from by omega]
      exact h
def firsts (ps : List (L.Bytes × Int)) (k : Nat) : List L.Bytes := (ps.take k).map (·.1)
theorem firsts_len {ps : List (L.Bytes × Int)} {k : Nat} (h : k ≤ ps.length) : (firsts ps k).length = k := by simp [firsts]; omega
theorem firsts_succ {ps : List (L.Bytes × Int)} {k : Nat} (hk : k < ps.length) : firsts ps (k + 1) = firsts ps k ++ [ps[k].1] := by rw [firsts, List.take_succ_eq_append_getElem hk, List.map_append]; rfl
theorem okFrom_step {ps : List (L.Bytes × Int)} {k : Nat} (hk : k < ps.length) : L.okParamsFrom (firsts ps k) (ps.drop k) =
    (L.name ps[k].1 && !(firsts ps k).contains ps[k].1 && decide (ps[k].2 = 0 ∨ ps[k].2 = 1 ∨ ps[k].2 = 2) && L.okParamsFrom (firsts ps (k + 1)) (ps.drop (k + 1))) := by
  rw [List.drop_eq_getElem_cons hk, L.okParamsFrom, firsts_succ hk]
theorem info_string : (Tryz.prog.info? 9).map (fun i => (i.zero, i.size, i.bytes)) = some (some (.string ⟨#[]⟩), 1, 16) := by kernel_rfl
set_option maxHeartbeats 1000000 in
theorem validParams_slice (g cap : Nat) (cur : Array Value) (ps : List (L.Bytes × Int)) (w : World) (hb : w.heap[g]? = some (.cells cur 49 (0, 0))) (hcur : cur.toList.take (ps.length * 2) = prs ps) (hm : ps.length ≤ maxLen) (hns : ∀ x ∈ ps, x.1.length ≤ maxLen) :
    Calls Tryz.prog 166 #[.slice (some ⟨g, 0, none⟩) ps.length cap] w fun e w' => e = .returned (.bool (L.okParams ps)) ∧ Frm (fun _ => False) w w' := by
  have HO : Hid (L.okParams ps = (decide (ps.length ≤ 3) && L.okParamsFrom [] ps)) := rfl
  by_cases h3 : ps.length ≤ 3
  · go_enter Tryz.func166, Tryz.ntmps166
    go_wp2_with fail
    go_loopg [3, 11] (ps.length + 1) (fun n nv i wr => ∃ k : Nat, k ≤ ps.length ∧ n = ps.length + 1 - k ∧ i = .int .i64 k ∧ wr.ownsRow w.heap.size 9 1 nv k (strs (firsts ps k)) ∧ Hid (L.okParamsFrom [] ps = L.okParamsFrom (firsts ps k) (ps.drop k)) ∧ Frm (fun _ => False) w wr)
    case atStart => exact ⟨0, Nat.zero_le _, rfl, rfl, World.ownsRow_nil _ _ _ _, rfl, Frm.refl _ _⟩
    case round =>
      obtain ⟨k, hk, rfl, rfl, hown, hok, hf⟩ := hrel
      by_cases hlt : k < ps.length
      · have hg : wr.heap[g]? = some (.cells cur 49 (0, 0)) := (hf.2 g (by rcases Nat.lt_or_ge g w.heap.size with h | h; exact h; rw [Array.getElem?_eq_none h] at hb; cases hb) id).trans hb
        have hp := prs_at hlt
        rw [← hcur, List.getElem?_take_of_lt (by omega), List.getElem?_take_of_lt (by omega)] at hp
        obtain ⟨p0, p1⟩ := hp
        have c0 : wr.cell? ⟨g, k * 2, none⟩ = some (.string (str ps[k].1)) := (cell_of_row wr g _ cur _ (0, 0) hg).trans (by simpa using p0)
        have c1 : wr.cell? ⟨g, k * 2 + 1, none⟩ = some (.int .i64 ps[k].2) := (cell_of_row wr g _ cur _ (0, 0) hg).trans (by simpa using p1)
        clear p0 p1 hg
        have HS := Lib.hid (okFrom_step hlt)
        have HF := Lib.hid (firsts_succ hlt)
        have hm1 := hns ps[k] (List.getElem_mem hlt)
        rw [← size_str] at hm1
        generalize ps[k] = x at c0 c1 HS HF hm1
        obtain ⟨x, t⟩ := x
        dsimp only at c0 c1 HS HF hm1
        have hown' := hown.alloc (.cells #[.string (str x), .int .i64 t] 49)
        have hlen := firsts_len hk
        have hst : Strs (wr.alloc (.cells #[.string (str x), .int .i64 t] 49)) u3 (firsts ps k) := by
          unfold Strs; rw [hlen]; exact ⟨hown'.1, hown'.2.imp id fun ⟨g, cap, cur, h1, h2, h3⟩ => ⟨g, cap, cur, h1, Nat.zero_le _, h3⟩⟩
        have HL := Lib.hid hlen
        clear hlen hown
        cases hn : L.name x
        · have HN := Lib.hid hn
          go_wp2_with fail
          refine (validName_any _ _ hm1).mono ?_
          rintro e w' ⟨rfl, rfl⟩
          rw [bs_str, hn]
          clear hm1 hn hst
          go_wp2_with fail
          go_ret
          exact ⟨ret_bool (by rw [HO.out, hok.out, HS.out, HN.out]; simp), hf.alloc _⟩
        · have HN := Lib.hid hn
          go_wp2_with fail
          refine (validName_any _ _ hm1).mono ?_
          rintro e w' ⟨rfl, rfl⟩
          rw [bs_str, hn]
          clear hm1 hn
          go_wp2_with fail
          refine (contains_any _ _ _ _ hst).mono ?_
          rintro e w' ⟨rfl, rfl⟩
          cases hc : (firsts ps k).contains x
          · have HC := Lib.hid hc
            clear hc
            go_wp2_with fail
            refine (validType_any _ _).mono ?_
            rintro e w' ⟨rfl, rfl⟩
            cases ht : decide (t = 0 ∨ t = 1 ∨ t = 2)
            · have HT := Lib.hid ht
              clear hst ht
              go_wp2_with fail
              go_ret
              exact ⟨ret_bool (by rw [HO.out, hok.out, HS.out, HT.out]; simp), hf.alloc _⟩
            · have HT := Lib.hid ht
              clear hst ht
              obtain ⟨i0, hi, hz0, hz1, hz2⟩ := info_parts info_string
              go_wp2_with (at_builtin; refine wpList_append_own _ rfl _ _ 159 rfl w.heap.size 9 i0 (.string ⟨#[]⟩) 1 16 Tryz.underlying159 hi hz0 hz1 hz2 rfl (by decide) _ _ _ rfl (hown'.alloc _) ⟨wr.heap.size + 1, 0, none⟩ 1 1 [.string (str x)] rfl rfl ?c1 ?c2 ?c3 ?c4 ?c5 ?_)
              case c1 => exact cell_one_at (by simp)
              case c2 => simp [Value.oneCell']
              case c3 => unfold maxLen at hm ⊢; omega
              case c4 => omega
              case c5 => have := hf.1; simp; omega
              intro v' w1 hown1 hgrow _
              have F1 := Lib.hid (((hf.alloc _).alloc _).own (hown'.alloc _) hgrow)
              clear hgrow hown' hi hz0 hz1 hz2
              go_wp2_with fail
              go_roundg (ps.length + 1 - (k + 1))
              case measure => omega
              case rel =>
                refine ⟨k + 1, by omega, rfl, by go_num, ?_, ?_, F1.out⟩
                · rw [HF.out]; simpa only [strs, List.map_append, List.map_cons, List.map_nil] using hown1
                · exact show _ = _ by rw [hok.out, HS.out, HN.out, HC.out, HT.out]; simp
          · have HC := Lib.hid hc
            clear hst hc
            go_wp2_with fail
            go_ret
            exact ⟨ret_bool (by rw [HO.out, hok.out, HS.out, HC.out]; simp), hf.alloc _⟩
      · go_wp2_with fail
        go_ret
        exact ⟨ret_bool (by rw [HO.out, hok.out, decide_eq_true h3, List.drop_of_length_le (by omega)]; rfl), hf⟩
  · go_enter Tryz.func166, Tryz.ntmps166
    go_wp2_with fail
    go_ret
    exact ⟨ret_bool (by rw [HO.out, decide_eq_false h3]; rfl), Frm.refl _ _⟩
end Go.Proofs.YtpdbkdcdlafobaaGreatDoor
end
section
namespace Go.Proofs.YtpdbkdcdlafobaaGreatDoor
open Go.RowKit
def ints (l : List Int) : List Value := l.map fun x => .int .i64 x
/-- A slice of types, in a block from lo on, that reads as a list. -/
def Tys (w : World) (lo : Nat) (v : Value) (l : List Int) : Prop := w.ownsRow lo 32 1 v l.length (ints l)
/-- Cells that read as declarations. -/
def Dls (w : World) (lo : Nat) : List L.Decl → List Value → Prop
  | [], cs => cs = []
  | d :: ds, cs => ∃ a cs', cs = .string (str d.name) :: a :: .int .i64 d.result :: cs' ∧ Tys w lo a d.args ∧ Dls w lo ds cs'
/-- A slice of declarations that reads as a list. -/
def Decls (w : World) (lo : Nat) (v : Value) (ds : List L.Decl) : Prop := ∃ cs, w.ownsRow lo 52 3 v ds.length cs ∧ Dls w lo ds cs
theorem Dls.at_ {w : World} {lo : Nat} {ds : List L.Decl} {cs : List Value} (h : Dls w lo ds cs) {k : Nat} (hk : k < ds.length) :
    ∃ a, cs[k * 3]? = some (.string (str ds[k].name)) ∧ cs[k * 3 + 1]? = some a ∧ cs[k * 3 + 2]? = some (.int .i64 ds[k].result) ∧ Tys w lo a ds[k].args := by
  induction ds generalizing k cs with
  | nil => simp at hk
  | cons d ds ih =>
    obtain ⟨a, cs', rfl, ha, hr⟩ := h
    match k with
    | 0 => exact ⟨a, rfl, rfl, rfl, ha⟩
    | k + 1 =>
      have h := ih hr (k := k) (by simpa using hk)
      rw [show (k + 1) * 3 = k * 3 + 1 + 1 + 1 from by omega]
      exact h
theorem Tys.form {w : World} {lo : Nat} {v : Value} {l : List Int} (h : Tys w lo v l) : ∃ A c, v = .slice A l.length c ∧ ∀ j (hj : j < l.length), ∃ g, A = some ⟨g, 0, none⟩ ∧ w.cell? ⟨g, j, none⟩ = some (.int .i64 l[j]) := by
  have hc := @World.ownsRow.cells _ _ _ _ _ _ _ h
  rcases h.2 with ⟨rfl, hn⟩ | ⟨g, cap, cur, rfl, _⟩
  · exact ⟨none, 0, by rw [hn], fun j hj => by omega⟩
  · refine ⟨_, cap, rfl, fun j hj => ⟨g, rfl, ?_⟩⟩
    have := hc rfl j (.int .i64 l[j]) (by simp [ints, hj])
    rwa [add_zero_off] at this
def dnames (ds : List L.Decl) (k : Nat) : List L.Bytes := (ds.take k).map (·.name)
theorem dnames_len {ds : List L.Decl} {k : Nat} (h : k ≤ ds.length) : (dnames ds k).length = k := by simp [dnames]; omega
theorem dnames_succ {ds : List L.Decl} {k : Nat} (hk : k < ds.length) : dnames ds (k + 1) = dnames ds k ++ [ds[k].name] := by rw [dnames, List.take_succ_eq_append_getElem hk, List.map_append]; rfl
theorem okDecls_step {ds : List L.Decl} {k : Nat} (hk : k < ds.length) : L.okDeclsFrom (dnames ds k) (ds.drop k) =
    (L.name ds[k].name && !(dnames ds k).contains ds[k].name && decide (ds[k].result = 0 ∨ ds[k].result = 1) && decide (ds[k].args.length ≤ 3) && L.okTypes ds[k].args && L.okDeclsFrom (dnames ds (k + 1)) (ds.drop (k + 1))) := by
  rw [List.drop_eq_getElem_cons hk, L.okDeclsFrom, dnames_succ hk]
theorem okTypes_step {l : List Int} {j : Nat} (hj : j < l.length) : L.okTypes (l.drop j) = (decide (l[j] = 0 ∨ l[j] = 1 ∨ l[j] = 2) && L.okTypes (l.drop (j + 1))) := by
  rw [List.drop_eq_getElem_cons hj]; rfl
set_option maxHeartbeats 1000000 in
theorem validDecls_slice (lo g cap : Nat) (cur : Array Value) (cs : List Value) (ds : List L.Decl) (w : World) (hb : w.heap[g]? = some (.cells cur 52 (0, 0))) (hcur : cur.toList.take (ds.length * 3) = cs) (hd : Dls w lo ds cs) (hm : ds.length ≤ maxLen) (hns : ∀ x ∈ ds, x.name.length ≤ maxLen) (hts : ∀ x ∈ ds, x.args.length ≤ maxLen) :
    Calls Tryz.prog 67 #[.slice (some ⟨g, 0, none⟩) ds.length cap] w fun e w' => e = .returned (.bool (L.okDecls ds)) ∧ Frm (fun _ => False) w w' := by
  have HO : Hid (L.okDecls ds = (decide (ds.length ≤ 4) && L.okDeclsFrom [] ds)) := rfl
  by_cases h3 : ds.length ≤ 4
  · go_enter Tryz.func67, Tryz.ntmps67
    go_wp2_with fail
    go_loopg [3, 13] (ds.length + 1) (fun n nv i wr => ∃ k : Nat, k ≤ ds.length ∧ n = ds.length + 1 - k ∧ i = .int .i64 k ∧ wr.ownsRow w.heap.size 9 1 nv k (strs (dnames ds k)) ∧ Hid (L.okDeclsFrom [] ds = L.okDeclsFrom (dnames ds k) (ds.drop k)) ∧ Frm (fun _ => False) w wr)
    case atStart => exact ⟨0, Nat.zero_le _, rfl, rfl, World.ownsRow_nil _ _ _ _, rfl, Frm.refl _ _⟩
    case round =>
      obtain ⟨k, hk, rfl, rfl, hown, hok, hf⟩ := hrel
      by_cases hlt : k < ds.length
      · have hg : wr.heap[g]? = some (.cells cur 52 (0, 0)) := hf.heap id hb
        obtain ⟨a, p0, p1, p2, ha⟩ := hd.at_ hlt
        rw [← hcur, List.getElem?_take_of_lt (by omega)] at p0 p1 p2
        have c0 : wr.cell? ⟨g, k * 3, none⟩ = some (.string (str ds[k].name)) := (cell_of_row wr g _ cur _ (0, 0) hg).trans (by simpa using p0)
        have c1 : wr.cell? ⟨g, k * 3 + 1, none⟩ = some a := (cell_of_row wr g _ cur _ (0, 0) hg).trans (by simpa using p1)
        have c2 : wr.cell? ⟨g, k * 3 + 2, none⟩ = some (.int .i64 ds[k].result) := (cell_of_row wr g _ cur _ (0, 0) hg).trans (by simpa using p2)
        clear p0 p1 p2 hg
        obtain ⟨A, c, rfl, hA⟩ := ha.form
        have HS := Lib.hid (okDecls_step hlt)
        have HF := Lib.hid (dnames_succ hlt)
        have hm1 := hns ds[k] (List.getElem_mem hlt)
        have hm2 := hts ds[k] (List.getElem_mem hlt)
        rw [← size_str] at hm1
        generalize ds[k] = d at c0 c1 c2 HS HF hm1 hm2 hA
        obtain ⟨x, l, t⟩ := d
        dsimp only at c0 c1 c2 HS HF hm1 hm2 hA
        have HA : Hid (∀ j (hj : j < l.length), ∃ g, A = some ⟨g, 0, none⟩ ∧ wr.cell? ⟨g, j, none⟩ = some (.int .i64 l[j])) := fun j hj => (hA j hj).imp fun g h => ⟨h.1, hf.cell id h.2⟩
        clear hA ha
        have hown' := hown.alloc (.cells #[.string (str x), .slice A l.length c, .int .i64 t] 52)
        have hlen := dnames_len hk
        have hst : Strs (wr.alloc (.cells #[.string (str x), .slice A l.length c, .int .i64 t] 52)) u3 (dnames ds k) := by
          unfold Strs; rw [hlen]; exact ⟨hown'.1, hown'.2.imp id fun ⟨g, cap, cur, h1, h2, h3⟩ => ⟨g, cap, cur, h1, Nat.zero_le _, h3⟩⟩
        clear hlen hown
        go_wp2_with fail
        refine (validName_any _ _ hm1).mono ?_
        rintro e w' ⟨rfl, rfl⟩
        rw [bs_str]
        clear hm1
        cases hn : L.name x
        · have HN := Lib.hid hn
          clear hn hst
          go_wp2_with fail
          go_ret
          exact ⟨ret_bool (by rw [HO.out, hok.out, HS.out, HN.out]; simp), hf.alloc _⟩
        have HN := Lib.hid hn
        clear hn
        go_wp2_with fail
        refine (contains_any _ _ _ _ hst).mono ?_
        rintro e w' ⟨rfl, rfl⟩
        cases hc : (dnames ds k).contains x
        rotate_left
        · have HC := Lib.hid hc
          clear hst hc
          go_wp2_with fail
          go_ret
          exact ⟨ret_bool (by rw [HO.out, hok.out, HS.out, HC.out]; simp), hf.alloc _⟩
        have HC := Lib.hid hc
        clear hc hst
        go_wp2_with fail
        refine (validResult_any _ _).mono ?_
        rintro e w' ⟨rfl, rfl⟩
        cases ht : decide (t = 0 ∨ t = 1)
        · have HT := Lib.hid ht
          clear ht
          go_wp2_with fail
          go_ret
          exact ⟨ret_bool (by rw [HO.out, hok.out, HS.out, HT.out]; simp), hf.alloc _⟩
        have HT := Lib.hid ht
        clear ht
        by_cases h4 : l.length ≤ 3
        rotate_left
        · go_wp2_with fail
          go_ret
          exact ⟨ret_bool (by rw [HO.out, hok.out, HS.out, decide_eq_false h4]; simp), hf.alloc _⟩
        go_wp2_with fail
        go_loopg [42] (l.length + 1) (fun n i wr2 => ∃ j : Nat, j ≤ l.length ∧ n = l.length + 1 - j ∧ i = .int .i64 j ∧ Hid (L.okTypes l = L.okTypes (l.drop j)) ∧ wr2 = wr.alloc (.cells #[.string (str x), .slice A l.length c, .int .i64 t] 52))
        case atStart => exact ⟨0, Nat.zero_le _, rfl, rfl, rfl, rfl⟩
        case round =>
          obtain ⟨j, hj, rfl, rfl, hoj, rfl⟩ := hrel
          by_cases hjl : j < l.length
          · obtain ⟨ga, rfl, hca⟩ := HA.out j hjl
            have hca2 := (Frm.refl (fun _ => False) wr).alloc (.cells #[.string (str x), .slice (some ⟨ga, 0, none⟩) l.length c, .int .i64 t] 52) |>.cell id hca
            have HJ := Lib.hid (okTypes_step hjl)
            generalize l[j] = tj at hca hca2 HJ
            go_wp2_with fail
            refine (validType_any _ _).mono ?_
            rintro e w' ⟨rfl, rfl⟩
            cases hq : decide (tj = 0 ∨ tj = 1 ∨ tj = 2)
            · have HQ := Lib.hid hq
              clear hq hca hca2
              go_wp2_with fail
              go_ret
              exact ⟨ret_bool (by rw [HO.out, hok.out, HS.out, hoj.out, HJ.out, HQ.out]; simp), hf.alloc _⟩
            · have HQ := Lib.hid hq
              clear hq hca hca2
              go_wp2_with fail
              go_roundg (l.length + 1 - (j + 1))
              case measure => omega
              case rel => exact ⟨j + 1, by omega, rfl, by go_num, by exact show _ = _ by rw [hoj.out, HJ.out, HQ.out, Bool.true_and], rfl⟩
          · have HE : Hid (L.okTypes l = true) := by exact show _ = _ by rw [hoj.out, List.drop_of_length_le (by omega)]; rfl
            clear HA
            obtain ⟨i0, hi, hz0, hz1, hz2⟩ := info_parts info_string
            go_wp2_with (at_builtin; refine wpList_append_own _ rfl _ _ 159 rfl w.heap.size 9 i0 (.string ⟨#[]⟩) 1 16 Tryz.underlying159 hi hz0 hz1 hz2 rfl (by decide) _ _ _ rfl (hown'.alloc _) ⟨wr.heap.size + 1, 0, none⟩ 1 1 [.string (str x)] rfl rfl ?c1 ?c2 ?c3 ?c4 ?c5 ?_)
            case c1 => exact cell_one_at (by simp)
            case c2 => simp [Value.oneCell']
            case c3 => unfold maxLen at hm ⊢; omega
            case c4 => omega
            case c5 => have := hf.1; simp; omega
            intro v' w1 hown1 hgrow _
            have F1 := Lib.hid (((hf.alloc _).alloc _).own (hown'.alloc _) hgrow)
            clear hgrow hown' hi hz0 hz1 hz2
            go_wp2_with fail
            go_roundg (ds.length + 1 - (k + 1))
            case measure => omega
            case rel =>
              refine ⟨k + 1, by omega, rfl, by go_num, ?_, ?_, F1.out⟩
              · rw [HF.out]; simpa only [strs, List.map_append, List.map_cons, List.map_nil] using hown1
              · exact show _ = _ by rw [hok.out, HS.out, HN.out, HC.out, HT.out, HE.out, decide_eq_true h4]; simp
      · go_wp2_with fail
        go_ret
        exact ⟨ret_bool (by rw [HO.out, hok.out, decide_eq_true h3, List.drop_of_length_le (by omega)]; rfl), hf⟩
  · go_enter Tryz.func67, Tryz.ntmps67
    go_wp2_with fail
    go_ret
    exact ⟨ret_bool (by rw [HO.out, decide_eq_false h3]; rfl), Frm.refl _ _⟩
end Go.Proofs.YtpdbkdcdlafobaaGreatDoor
namespace Go.Proofs.YtpdbkdcdlafobaaGreatDoor
open Go.RowKit
theorem validParams_any (v : Value) (ps : List (L.Bytes × Int)) (w : World) (h : Prs w v ps) (hns : ∀ x ∈ ps, x.1.length ≤ maxLen) :
    Calls Tryz.prog 166 #[v] w fun e w' => e = .returned (.bool (L.okParams ps)) ∧ Frm (fun _ => False) w w' := by
  rcases h.2 with ⟨rfl, hn⟩ | ⟨g, cap, cur, rfl, _, hg, hn, hcap, _, ht⟩
  · have : ps = [] := by simpa using hn
    subst this
    go_enter Tryz.func166, Tryz.ntmps166
    go_wp2_with fail
    go_loopg [11] 1 (fun _ i wr => i = .int .i64 0 ∧ w = wr)
    case atStart => exact ⟨rfl, rfl⟩
    case round =>
      obtain ⟨rfl, rfl⟩ := hrel
      go_wp2_with fail
      go_ret
      exact ⟨rfl, Frm.refl _ _⟩
  · exact validParams_slice g cap cur ps w hg ht (by unfold maxLen at *; omega) hns
theorem validDecls_any (lo : Nat) (v : Value) (ds : List L.Decl) (w : World) (h : Decls w lo v ds) (hns : ∀ x ∈ ds, x.name.length ≤ maxLen) :
    Calls Tryz.prog 67 #[v] w fun e w' => e = .returned (.bool (L.okDecls ds)) ∧ Frm (fun _ => False) w w' := by
  obtain ⟨cs, h, hd⟩ := h
  rcases h.2 with ⟨rfl, hn⟩ | ⟨g, cap, cur, rfl, _, hg, hn, hcap, _, ht⟩
  · have : ds = [] := by simpa using hn
    subst this
    go_enter Tryz.func67, Tryz.ntmps67
    go_wp2_with fail
    go_loopg [13] 1 (fun _ i wr => i = .int .i64 0 ∧ w = wr)
    case atStart => exact ⟨rfl, rfl⟩
    case round =>
      obtain ⟨rfl, rfl⟩ := hrel
      go_wp2_with fail
      go_ret
      exact ⟨rfl, Frm.refl _ _⟩
  · refine validDecls_slice lo g cap cur cs ds w hg ht hd (by unfold maxLen at *; omega) hns ?_
    intro d hdm
    obtain ⟨k, hk, rfl⟩ := List.getElem_of_mem hdm
    obtain ⟨a, _, _, _, ha⟩ := hd.at_ hk
    rcases ha.2 with ⟨_, hz⟩ | ⟨_, _, _, _, _, _, h1, h2, _⟩
    · omega
    · omega
end Go.Proofs.YtpdbkdcdlafobaaGreatDoor
end
section
namespace Go.Proofs.YtpdbkdcdlafobaaGreatDoor
open Go.RowKit
theorem info_param : (Tryz.prog.info? 49).map (fun i => (i.zero, i.size, i.bytes)) = some (some (.agg #[.string ⟨#[]⟩, .int .i64 0]), 2, 24) := by kernel_rfl
theorem cell_two_at {w : World} {u v : Value} {e : TypeId} {n : Nat} (hn : w.heap.size = n) : ∀ (j : Nat) (x : Value), [u, v][j]? = some x → (w.alloc (.cells #[u, v] e)).cell? ((⟨n, 0, none⟩ : Addr).add j) = some x := by
  subst hn
  intro j x hx
  rw [add_zero_off, (Blk.new w e #[u, v]).cell j]
  simpa using hx
def okPrs (lo : Nat) : List (L.Bytes × Int) → Value → World → Prop := fun l v w => w.ownsRow lo 49 2 v l.length (prs l)
theorem name_len {l : L.Bytes} (h : L.name l = true) : l.length ≤ 8 := by unfold L.name at h; simp at h; exact h.1.1.2
theorem getName_len {s s' : L.St} {x : L.Bytes} (h : L.getName s = some (x, s')) : x.length ≤ maxLen := by
  unfold L.getName at h
  split at h
  · rename_i hn
    obtain ⟨_, s1, _, e2⟩ := L.bind_some h
    cases e2
    have := name_len hn
    unfold maxLen; omega
  · cases h
theorem prs_snoc (l : List (L.Bytes × Int)) (x : L.Bytes) (t : Int) : prs (l ++ [(x, t)]) = prs l ++ [.string (str x), .int .i64 t] := by simp [prs]
theorem okParams_len {l : List (L.Bytes × Int)} (h : L.okParams l = true) : l.length ≤ 3 := by unfold L.okParams at h; simp at h; exact h.1
set_option maxHeartbeats 1000000 in
theorem params_any (pb : Nat) (s : L.St) (w : World) (h : PS w pb s) : Calls Tryz.prog 159 #[.pointer (some ⟨pb, 0, none⟩)] w (PPost (okPrs w.heap.size) pb (L.params s) w) := by
  have h0 := h.1.cell 0
  by_cases hp : s.part = [41]
  · have hpq : (s.part == [41]) = true := by simpa using hp
    have HG : Hid (L.params s = some ([], s)) := by simp [Hid, L.params, hp]
    clear hp
    go_enter Tryz.func159, Tryz.ntmps159
    go_wp2_with fail
    go_ret
    exact .good (x := []) (Frm.refl _ _) HG.out (World.ownsRow_nil _ _ _ _) h
  have hpq : (s.part == [41]) = false := by simpa using hp
  have HG : Hid (L.params s = L.paramsFrom (s.m + 1) [] s) := by simp [Hid, L.params, hp]
  clear hp
  have HPS := Lib.hid h
  go_enter Tryz.func159, Tryz.ntmps159
  go_wp2_with fail
  clear h0 hpq
  go_loopg [3] (s.m + 1) (fun n v wr => ∃ (acc : List (L.Bytes × Int)) (s1 : L.St), PS wr pb s1 ∧ s1.m < n ∧ acc.length + n ≤ 8002 ∧ wr.ownsRow w.heap.size 49 2 v acc.length (prs acc) ∧ Hid (L.params s = L.paramsFrom n acc s1) ∧ (∀ x ∈ acc, x.1.length ≤ maxLen) ∧ Frm (· = pb) w wr)
  case atStart => exact ⟨[], s, h, by omega, by have := h.2.1; have := h.2.2; simp only [L.St.m, List.length_nil]; omega, World.ownsRow_nil _ _ _ _, HG, (fun x hx => by cases hx), Frm.refl _ _⟩
  case round =>
    obtain ⟨acc, s1, hs1, hm, hle, hown, HT, hns, hf⟩ := hrel
    obtain ⟨n, rfl⟩ : ∃ n, gk = n + 1 := ⟨gk - 1, by omega⟩
    have HX : Hid (L.paramsFrom (n + 1) acc s1 = (L.getName.bind fun x => (L.want [58]).bind fun _ => L.typ.bind fun t => (L.take [44]).bind fun b =>
      if b then L.paramsFrom n (acc ++ [(x, t)]) else if L.okParams (acc ++ [(x, t)]) then .ret (acc ++ [(x, t)]) else .no) s1) := rfl
    go_wp2_with fail
    refine PPost.call (name_any _ _ _ hs1) (fun w' hn hf1 => ⟨rfl, .bad (hf.trans hf1) (by simp only [HT.out, HX.out, L.Rd.bind, hn])⟩) ?_
    rintro x s2 v w2 H2 rfl q2 f2
    go_wp2_with fail
    refine PPost.call (want_any [58] _ _ _ q2) (fun w' hn hf1 => ⟨rfl, .bad (hf.trans (f2.trans hf1)) (by simp only [HT.out, HX.out, L.Rd.bind, H2.out, hn])⟩) ?_
    rintro _ s3 v w3 H3 rfl q3 f3
    go_wp2_with fail
    refine PPost.call (typ_any _ _ _ q3) (fun w' hn hf1 => ⟨rfl, .bad (hf.trans (f2.trans (f3.trans hf1))) (by simp only [HT.out, HX.out, L.Rd.bind, H2.out, H3.out, hn])⟩) ?_
    rintro t s4 v w4 H4 rfl q4 f4
    have fa := Lib.hid (f2.trans (f3.trans f4))
    have hown4 := (f2.trans (f3.trans f4)).row hown (fun g hg e => by have := (hown.lt g hg).1; have := h.1.lt; omega) (Nat.le_refl _)
    have hsz := Lib.hid (f2.trans (f3.trans f4)).1
    clear hown f2 f3 f4
    obtain ⟨i0, hi, hz0, hz1, hz2⟩ := info_parts info_param
    go_wp2_with (at_builtin; refine wpList_append_own _ rfl _ _ 44 rfl w.heap.size 49 i0 (.agg #[.string ⟨#[]⟩, .int .i64 0]) 2 24 Tryz.underlying44 hi hz0 hz1 hz2 rfl (by decide) _ _ _ rfl (hown4.alloc _) ⟨w4.heap.size, 0, none⟩ 1 1 [.string (str x), .int .i64 t] rfl rfl ?c1 ?c2 ?c3 ?c4 ?c5 ?_)
    case c1 => exact cell_two_at rfl
    case c2 => simp [Value.oneCell']
    case c3 => unfold maxLen; omega
    case c4 => omega
    case c5 => have := hf.1; have := hsz.out; simp; omega
    intro v' w5 hown5 hgrow _
    have F5 := Lib.hid (((hf.trans fa.out).alloc _).own (hown4.alloc _) hgrow)
    have q5 : PS w5 pb s4 := ⟨(Blk.grown (Blk.alloc q4.1 _) hgrow (fun e => by have := (hown4.lt pb e.symm).1; have := h.1.lt; omega)), q4.2⟩
    clear hgrow hown4 hi hz0 hz1 hz2
    go_wp2_with fail
    refine PPost.call (take_any [44] _ _ _ q5) (fun w' hn hf1 => ⟨rfl, .bad (F5.out.trans hf1) (by simp only [HT.out, HX.out, L.Rd.bind, H2.out, H3.out, H4.out, hn])⟩) ?_
    rintro b s6 v w6 H6 rfl q6 f6
    have hown6 := f6.row hown5 (fun g hg e => by have := (hown5.lt g hg).1; have := h.1.lt; omega) (Nat.le_refl _)
    have hns' : Hid (∀ y ∈ acc ++ [(x, t)], y.1.length ≤ maxLen) := by
      intro y hy
      rcases List.mem_append.1 hy with h | h
      · exact hns y h
      · rw [List.mem_singleton.1 h]; exact getName_len H2.out
    have HM : Hid (s6.m < s1.m) := by
      have := L.getName_lt _ _ _ H2.out
      have := L.want_le _ _ _ _ H3.out
      have := L.typ_le _ _ _ H4.out
      have := L.take_le _ _ _ _ H6.out
      exact show s6.m < s1.m by omega
    rw [← prs_snoc] at hown6
    clear hown5 q5 hns
    cases b
    · have hl : (acc ++ [(x, t)]).length = acc.length + 1 := by simp
      have hprs : Prs w6 v' (acc ++ [(x, t)]) := by
        unfold Prs; rw [hl]
        exact ⟨hown6.1, hown6.2.imp id fun ⟨g, cap, cur, h1, h2, h3⟩ => ⟨g, cap, cur, h1, Nat.zero_le _, h3⟩⟩
      rw [← hl] at hown6
      have HO6 := Lib.hid hown6
      clear hl hown6
      go_wp2_with fail
      refine (validParams_any _ _ _ hprs hns'.out).mono ?_
      rintro e w7 ⟨rfl, f7⟩
      cases ho : L.okParams (acc ++ [(x, t)])
      · have HO := Lib.hid ho
        clear ho
        go_wp2_with (go_at_call 66; refine (must_false _).mono ?_; rintro e w' ⟨rfl, rfl⟩)
        exact ⟨rfl, .bad (F5.out.trans (f6.trans (f7.mono fun _ _ h => h.elim))) (by simp only [HT.out, HX.out, L.Rd.bind, H2.out, H3.out, H4.out, H6.out, HO.out, Bool.false_eq_true, if_false]; rfl)⟩
      · have HO := Lib.hid ho
        clear ho
        go_wp2_with (go_at_call 66; refine (must_true _).mono ?_; rintro e w' ⟨rfl, rfl⟩)
        go_ret
        exact .good (F5.out.trans (f6.trans (f7.mono fun _ _ h => h.elim))) (by simp only [HT.out, HX.out, L.Rd.bind, H2.out, H3.out, H4.out, H6.out, HO.out, Bool.false_eq_true, if_false, if_true]; rfl)
          (f7.row HO6.out (fun _ _ h => h) (Nat.le_refl _)) ⟨f7.blk q6.1 id, q6.2⟩
    · go_wp2_with fail
      go_roundg n
      case measure => omega
      case rel =>
        refine ⟨acc ++ [(x, t)], s6, q6, by have := HM.out; omega, by simp; omega, by simpa using hown6, ?_, hns'.out, F5.out.trans f6⟩
        exact show _ = _ by simp only [HT.out, HX.out, L.Rd.bind, H2.out, H3.out, H4.out, H6.out, if_true]
end Go.Proofs.YtpdbkdcdlafobaaGreatDoor
end
