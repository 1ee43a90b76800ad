/- What is found and numbered: words; numberOf at ints. Search at ints. gather. byEnd. A region that draws its order: its last operation is free of all others, what stands ahead of the tail only reads. Contracts of the program's functions, with no condition beyond what each theorem states. -/
import Derived.Test.YtmoniecknimmdaaC04
import Derived.Maps.OwnSet
import Derived.Maps.Views
import Derived.Deep.RegionLaw
import Derived.Test.YtmoniecknimmdaaC02
section
namespace Go.Proofs.Ytmoniecknimmdaa
open Go.RowKit Go.Maps
namespace A
variable {α : Type} [DecidableEq α]
def idx (x : α) : List α → Nat
  | [] => 0
  | y :: l => if y = x then 0 else idx x l + 1
theorem idx_lt {x : α} : ∀ {l : List α}, x ∈ l → idx x l < l.length
  | y :: l, h => by
    unfold idx
    by_cases e : y = x
    · simp [e]
    · rw [if_neg e]
      have := idx_lt (l := l) (by rcases List.mem_cons.1 h with h | h; exact absurd h.symm e; exact h)
      simp; omega
theorem idx_get {x : α} : ∀ {l : List α} (h : x ∈ l), l[idx x l]'(idx_lt h) = x
  | y :: l, h => by
    by_cases e : y = x
    · simp [idx, e]
    · have h2 : x ∈ l := by rcases List.mem_cons.1 h with h | h; exact absurd h.symm e; exact h
      have := idx_get h2
      simp only [idx, if_neg e, List.getElem_cons_succ]
      exact this
/-- The number of a thing, and what is found then. -/
def numO (none_ x : α) (ts : List α) : Int × List α := if x = none_ then (-1, ts) else if x ∈ ts then (idx x ts, ts) else (ts.length, ts ++ [x])
end A
section
variable {α : Type} [DecidableEq α]
/-- What the datum D tells of numbers: none has -1, each thing its place. -/
structure Reads (kl : α → Lit) (ok : α → Prop) (none_ : α) (ts : List α) (D : DataW Unit) : Prop where
  map : IsMap D
  has : ∀ x, ok x → Maps.has D (kl x) = decide (x = none_ ∨ x ∈ ts)
  non : D.atKey (kl none_) (.lit (.int .i64 0)) = .lit (.int .i64 (-1))
  at_ : ∀ i (h : i < ts.length), D.atKey (kl ts[i]) (.lit (.int .i64 0)) = .lit (.int .i64 (i : Int))
  oks : ∀ x ∈ ts, ok x
  nin : none_ ∉ ts
  okn : ok none_
theorem Reads.new {kl : α → Lit} {ok : α → Prop} {none_ : α} (hk : ∀ x, ok x → WideAt.IsKeyLit (kl x)) (hinj : ∀ x y, ok x → ok y → kl x = kl y → x = y) (hn : ok none_) : Reads kl ok none_ [] ((.map [] : DataW Unit).put (kl none_) (.lit (.int .i64 (-1)))) := by
  refine ⟨isMap_empty.put _ _, fun x hx => ?_, atKey_put_same isMap_empty (hk _ hn) _ _, fun i h => by simp at h, fun x hx => by simp at hx, by simp, hn⟩
  by_cases e : x = none_
  · subst e; rw [has_put_same isMap_empty (hk _ hn)]; simp
  · rw [has_put_other (fun h => e (hinj _ _ hx hn h))]; simp [e]; rfl
theorem Reads.put {kl : α → Lit} {ok : α → Prop} {none_ : α} {ts : List α} {D : DataW Unit} (h : Reads kl ok none_ ts D) (hk : ∀ x, ok x → WideAt.IsKeyLit (kl x)) (hinj : ∀ x y, ok x → ok y → kl x = kl y → x = y) {x : α} (hx : ok x) (hn : x ≠ none_) (hm : x ∉ ts) : Reads kl ok none_ (ts ++ [x]) (D.put (kl x) (.lit (.int .i64 (ts.length : Int)))) := by
  refine ⟨h.map.put _ _, fun y hy => ?_, ?_, fun i hi => ?_, fun y hy => ?_, ?_, h.okn⟩
  · by_cases e : y = x
    · subst e; rw [has_put_same h.map (hk _ hx)]; simp
    · rw [has_put_other (fun h => e (hinj _ _ hy hx h)), h.has y hy]; simp [e]
  · rw [atKey_put_other (fun e => hn (hinj _ _ hx h.okn e.symm))]; exact h.non
  · by_cases hlt : i < ts.length
    · have e : (ts ++ [x])[i] = ts[i] := List.getElem_append_left hlt
      rw [e, atKey_put_other (fun e2 => hm ((hinj _ _ (h.oks _ (List.getElem_mem hlt)) hx e2) ▸ List.getElem_mem hlt))]
      exact h.at_ i hlt
    · have hi' : i = ts.length := by simp at hi; omega
      subst hi'
      have e : (ts ++ [x])[ts.length] = x := by simp
      rw [e, atKey_put_same h.map (hk _ hx)]
  · rw [List.mem_append, List.mem_singleton] at hy
    rcases hy with hy | hy
    · exact h.oks y hy
    · subst hy; exact hx
  · rw [List.mem_append, List.mem_singleton]
    rintro (h2 | h2)
    · exact h.nin h2
    · exact hn h2.symm
structure FT (α : Type) where
  fty : TypeId
  e : TypeId
  k : TypeId
  sz : Nat
  f : α → List Value
/-- What is found, in the block fb; all lies in S. -/
structure Fnd (T : FT α) (kl : α → Lit) (ok : α → Prop) (none_ : α) (w : World) (S : Nat → Prop) (fb mb : Nat) (v : Value) (ts : List α) (D : DataW Unit) : Prop where
  out : Blk w fb T.fty #[.map (some mb), v]
  own : w.ownsMap Try.prog T.k (plainElem Try.prog 3) mb (ts.length + 1) D
  rd : Reads kl ok none_ ts D
  row : w.ownsRow 0 T.e T.sz v ts.length (ts.flatMap T.f)
  sf : S fb
  sm : S mb
  sv : ∀ g, v.ownBlock = some g → S g ∧ g ≠ fb ∧ g ≠ mb
  nm : fb ≠ mb
theorem ownsMap_heap {w w' : World} {k : TypeId} {R : Value → Option (DataW Unit × List MemPlace)} {b n : Nat} {D : DataW Unit} (h : w.ownsMap Try.prog k R b n D) (e : w'.heap[b]? = w.heap[b]?) : w'.ownsMap Try.prog k R b n D := by
  obtain ⟨es, clock, h1, h2, h3, h4⟩ := h
  exact ⟨es, clock, e.trans h1, h2, h3, h4⟩
theorem ownsMap_lt {w : World} {k : TypeId} {R : Value → Option (DataW Unit × List MemPlace)} {b n : Nat} {D : DataW Unit} (h : w.ownsMap Try.prog k R b n D) : b < w.heap.size := by
  obtain ⟨es, clock, h1, _⟩ := h
  exact lt_of_heap h1
variable {T : FT α} {kl : α → Lit} {ok : α → Prop} {none_ : α} {w w' : World} {S S' E : Nat → Prop} {fb mb : Nat} {v : Value} {ts : List α} {D : DataW Unit}
theorem Fnd.frm (h : Fnd T kl ok none_ w S fb mb v ts D) (F : Frm E w w') (hE : ∀ b, b < w.heap.size → S b → ¬ E b) : Fnd T kl ok none_ w' S fb mb v ts D :=
  ⟨F.blk h.out (hE _ h.out.lt h.sf), ownsMap_heap h.own (F.2 _ (ownsMap_lt h.own) (hE _ (ownsMap_lt h.own) h.sm)), h.rd, F.row h.row (fun g hg => hE g (World.ownsRow.lt h.row g hg).2 (h.sv g hg).1) (Nat.le_refl _), h.sf, h.sm, h.sv, h.nm⟩
theorem Fnd.mono (h : Fnd T kl ok none_ w S fb mb v ts D) (hS : ∀ b, b < w.heap.size → S b → S' b) : Fnd T kl ok none_ w S' fb mb v ts D :=
  ⟨h.out, h.own, h.rd, h.row, hS _ h.out.lt h.sf, hS _ (ownsMap_lt h.own) h.sm, fun g hg => ⟨hS _ (World.ownsRow.lt h.row g hg).2 (h.sv g hg).1, (h.sv g hg).2⟩, h.nm⟩
/-- A thing put in: the map turned to w1, then its number in the list's new row in w2, then the field. -/
theorem Fnd.add (h : Fnd T kl ok none_ w S fb mb v ts D) (hk : ∀ x, ok x → WideAt.IsKeyLit (kl x)) (hinj : ∀ x y, ok x → ok y → kl x = kl y → x = y) {x : α} (hx : ok x) (hn : x ≠ none_) (hm : x ∉ ts) {w1 W w2 : World} {v' : Value} {p : Nat}
    (ho1 : w1.ownsMap Try.prog T.k (plainElem Try.prog 3) mb (ts.length + 1 + 1) (D.put (kl x) (.lit (.int .i64 (ts.length : Int))))) (hg1 : w.grownBy w1 (some mb)) (hW : w1.grownBy W none) (ho2 : w2.ownsRow 0 T.e T.sz v' (ts.length + 1) (ts.flatMap T.f ++ T.f x)) (hg2 : W.grownBy w2 v.ownBlock) (hl : v'.ownBlock = v.ownBlock ∨ v'.ownBlock = some p) (hp : w.heap.size ≤ p) :
    Fnd T kl ok none_ (w2.setCell ⟨fb, 1, none⟩ v') (fun b => S b ∨ w.heap.size ≤ b) fb mb v' (ts ++ [x]) (D.put (kl x) (.lit (.int .i64 (ts.length : Int)))) ∧ Frm S w (w2.setCell ⟨fb, 1, none⟩ v') ∧ w2.cell? ⟨fb, 1, none⟩ = some v ∧ w2.frozen? ⟨fb, 1, none⟩ = false := by
  have F1 : Frm S w w1 := (Frm.refl S w).grown hg1 fun g e _ => by injection e with e; subst e; exact h.sm
  have F2 : Frm S w W := F1.grown hW fun g e _ => by cases e
  have F3 : Frm S w w2 := F2.grown hg2 fun g e _ => (h.sv g e.symm.symm).1
  have hb1 : Blk w1 fb T.fty #[.map (some mb), v] := h.out.grown hg1 fun e => by injection e with e; exact h.nm e
  have hb2 : Blk w2 fb T.fty #[.map (some mb), v] := (hb1.grown hW (fun e => by cases e)).grown hg2 fun e => (h.sv fb e.symm).2.1 rfl
  have hmb1 : mb < w1.heap.size := ownsMap_lt ho1
  have hmW : W.heap[mb]? = w1.heap[mb]? := hW.block mb hmb1 (fun e => by cases e)
  have hm2 : w2.heap[mb]? = W.heap[mb]? := hg2.block mb (Nat.lt_of_lt_of_le hmb1 hW.size) fun e => (h.sv mb e.symm).2.2 rfl
  have hnew : ∀ g, v'.ownBlock = some g → (S g ∨ w.heap.size ≤ g) ∧ g ≠ fb ∧ g ≠ mb := fun g hg => by
    rcases hl with e | e
    · rw [e] at hg
      exact ⟨.inl (h.sv g hg).1, (h.sv g hg).2⟩
    · rw [e] at hg
      injection hg with hg
      have := h.out.lt
      have := ownsMap_lt h.own
      exact ⟨.inr (by omega), by omega, by omega⟩
  refine ⟨⟨?_, ?_, h.rd.put hk hinj hx hn hm, ?_, .inl h.sf, .inl h.sm, hnew, h.nm⟩, F3.set_ (fun _ => h.sf) _, hb2.cell 1, hb2.frozen 1⟩
  · exact hb2.set_ 1 v'
  · rw [List.length_append]
    exact ownsMap_heap ho1 (by rw [Below.heap_setCell w2 ⟨fb, 1, none⟩ v' mb (fun e => h.nm e.symm), hm2, hmW])
  · rw [List.length_append, List.flatMap_append, show [x].flatMap T.f = T.f x by simp]
    refine ⟨ho2.1, ho2.2.imp id fun ⟨g', cap, cur, e', hbase, hx, h3⟩ => ⟨g', cap, cur, e', hbase, ?_, h3⟩⟩
    exact Blk.far (cs := cur) hx (hnew g' (by rw [e']; rfl)).2.1 v'
end
theorem law_int : Keyed Try.prog 3 := int_keyed Try.underlying3
theorem zero_int (w : World) : (zeroValue 3).run Try.prog w = .ok (.int .i64 0) w := by kernel_rfl
def fdT : FT Int := ⟨108, 3, 3, 1, fun x => [.int .i64 x]⟩
def okI (x : Int) : Prop := (Lit.int .i64 x).wf = true
def klI (x : Int) : Lit := .int .i64 x
theorem klI_key : ∀ x, okI x → WideAt.IsKeyLit (klI x) := fun _ hx => law_int.key (keyOf_int_mk Try.underlying3 hx)
theorem klI_inj : ∀ x y, okI x → okI y → klI x = klI y → x = y := fun x y _ _ h => by unfold klI at h; injection h
/-- What is found of ints. -/
def FdI (w : World) (S : Nat → Prop) (fb : Nat) (none_ : Int) (ts : List Int) : Prop := ∃ mb v D, Fnd fdT klI okI none_ w S fb mb v ts D
set_option maxRecDepth 100000 in
set_option maxHeartbeats 8000000 in
theorem numberI_any {w : World} {S : Nat → Prop} {fb : Nat} {none_ x : Int} {ts : List Int} (h : FdI w S fb none_ ts) (hx : okI x) (hl : ts.length ≤ 1000000000) :
    Calls Try.prog 60 #[.pointer (some ⟨fb, 0, none⟩), .int .i64 x] w fun e w' => e = .returned (.int .i64 (A.numO none_ x ts).1) ∧ FdI w' (fun b => S b ∨ w.heap.size ≤ b) fb none_ (A.numO none_ x ts).2 ∧ Frm S w w' := by
  obtain ⟨mb, v, D, h⟩ := h
  obtain ⟨A1, c1, rfl⟩ := own_form h.row
  have x0 := h.out.cell 0
  have x1 := h.out.cell 1
  have f1 := h.out.frozen 1
  have HF := Lib.hid h
  have hown := h.own
  have hkey := keyOf_int_mk Try.underlying3 hx
  have HH := Lib.hid (h.rd.has x hx)
  have HX := Lib.hid hx
  clear h hx
  go_enter Try.func60, Try.ntmps60
  by_cases hin : x = none_ ∨ x ∈ ts
  · have hh : Maps.has D (.int .i64 x) = true := by have h := HH.out; rw [decide_eq_true hin] at h; exact h
    have HN : Hid (∀ c : Int, D.atKey (.int .i64 x) (.lit (.int .i64 0)) = .lit (.int .i64 c) → A.numO none_ x ts = (c, ts)) := fun c hc => by
      unfold A.numO
      by_cases hxn : x = none_
      · rw [if_pos hxn]
        have := HF.out.rd.non
        rw [← hxn] at this
        have e : (DataW.lit (Lit.int .i64 (-1)) : DataW Unit) = .lit (.int .i64 c) := this.symm.trans hc
        injection e with e
        injection e with _ e
        rw [← e]
      · have hm : x ∈ ts := hin.resolve_left hxn
        rw [if_neg hxn, if_pos hm]
        have := HF.out.rd.at_ _ (A.idx_lt hm)
        rw [A.idx_get hm] at this
        have e : (DataW.lit (Lit.int .i64 (A.idx x ts : Int)) : DataW Unit) = .lit (.int .i64 c) := this.symm.trans hc
        injection e with e
        injection e with _ e
        rw [← e]
    clear hin
    go_wp2_with (at_lookup; refine wpList_lookup_own_ok_int _ rfl _ _ 106 rfl 3 3 .i64 law_int Try.underlying106 Try.underlying3 (zero_int _) mb _ D rfl hown _ _ rfl hkey ?_; intro c hat hwc)
    have HN2 := Lib.hid (HN.out c hat)
    clear hat hwc HN
    go_ret
    rw [HN2.out]
    exact ⟨rfl, ⟨mb, _, D, HF.out.mono fun _ _ h => .inl h⟩, Frm.refl _ _⟩
  · have hh : Maps.has D (.int .i64 x) = false := by have h := HH.out; rw [decide_eq_false hin] at h; exact h
    obtain ⟨hxn, hxm⟩ : x ≠ none_ ∧ x ∉ ts := ⟨fun e => hin (.inl e), fun e => hin (.inr e)⟩
    have HN : Hid (A.numO none_ x ts = ((ts.length : Int), ts ++ [x])) := show _ = _ by unfold A.numO; rw [if_neg hxn, if_neg hxm]
    have HXN := Lib.hid hxn
    have HXM := Lib.hid hxm
    have HNM := Lib.hid HF.out.nm
    obtain ⟨i0, hi0, hz0, hz1, hz2⟩ := info_parts info_int
    clear hin hxn hxm
    go_wp2_with (first | (at_lookup; refine wpList_lookup_own_ok_int _ rfl _ _ 106 rfl 3 3 .i64 law_int Try.underlying106 Try.underlying3 (zero_int _) mb _ D rfl hown _ _ rfl hkey ?_; intro c hat hwc; clear hat hwc) | (at_mapUpdate; refine wpList_mapUpdate_own _ rfl _ _ _ 106 rfl 3 3 law_int Try.underlying106 _ mb _ D rfl hown ?u1 _ _ _ rfl rfl hkey _ [] (plainElem_int Try.underlying3 ?u2) ?_))
    case u1 => unfold maxLen; omega
    case u2 => exact WalkArith.wf_i64 (by omega)
    intro w1 hown1 hgrow1
    have hb1 : Blk w1 fb 108 #[.map (some mb), .slice A1 ts.length c1] := HF.out.out.grown hgrow1 fun e => by injection e with e; exact HNM.out e
    have hr1 : w1.ownsRow 0 3 1 (.slice A1 ts.length c1) ts.length (ts.flatMap fdT.f) := World.ownsRow.kept HF.out.row hgrow1 (by
      cases hv : (Value.slice A1 ts.length c1).ownBlock with
      | none => exact .inl rfl
      | some g => exact .inr fun e => (HF.out.sv g hv).2.2 (by injection e))
    have HO1 := Lib.hid hown1
    have HG1 := Lib.hid hgrow1
    have HR1 := Lib.hid hr1
    have y1 := hb1.cell 1
    have hsz := hgrow1.size
    clear hown1 hgrow1 hb1 hr1 hown x0 x1 f1 hh
    go_wp2_with (at_builtin; refine wpList_append_own_at _ rfl _ _ 35 rfl 0 3 i0 (.int .i64 0) 1 8 Try.underlying35 hi0 hz0 hz1 hz2 rfl (by decide) _ _ _ rfl (HR1.out.alloc _) ⟨w1.heap.size, 0, none⟩ 1 1 [.int .i64 x] rfl rfl ?y1 ?y2 ?y3 ?y4 ?y5 ?_)
    case y1 => exact cell_one_at rfl
    case y2 => simp [Value.oneCell']
    case y3 => unfold maxLen; omega
    case y4 => omega
    case y5 => exact Nat.zero_le _
    intro v' w2 hown2 hgrow2 _ hat
    obtain ⟨A9, c9, rfl⟩ := own_form hown2
    obtain ⟨q1, q2, q3, q4⟩ := HF.out.add klI_key klI_inj HX.out HXN.out HXM.out HO1.out HG1.out (World.grownBy_alloc w1 _ none) hown2 hgrow2 hat (by first | omega | (simp; omega))
    have Q1 := Lib.hid q1
    have Q2 := Lib.hid q2
    clear q1 q2 hown2 hgrow2 hat y1 hsz
    go_wp2_with fail
    go_ret
    rw [HN.out]
    exact ⟨rfl, ⟨mb, _, _, Q1.out⟩, Q2.out⟩
end Go.Proofs.Ytmoniecknimmdaa
end
section
namespace Go.Proofs.Ytmoniecknimmdaa
open Go.RowKit Go.Maps
namespace A
variable {α : Type} [DecidableEq α]
/-- The row of a thing: the numbers of what its letters lead to; none if next is not known there, or more than most things are found. -/
def rowS (nx : α → Int → Option α) (none_ : α) (most : Int) (x : α) : List Nat → List α → List Int → Option (List α × List Int)
  | [], ts, row => some (ts, row)
  | k :: ks, ts, row => match nx x (k : Int) with
    | none => none
    | some y => if most < ((numO none_ y ts).2.length : Int) then none else rowS nx none_ most x ks (numO none_ y ts).2 (row ++ [(numO none_ y ts).1])
def srchO (nx : α → Int → Option α) (none_ : α) (L : Nat) (most : Int) : Nat → Nat → List α → List (List Int) → Option (List α × List (List Int))
  | f, at_, ts, rows => if h : at_ < ts.length then (match f with
    | 0 => none
    | n + 1 => match rowS nx none_ most ts[at_] (List.range L) ts [] with
      | none => none
      | some (ts', row) => srchO nx none_ L most n (at_ + 1) ts' (rows ++ [row])) else some (ts, rows)
/-- What Search finds, where it does not give up: the things, and the rows. -/
def searchO (nx : α → Int → Option α) (f : Nat) (first none_ : α) (L : Nat) (most : Int) : Option (List α × List (List Int)) := srchO nx none_ L most f 0 (numO none_ first []).2 []
end A
/-- The rows found so far: an own row of slices, each with a block of its own, none in S. -/
def RowsOwn (w : World) (base L : Nat) (S : Nat → Prop) (u : Value) (rows : List (List Int)) : Prop := ∃ gs : List Nat, gs.length = rows.length ∧ w.ownsRow base 35 1 u rows.length (gs.map fun g => Value.slice (some ⟨g, 0, none⟩) L L) ∧ (∀ g, u.ownBlock = some g → ¬ S g) ∧ ∀ i (h : i < rows.length) (h' : i < gs.length), Blk w gs[i] 3 (intCs rows[i]) ∧ rows[i].length = L ∧ base ≤ gs[i] ∧ ¬ S gs[i] ∧ u.ownBlock ≠ some gs[i]
theorem RowsOwn.frm {w w' : World} {base L : Nat} {S E S' : Nat → Prop} {u : Value} {rows : List (List Int)} (h : RowsOwn w base L S u rows) (F : Frm E w w') (hE : ∀ b, b < w.heap.size → E b → S b) (hS : ∀ b, b < w.heap.size → S' b → S b) : RowsOwn w' base L S' u rows := by
  obtain ⟨gs, h1, h2, h3, h4⟩ := h
  refine ⟨gs, h1, F.row h2 (fun g hg he => h3 g hg (hE g (World.ownsRow.lt h2 g hg).2 he)) (Nat.le_refl _), fun g hg hs => h3 g hg (hS g (World.ownsRow.lt h2 g hg).2 hs), fun i hi hi' => ?_⟩
  obtain ⟨k1, k2, k3, k4, k5⟩ := h4 i hi hi'
  exact ⟨F.blk k1 fun he => k4 (hE _ k1.lt he), k2, k3, fun hs => k4 (hS _ k1.lt hs), k5⟩
theorem RowsOwn.rows2 {w : World} {base L : Nat} {S : Nat → Prop} {u : Value} {rows : List (List Int)} (h : RowsOwn w base L S u rows) : Rows2 w (fun b => base ≤ b) u rows := by
  obtain ⟨gs, h1, h2, h3, h4⟩ := h
  obtain ⟨A0, c, rfl⟩ := own_form h2
  refine ⟨A0, c, rfl, fun k hk => ?_⟩
  have hk' : k < gs.length := by omega
  obtain ⟨k1, k2, k3, k4, k5⟩ := h4 k hk hk'
  rcases h2.2 with ⟨_, hn⟩ | ⟨g, cap, cur, e, hb, _⟩
  · omega
  · injection e with e1 e2 e3
    subst e1
    have hc := @World.ownsRow.cells _ _ _ _ _ _ _ h2 g rfl k (.slice (some ⟨gs[k], 0, none⟩) L L) (by simp [hk'])
    rw [add_zero_off] at hc
    refine ⟨g, 0, _, rfl, hb, by rw [Nat.zero_add]; exact hc, some ⟨gs[k], 0, none⟩, L, by rw [k2], fun j hj => ⟨gs[k], 0, rfl, k3, ?_⟩⟩
    rw [Nat.zero_add, k1.cell j]
    exact intCs_get hj
theorem RowsOwn.push {w w1 : World} {base L rb m : Nat} {S : Nat → Prop} {u v' : Value} {rows : List (List Int)} {row : List Int} (h : RowsOwn w base L (fun b => S b ∨ b = rb) u rows) (hb : Blk w rb 3 (intCs row)) (hrl : row.length = L) (hrb : base ≤ rb) (hs : ¬ S rb) (F : Frm (fun b => u.ownBlock = some b) w w1) (ho : w1.ownsRow base 35 1 v' (rows.length + 1) ((h.choose.map fun g => Value.slice (some ⟨g, 0, none⟩) L L) ++ [.slice (some ⟨rb, 0, none⟩) L L])) (hl : v'.ownBlock = u.ownBlock ∨ v'.ownBlock = some m) (hm : w.heap.size ≤ m) (hS : ∀ b, S b → b < w.heap.size) : RowsOwn w1 base L S v' (rows ++ [row]) := by
  obtain ⟨h1, h2, h3, h4⟩ := h.choose_spec
  generalize h.choose = gs at *
  have hub : ∀ g, v'.ownBlock = some g → u.ownBlock = some g ∨ g = m := fun g hg => by
    rcases hl with e | e
    · rw [e] at hg; exact .inl hg
    · rw [e] at hg; injection hg with hg; exact .inr hg.symm
  refine ⟨gs ++ [rb], by simp [h1], ?_, fun g hg hsg => ?_, fun i hi hi' => ?_⟩
  · rw [List.length_append, List.map_append]; exact ho
  · rcases hub g hg with e | e
    · exact h3 g e (.inl hsg)
    · have := hS g hsg; omega
  · by_cases hlt : i < rows.length
    · have hlt' : i < gs.length := by omega
      obtain ⟨k1, k2, k3, k4, k5⟩ := h4 i hlt hlt'
      rw [List.getElem_append_left hlt, List.getElem_append_left hlt']
      refine ⟨F.blk k1 (fun e => k5 e), k2, k3, fun hs => k4 (.inl hs), fun e => ?_⟩
      rcases hub _ e with e | e
      · exact k5 e
      · have := k1.lt; omega
    · have e : i = rows.length := by simp at hi; omega
      subst e
      have e2 : (rows ++ [row])[rows.length] = row := by simp
      have e3 : (gs ++ [rb])[rows.length]'(by simp [h1]) = rb := by simp [← h1]
      rw [e2, e3]
      refine ⟨F.blk hb (fun e => h3 rb e (.inr rfl)), hrl, hrb, hs, fun e => ?_⟩
      rcases hub _ e with e | e
      · exact h3 rb e (.inr rfl)
      · have := hb.lt; omega
theorem info_sInt : (Try.prog.info? 35).map (fun i => (i.zero, i.size, i.bytes)) = some (some (.slice none 0 0), 1, 24) := by kernel_rfl
/-- A map literal's entry: as a store. -/
theorem wpList_insert_own {H : Type} {P : Program} (w : World) {ops : Array Oper} {rest : List Oper} {o : Oper} {a : Act} {Q : Exit → Act → World → Prop}
    (hg : o.guard = none) (m x v : Operand) (t : TypeId) (hop : o.op = Op.insert t m x v)
    (k e : TypeId) (K : Keyed P k) (ht : P.underlying t = some (.map k e)) (R : Value → Option (DataW H × List MemPlace)) (b n : Nat) (D : DataW H)
    (hm : a.eval m = .map (some b)) (hown : w.ownsMap P k R b n D) (hn : n < maxLen) (key val : Value) (kl : Lit) (hx : a.eval x = key) (hv : a.eval v = val) (hkey : keyOf P k key = some kl)
    (d : DataW H) (ps : List MemPlace) (hval : R val = some (d, ps))
    (hK : ∀ w', w'.ownsMap P k R b (n + 1) (D.put kl d) → w.grownBy w' (some b) → wpList P ops Q rest (a.put o.dst undef) w') :
    wpList P ops Q (o :: rest) a w := by
  refine wpList_plain hg fun K' hK' => ?_
  obtain ⟨w', hrun, r1, r2⟩ := hown.update K ht hn hkey hval
  unfold Oper.wp
  simp [execOp, hop, hm, hx, hv, hrun, Result.andThen]
  exact hK' _ _ (hK w' r1 r2)
set_option maxRecDepth 100000 in
set_option maxHeartbeats 16000000 in
theorem searchI_any {w : World} {nx : Int → Int → Option Int} {p1 p2 : Value} {f L : Nat} {first none_ most : Int} {ts : List Int} {rows : List (List Int)} (hnx : ∀ (x k y : Int) (W : World), nx x k = some y → Frm (fun _ => False) w W → okI y ∧ Calls Try.prog 45 #[.int .i64 x, .int .i64 k, p1, p2] W fun e w' => e = .returned (.int .i64 y) ∧ Frm (fun _ => False) W w') (hf : okI first) (hn : okI none_) (hL : L ≤ 300) (hfl : f ≤ 100000000) (hmost : most ≤ 1000000) (hs : A.searchO nx f first none_ L most = some (ts, rows)) :
    Calls Try.prog 44 #[.int .i64 first, .int .i64 none_, .int .i64 L, .int .i64 most, .func (.func 45) #[] #[p1, p2]] w fun e w' => ∃ uT uR, e = .returned (.tuple #[uT, uR, .bool true]) ∧ OwnInts w' w.heap.size uT ts ∧ Rows2 w' (fun b => w.heap.size ≤ b) uR rows ∧ Frm (fun _ => False) w w' := by
  have HNX := Lib.hid hnx
  have HS := Lib.hid hs
  have HF := Lib.hid hf
  have HN := Lib.hid hn
  have hmm := @run_makeMap Try.prog
  clear hnx hs hf hn
  go_enter Try.func44, Try.ntmps44
  have hkey0 := keyOf_int_mk Try.underlying3 HN.out
  have hm0 : (w.alloc (.map #[] 0)).ownsMap (H := Unit) Try.prog 3 (plainElem Try.prog 3) w.heap.size 0 (.map []) := World.ownsMap_made _ _ _ _
  go_wp2_with fail
  try go_step3
  go_wp2_with (refine wpList_insert_own _ rfl _ _ _ 106 rfl 3 3 law_int Try.underlying106 _ w.heap.size _ _ rfl hm0 (by decide) _ _ _ rfl rfl hkey0 _ [] (plainElem_int Try.underlying3 (by decide)) ?_; intro w1 hown1 hgrow1)
  have F0 : Frm (fun _ => False) w (w.alloc (.map #[] 0)) := (Frm.refl _ w).alloc _
  have F1 : Frm (fun _ => False) w w1 := F0.grown hgrow1 fun g e hlt => by injection e with e; omega
  have hsz1 := hgrow1.size
  have hs0 : (w.alloc (.map #[] 0)).heap.size = w.heap.size + 1 := by simp
  rw [hs0] at hsz1
  have HFD0 : Hid (FdI (w1.alloc (.cells #[.map (some w.heap.size), .slice none 0 0] 108)) (fun b => w.heap.size ≤ b ∧ b < w1.heap.size + 1) w1.heap.size none_ []) := by
    refine ⟨w.heap.size, _, _, Blk.new w1 _ _, ownsMap_heap hown1 (Below.heap_alloc w1 _ _ (by omega)), Reads.new klI_key klI_inj HN.out, World.ownsRow_nil _ _ _ _, ⟨by omega, by omega⟩, ⟨by omega, by omega⟩, fun g hg => (by cases hg), by omega⟩
  have HF0 : Hid (Frm (fun _ => False) w (w1.alloc (.cells #[.map (some w.heap.size), .slice none 0 0] 108))) := F1.alloc _
  obtain ⟨fb, hfb⟩ : ∃ fb, fb = w1.heap.size := ⟨_, rfl⟩
  have HSZ1 : Hid (w.heap.size ≤ fb) := show _ ≤ _ by omega
  rw [← hfb] at HFD0 ⊢
  clear F0 F1 hsz1 hs0 hown1 hgrow1 hm0 hmm hkey0
  refine (numberI_any HFD0.out HF.out (by simp)).mono ?_
  rintro _ w2 ⟨rfl, q2, f2⟩
  have hF2 : Frm (fun _ => False) w w2 := Frm.mono (E := fun b => w.heap.size ≤ b) ((HF0.out.mono fun _ _ h => h.elim).trans (f2.mono fun b _ h => h.1)) fun b hb h => by omega
  have HF2 := Lib.hid hF2
  have HFD2 : Hid (FdI w2 (fun b => w.heap.size ≤ b ∧ b < w2.heap.size) fb none_ (A.numO none_ first []).2) := by
    obtain ⟨mb, v, D, h⟩ := q2
    exact ⟨mb, v, D, h.mono fun b hb hs => ⟨by rcases hs with hs | hs; exact hs.1; exact Nat.le_trans HF0.out.1 hs, hb⟩⟩
  have HSR : Hid (A.srchO nx none_ L most f 0 (A.numO none_ first []).2 [] = some (ts, rows)) := HS
  have HTL2 : Hid ((A.numO none_ first []).2.length ≤ 1000001) := show _ ≤ _ by unfold A.numO; split <;> simp
  generalize (A.numO none_ first []).1 = n1 at *
  generalize (A.numO none_ first []).2 = ts1 at *
  clear q2 f2 hF2 HS HF0 HFD0 hfb
  go_wp2_with fail
  try go_step3
  go_wp2_with fail
  obtain ⟨S0, hS0⟩ : ∃ S0 : Nat → Prop, S0 = fun b => w.heap.size ≤ b ∧ b < w2.heap.size := ⟨_, rfl⟩
  rw [← hS0] at HFD2
  have HSS0 : Hid (∀ b, S0 b → w.heap.size ≤ b ∧ b < w2.heap.size) := by rw [hS0]; exact fun b h => h
  have HRW0 : Hid (RowsOwn w2 w.heap.size L S0 (.slice none 0 0) []) := ⟨[], rfl, World.ownsRow_nil _ _ _ _, fun g hg => (by cases hg), fun i hi => by simp at hi⟩
  clear hS0
  go_loopg [14, 15] f (fun n u i wr => ∃ (at_ : Nat) (tk : List Int) (rk : List (List Int)) (Sk : Nat → Prop), i = .int .i64 (at_ : Int) ∧ at_ + n ≤ f ∧ rk.length = at_ ∧ Hid (at_ ≤ tk.length) ∧ Hid (tk.length ≤ 1000001) ∧ Hid (A.srchO nx none_ L most n at_ tk rk = some (ts, rows)) ∧ Hid (FdI wr Sk fb none_ tk) ∧ Hid (RowsOwn wr w.heap.size L Sk u rk) ∧ Hid (∀ b, Sk b → w.heap.size ≤ b ∧ b < wr.heap.size) ∧ Hid (Frm (fun _ => False) w wr))
  case atStart => exact ⟨0, ts1, [], S0, rfl, by omega, rfl, Nat.zero_le _, HTL2, HSR, HFD2, HRW0, HSS0, HF2⟩
  case round =>
    clear HTL2 HSR HFD2 HRW0 HSS0 HF2
    obtain ⟨at_, tk, rk, Sk, rfl, hat, hrk, HLE, HTL, HSR, HFD, HRW, HSS, HF⟩ := hrel
    obtain ⟨mb, vT, D, hFd⟩ := HFD.out
    obtain ⟨AT, cT, rfl⟩ := own_form hFd.row
    have x1 := hFd.out.cell 1
    have hrow := hFd.row
    have hsr := HSR.out
    unfold A.srchO at hsr
    by_cases hlt : at_ < tk.length
    · rw [dif_pos hlt] at hsr
      have hlt' : (at_ : Int) < (tk.length : Int) := by omega
      cases gk with
      | zero => cases hsr
      | succ n =>
      dsimp only at hsr
      cases hrs : A.rowS nx none_ most (tk[at_]'hlt) (List.range L) tk [] with
      | none => rw [hrs] at hsr; cases hsr
      | some rr =>
      obtain ⟨ts2, row⟩ := rr
      rw [hrs] at hsr
      dsimp only at hsr
      have HS2 := Lib.hid hsr
      obtain ⟨x, hx⟩ : ∃ x, x = tk[at_]'hlt := ⟨_, rfl⟩
      rw [← hx] at hrs
      have HRS : Hid (A.rowS nx none_ most x ((List.range L).drop 0) tk [] = some (ts2, row)) := hrs
      have HXA : Hid (tk[at_]? = some x) := by rw [hx]; exact List.getElem?_eq_getElem hlt
      have hmk := run_make_row' (P := Try.prog) 35 3 (.int .i64 0) 8 Try.underlying35 info_int rfl .i64 .i64 L (by omega) (by omega)
      clear hsr hrs hx hFd hrow HSR
      go_wp2_with fail
      have HXT := Lib.hid hlt
      obtain ⟨rb, hrb⟩ : ∃ rb, rb = wr.heap.size := ⟨_, rfl⟩
      have HB0 : Hid (Blk (wr.alloc (.cells (madeCells #[.int .i64 0] L) 3)) rb 3 (intCs ([] ++ List.replicate (L - 0) 0))) := by
        rw [List.nil_append, Nat.sub_zero, ← intCs_made, hrb]; exact Blk.new wr _ _
      have HFD0 : Hid (FdI (wr.alloc (.cells (madeCells #[.int .i64 0] L) 3)) Sk fb none_ tk) := by
        obtain ⟨a1, a2, a3, a4⟩ := HFD.out
        exact ⟨a1, a2, a3, a4.frm ((Frm.refl (fun _ => False) wr).alloc _) fun _ _ _ h => h⟩
      have HRW0 : Hid (RowsOwn (wr.alloc (.cells (madeCells #[.int .i64 0] L) 3)) w.heap.size L (fun b => Sk b ∨ b = rb) u14 rk) := HRW.out.frm ((Frm.refl (fun _ => False) wr).alloc _) (fun _ _ h => h.elim) fun b hb h => by
        rcases h with h | h
        · exact h
        · omega
      have HSS0 : Hid (∀ b, Sk b → w.heap.size ≤ b ∧ b < (wr.alloc (.cells (madeCells #[.int .i64 0] L) 3)).heap.size) := fun b h => by
        have := HSS.out b h
        simp; omega
      have HNS : Hid (¬ Sk rb) := fun h => by have := HSS.out rb h; omega
      have HRB : Hid (w.heap.size ≤ rb) := show _ ≤ _ by rw [hrb]; exact HF.out.1
      have HF0 : Hid (Frm (fun _ => False) w (wr.alloc (.cells (madeCells #[.int .i64 0] L) 3))) := HF.out.alloc _
      have HUB : Hid (u14.ownBlock ≠ some rb) := fun e => by
        obtain ⟨gs, h1, h2, _⟩ := HRW.out
        have := (World.ownsRow.lt h2 rb e).2
        omega
      rw [← hrb]
      clear hrb HFD HRW HSS HF hmk x1
      generalize (wr.alloc (.cells (madeCells #[.int .i64 0] L) 3)) = wo at *
      clear wr
      go_loopg [38] L (fun n u wr => ∃ (j : Nat) (tj : List Int) (rj : List Int) (Sj : Nat → Prop), u = .int .i64 (j : Int) ∧ j + n = L ∧ Hid (rj.length = j) ∧ Hid (tj.length ≤ 1000001) ∧ Hid (A.rowS nx none_ most x ((List.range L).drop j) tj rj = some (ts2, row)) ∧ Hid (tj[at_]? = some x) ∧ Hid (Blk wr rb 3 (intCs (rj ++ List.replicate (L - j) 0))) ∧ Hid (FdI wr Sj fb none_ tj) ∧ Hid (RowsOwn wr w.heap.size L (fun b => Sj b ∨ b = rb) u14 rk) ∧ Hid (∀ b, Sj b → w.heap.size ≤ b ∧ b < wr.heap.size) ∧ Hid (¬ Sj rb) ∧ Hid (Frm (fun _ => False) w wr))
      case atStart => exact ⟨0, tk, [], Sk, rfl, by omega, rfl, HTL, HRS, HXA, HB0, HFD0, HRW0, HSS0, HNS, HF0⟩
      case round =>
        clear HTL HRS HXA HB0 HFD0 HRW0 HSS0 HNS HF0
        obtain ⟨j, tj, rj, Sj, rfl, hjn, HJL, HTL, HRS, HXA, HB, HFD, HRW, HSS, HNS, HF⟩ := hrel
        obtain ⟨mb2, vT2, D2, hFd⟩ := HFD.out
        obtain ⟨A2, c2, rfl⟩ := own_form hFd.row
        by_cases hj : j < L
        · have hj' : (j : Int) < (L : Int) := by omega
          have hlt2 : at_ < tj.length := by
            obtain ⟨h, _⟩ := List.getElem?_eq_some_iff.1 HXA.out
            exact h
          have hlt3 : (at_ : Int) < (tj.length : Int) := by omega
          have x1 := hFd.out.cell 1
          obtain ⟨g, hA2, hc⟩ : ∃ g, A2 = some ⟨g, 0, none⟩ ∧ wr.cell? ⟨g, at_, none⟩ = some (.int .i64 x) := by
            rcases hFd.row.2 with ⟨_, hn⟩ | ⟨g, cap, cur, e, hb, _⟩
            · exact absurd hn (by omega)
            · injection e with e1 e2 e3
              subst e1
              refine ⟨g, rfl, ?_⟩
              have hc := @World.ownsRow.cells _ _ _ _ _ _ _ hFd.row g rfl at_ (.int .i64 x) (by simp [fdT, ← List.map_eq_flatMap, HXA.out])
              rw [add_zero_off] at hc
              exact hc
          subst hA2
          have hd : (List.range L).drop j = j :: (List.range L).drop (j + 1) := by
            rw [List.drop_eq_getElem_cons (by simp; omega)]; simp
          have hrs := HRS.out
          rw [hd] at hrs
          unfold A.rowS at hrs
          cases hy : nx x (j : Int) with
          | none => rw [hy] at hrs; cases hrs
          | some y =>
          rw [hy] at hrs
          dsimp only at hrs
          by_cases hmo : most < ((A.numO none_ y tj).2.length : Int)
          · rw [if_pos hmo] at hrs; cases hrs
          rw [if_neg hmo] at hrs
          have HR2 := Lib.hid hrs
          obtain ⟨hoky, hcall⟩ := HNX.out x j y wr hy HF.out
          have HY := Lib.hid hoky
          have HC := Lib.hid hcall
          have HD := Lib.hid hd
          have HM := Lib.hid hmo
          clear hd hrs hoky hcall hmo HRS
          have cb := HB.out.cell j
          go_wp2_with fail
          refine HC.out.mono ?_
          rintro _ w3 ⟨rfl, f3⟩
          have HF3 : Hid (Frm (fun _ => False) w w3) := HF.out.trans f3
          have HFD3 : Hid (FdI w3 Sj fb none_ tj) := ⟨mb2, _, D2, hFd.frm f3 fun _ _ _ h => h⟩
          have HB3 : Hid (Blk w3 rb 3 (intCs (rj ++ List.replicate (L - j) 0))) := f3.blk HB.out id
          have HRW3 : Hid (RowsOwn w3 w.heap.size L (fun b => Sj b ∨ b = rb) u14 rk) := HRW.out.frm f3 (fun _ _ h => h.elim) fun _ _ h => h
          have HSS3 : Hid (∀ b, Sj b → w.heap.size ≤ b ∧ b < w3.heap.size) := fun b h => ⟨(HSS.out b h).1, Nat.lt_of_lt_of_le (HSS.out b h).2 f3.1⟩
          have HRB3 : Hid (rb < w3.heap.size) := HB3.out.lt
          clear f3 HF HFD HB HRW HSS HC hFd x1 cb hc
          go_wp2_with fail
          refine (numberI_any HFD3.out HY.out (by have := HTL.out; omega)).mono ?_
          rintro _ w4 ⟨rfl, q4, f4⟩
          have HF4 : Hid (Frm (fun _ => False) w w4) := Frm.mono (E := fun b => w.heap.size ≤ b) ((HF3.out.mono fun _ _ h => h.elim).trans (f4.mono fun b _ h => (HSS3.out b h).1)) fun b hb h => by omega
          have HB4 : Hid (Blk w4 rb 3 (intCs (rj ++ List.replicate (L - j) 0))) := f4.blk HB3.out HNS.out
          have HFD4 : Hid (FdI w4 (fun b => Sj b ∨ w3.heap.size ≤ b) fb none_ (A.numO none_ y tj).2) := q4
          have HRW4 : Hid (RowsOwn w4 w.heap.size L (fun b => (Sj b ∨ w3.heap.size ≤ b) ∨ b = rb) u14 rk) := HRW3.out.frm f4 (fun _ _ h => .inl h) fun b hb h => by
            rcases h with (h | h) | h
            · exact .inl h
            · omega
            · exact .inr h
          have HTL4 : Hid ((A.numO none_ y tj).2.length ≤ 1000001) := show _ ≤ _ by have := HM.out; omega
          have HXA4 : Hid ((A.numO none_ y tj).2[at_]? = some x) := show _ = _ by
            have h1 := HXA.out
            unfold A.numO
            split
            · exact h1
            · split
              · exact h1
              · rw [List.getElem?_append_left hlt2]; exact h1
          generalize (A.numO none_ y tj).1 = n2 at *
          generalize (A.numO none_ y tj).2 = t2 at *
          clear f4 q4 HF3 HFD3 HB3 HRW3 HTL HXA hlt3
          have cb := HB4.out.cell j
          have fb4 := HB4.out.frozen j
          have HIJ : (intCs (rj ++ List.replicate (L - j) 0))[j]? = some (.int .i64 0) := by
            have hl := HJL.out
            rw [intCs_getD (by simp; omega)]
            simp [List.getD, hl, List.getElem?_append, List.getElem?_replicate]
            rw [if_pos (by omega)]; rfl
          rw [HIJ] at cb
          clear HIJ
          have HNS4 : Hid (¬ (Sj rb ∨ w3.heap.size ≤ rb)) := fun h => by
            have := HRB3.out
            rcases h with h | h
            · exact HNS.out h
            · omega
          obtain ⟨mb4, v4, D4, hF4⟩ := HFD4.out
          obtain ⟨A4, c4, rfl⟩ := own_form hF4.row
          have hne : fb ≠ rb := fun e => HNS4.out (e ▸ hF4.sf)
          have x4 := (hF4.out.far (p := ⟨rb, j, none⟩) hne (.int .i64 n2)).cell 1
          have HF5 : Hid (Frm (fun _ => False) w (w4.setCell ⟨rb, j, none⟩ (.int .i64 n2))) := HF4.out.set_ (p := ⟨rb, j, none⟩) (fun h => by have := HRB.out; simp at h; omega) _
          have f5 : Frm (fun b => b = rb) w4 (w4.setCell ⟨rb, j, none⟩ (.int .i64 n2)) := (Frm.refl (fun b => b = rb) w4).set_ (p := ⟨rb, j, none⟩) (fun _ => rfl) _
          have HFD5 : Hid (FdI (w4.setCell ⟨rb, j, none⟩ (.int .i64 n2)) (fun b => (Sj b ∨ w3.heap.size ≤ b) ∧ b < w4.heap.size) fb none_ t2) := ⟨mb4, _, D4, (hF4.mono (S' := fun b => (Sj b ∨ w3.heap.size ≤ b) ∧ b < w4.heap.size) fun b hb h => ⟨h, hb⟩).frm f5 fun b _ h e => HNS4.out (e ▸ h.1)⟩
          have HRW5 : Hid (RowsOwn (w4.setCell ⟨rb, j, none⟩ (.int .i64 n2)) w.heap.size L (fun b => ((Sj b ∨ w3.heap.size ≤ b) ∧ b < w4.heap.size) ∨ b = rb) u14 rk) := HRW4.out.frm f5 (fun _ _ h => .inr h) fun b _ h => h.imp (·.1) id
          have HB5 : Hid (Blk (w4.setCell ⟨rb, j, none⟩ (.int .i64 n2)) rb 3 (intCs ((rj ++ [n2]) ++ List.replicate (L - (j + 1)) 0))) := show Blk _ _ _ _ by
            have := HB4.out.set_ j (.int .i64 n2)
            rw [intCs_set] at this
            have e : (rj ++ List.replicate (L - j) 0).set j n2 = (rj ++ [n2]) ++ List.replicate (L - (j + 1)) 0 := by
              have hl := HJL.out
              rw [List.set_append, if_neg (by omega), hl, Nat.sub_self, show L - j = (L - (j + 1)) + 1 by omega, List.replicate_succ]
              simp
            rw [e] at this
            exact this
          have HS5 : Hid ((w4.setCell ⟨rb, j, none⟩ (.int .i64 n2)).heap.size = w4.heap.size) := show _ = _ by simp [World.setCell]
          have hmo : ¬ most < (t2.length : Int) := by have := HM.out; omega
          have HW3 : Hid (w.heap.size ≤ w3.heap.size) := show _ ≤ _ by have := HRB3.out; have := HRB.out; omega
          clear HF4 HFD4 HRW4 HB4 hF4 f5
          cases gk with
          | zero => omega
          | succ m =>
          go_wp2_with fail
          go_roundg m
          refine ⟨j + 1, t2, rj ++ [n2], _, rfl, by omega, (show _ = _ by simp [HJL.out]), HTL4, HR2, HXA4, HB5, HFD5, HRW5, ?_, ?_, HF5⟩
          · refine fun b h => ?_
            have := HS5.out
            have := HW3.out
            rcases h with ⟨h | h, h2⟩
            · have := HSS3.out b h; omega
            · omega
          · exact fun h => HNS4.out h.1
          all_goals omega
        · have e : L = j := by omega
          subst e
          have hrs := HRS.out
          rw [show (List.range L).drop L = [] by simp] at hrs
          obtain ⟨e1, e2⟩ : ts2 = tj ∧ row = rj := by
            unfold A.rowS at hrs
            injection hrs with hrs
            exact ⟨(congrArg Prod.fst hrs).symm, (congrArg Prod.snd hrs).symm⟩
          subst e1 e2
          have HRN : Hid (row.length = L) := HJL
          have HBB : Hid (Blk wr rb 3 (intCs row)) := show Blk _ _ _ _ by have := HB.out; rw [Nat.sub_self] at this; simpa using this
          clear HB hrs HRS
          obtain ⟨A14, c14, rfl⟩ := own_form HRW.out.choose_spec.2.1
          obtain ⟨gs, hgs⟩ : ∃ gs, gs = HRW.out.choose := ⟨_, rfl⟩
          have HO := Lib.hid HRW.out.choose_spec.2.1
          rw [← hgs] at HO
          have HGS := Lib.hid hgs
          clear hgs
          have HRK : Hid (rk.length + 1 ≤ 100000000) := show _ ≤ _ by omega
          have HKL := Lib.hid hrk
          clear hrk
          obtain ⟨i0, hi0, hz0, hz1, hz2⟩ := info_parts info_sInt
          go_wp2_with (at_builtin; refine wpList_append_own_at _ rfl _ _ 22 rfl w.heap.size 35 i0 (.slice none 0 0) 1 24 Try.underlying22 hi0 hz0 hz1 hz2 rfl (by decide) _ _ _ rfl (HO.out.alloc _) ⟨wr.heap.size, 0, none⟩ 1 1 [.slice (some ⟨rb, 0, none⟩) L L] rfl rfl (cell_one_at rfl) (by simp [Value.oneCell']) (by have := HRK.out; unfold maxLen; omega) (by have := HRK.out; omega) (by have := HF.out.1; simp; omega) ?_)
          intro v' w4 hown1 hgrow _ hat4
          have f4 : Frm (fun b => (Value.slice A14 rk.length c14).ownBlock = some b) wr w4 := ((Frm.refl _ wr).alloc _).grown hgrow fun g hg _ => hg
          have HR4 : Hid (RowsOwn w4 w.heap.size L Sj v' (rk ++ [row])) := HRW.out.push HBB.out HRN.out HRB.out HNS.out f4 (HGS.out ▸ hown1) hat4 (by simp) fun b hb => (HSS.out b hb).2
          have HFD4 : Hid (FdI w4 Sj fb none_ ts2) := ⟨mb2, _, D2, hFd.frm f4 fun b _ hs e => by
            obtain ⟨gs, _, _, h3, _⟩ := HRW.out
            exact h3 b e (.inl hs)⟩
          have HSS4 : Hid (∀ b, Sj b → w.heap.size ≤ b ∧ b < w4.heap.size) := fun b hb => ⟨(HSS.out b hb).1, Nat.lt_of_lt_of_le (HSS.out b hb).2 f4.1⟩
          have HF4 : Hid (Frm (fun _ => False) w w4) := Frm.mono (E := fun b => w.heap.size ≤ b) ((HF.out.mono fun _ _ h => h.elim).trans (f4.mono fun b _ h => (World.ownsRow.lt HO.out b h).1)) fun b hb h => by omega
          obtain ⟨A5, c5, rfl⟩ := own_form hown1
          clear f4 hown1 hgrow hat4 hi0 hz0 hz1 hz2 HO hFd HGS HRW HFD
          have HLE4 : Hid (at_ + 1 ≤ ts2.length) := (List.getElem?_eq_some_iff.1 HXA.out).1
          go_wp2_with fail
          go_roundg n
          refine ⟨at_ + 1, ts2, rk ++ [row], Sj, by go_num, by omega, by simp [HKL.out], HLE4, HTL, HS2, HFD4, ?_, HSS4, HF4⟩
          all_goals (first | omega | exact HR4 | skip)
    · rw [dif_neg hlt] at hsr
      injection hsr with hsr
      obtain ⟨e1, e2⟩ : ts = tk ∧ rows = rk := ⟨(congrArg Prod.fst hsr).symm, (congrArg Prod.snd hsr).symm⟩
      subst e1 e2
      have hlt' : ¬ (at_ : Int) < (ts.length : Int) := by omega
      have hrl : rows.length = ts.length := by have := HLE.out; omega
      have hal : at_ = ts.length := by have := HLE.out; omega
      have HR := HRW.out
      obtain ⟨A14, c14, rfl⟩ := own_form HR.choose_spec.2.1
      have HRR : Hid (RowsOwn wr w.heap.size L Sk (.slice A14 ts.length c14) rows) := by rw [← hrl]; exact HRW.out
      rw [hrl]
      have HFF := Lib.hid hFd
      clear HR HRW hsr hrow hFd hrk hrl HSR
      subst hal
      go_wp2_with fail
      clear hlt hlt' hat HLE HFD HNX
      go_quiet (fail)
      go_wp2
      try rw [Exit.noGoto_ret]
      refine bodyPost_ret (v := .tuple #[.slice AT ts.length cT, .slice A14 ts.length c14, .bool true]) (by simp [results, Try.results44, go_sem]) rfl ?_
      refine ⟨_, _, rfl, ?_, HRR.out.rows2, HF.out⟩
      have h := HFF.out.row
      refine ⟨by simp, ?_⟩
      rcases h.2 with h2 | ⟨g, cap, cur, e, _, h3, h4, h5, h6, h7⟩
      · exact .inl h2
      · refine .inr ⟨g, cap, cur, e, ?_, h3, h4, h5, h6, ?_⟩
        · have := (HFF.out.sv g (by rw [e]; rfl)).1
          exact (HSS.out g this).1
        · refine Eq.trans h7 ?_; simp [fdT, ← List.map_eq_flatMap]
end Go.Proofs.Ytmoniecknimmdaa
end
section
namespace Go.Proofs.Ytmoniecknimmdaa
open Go.RowKit
def srT : GT := ⟨35, 3, 1⟩
def inC (x : Int) : List Value := [.int .i64 x]
/-- The sources in memory. -/
def Srcs (w : World) (S : Nat → Prop) (ob : Nat) (acc : List (List Int)) : Prop := Rws srT inC w S ob acc
theorem cfOf_inC (acc : List (List Int)) (q : Nat) : cfOf inC acc q = (acc.getD q []).map (Value.int .i64) := by
  unfold cfOf inC
  induction acc.getD q [] with
  | nil => rfl
  | cons a l ih => rw [List.flatMap_cons, ih]; rfl
theorem grown_weak {w w' : World} {row : Option Nat} (h : w.grownBy w' none) : w.grownBy w' row := ⟨h.os, h.tape, h.output, h.size, fun k hk _ => h.block k hk (fun e => by cases e)⟩
theorem Grp.app {α : Type} {T : GT} {f : α → List Value} {w W w1 : World} {S : Nat → Prop} {ob : Nat} {vf : Nat → Value} {acc : List (List α)} (h : Grp T w S ob acc.length vf (lnOf acc) (cfOf f acc)) {q : Nat} (hq : q < acc.length) (x : α) {A0 : Option Addr} {n c : Nat} {v' : Value} (e : vf q = .slice A0 n c) (hW : w.grownBy W none) (hg : W.grownBy w1 (Value.slice A0 n c).ownBlock) (ho : w1.ownsRow 0 T.e T.sz v' (n + 1) (cfOf f acc q ++ f x)) (hl : v'.ownBlock = (Value.slice A0 n c).ownBlock ∨ ∀ g, v'.ownBlock = some g → w.heap.size ≤ g) :
    Rws T f (w1.setCell ⟨ob, q, none⟩ v') (fun b => S b ∨ w.heap.size ≤ b) ob (acc.set q (acc.getD q [] ++ [x])) ∧ Frm S w (w1.setCell ⟨ob, q, none⟩ v') ∧ w1.cell? ⟨ob, q, none⟩ = some (.slice A0 n c) ∧ w1.frozen? ⟨ob, q, none⟩ = false := by
  obtain ⟨A1, c', e', _⟩ := h.slot hq
  have hn : n = lnOf acc q := by rw [e'] at e; injection e with _ e2 _; exact e2.symm
  subst hn
  have hall : w.grownBy w1 (vf q).ownBlock := by rw [e]; exact (grown_weak hW).trans hg
  have hb : Blk w1 ob T.oty (cellsOf acc.length vf) := h.out.grown hall fun e2 => (h.lie q hq ob e2.symm).2 rfl
  refine ⟨h.add hq x hall ho (by rw [e]; exact hl), h.put_frm hq hall, ?_, hb.frozen q⟩
  rw [hb.cell q, cellsOf_get vf hq, e]
namespace A
abbrev Gs := List (List Int) × List Int
def gath1 (a : Ar) (s : Gs) : Option Gs :=
  if 0 ≤ a.2 ∧ a.2 < s.1.length ∧ (s.1.getD a.2.toNat []).length ≤ big ∧ s.2.length ≤ big then
    some (s.1.set a.2.toNat (s.1.getD a.2.toNat [] ++ [a.1]), if (s.1.getD a.2.toNat []).length = 0 then s.2 ++ [a.2] else s.2) else none
def gathW : List Ar → Gs → Option Gs
  | [], s => some s
  | a :: l, s => match gath1 a s with
    | none => none
    | some s' => gathW l s'
def gathS (acc : List (List Ar)) : List Int → Gs → Option Gs
  | [], s => some s
  | x :: l, s => if 0 ≤ x ∧ x < acc.length ∧ (acc.getD x.toNat []).length ≤ big then (match gathW (acc.getD x.toNat []) s with
    | none => none
    | some s' => gathS acc l s') else none
end A
/-- What the append to a source and the store behind it come to. -/
theorem gath_facts {V : World} {Sk : Nat → Prop} {ob wb t : Nat} {vf : Nat → Value} {sk : List (List Int)} {row : List Int} {A9 : Option Addr} {c9 : Nat} {a1 : Int} (h : Grp srT V Sk ob sk.length vf (lnOf sk) (cfOf inC sk)) (ht : t < sk.length) (e9 : vf t = .slice A9 row.length c9) (hrow : row = sk.getD t []) (hb : Blk V wb 101 #[.int .i64 a1, .int .i64 (t : Int)]) (hwb : ¬ Sk wb) :
    ∀ W : World, W = (V.alloc (.cells #[.int .i64 a1] 3)).drew → W.ownsRow 0 3 1 (.slice A9 row.length c9) row.length (row.map (Value.int .i64)) ∧ (∀ (j : Nat) (u : Value), [Value.int .i64 a1][j]? = some u → W.cell? ((⟨V.heap.size, 0, none⟩ : Addr).add j) = some u) ∧ W.heap.size = V.heap.size + 1 ∧ ∀ g' cap' w1, w1.ownsRow 0 3 1 (.slice (some ⟨g', 0, none⟩) (row.length + 1) cap') (row.length + 1) (row.map (Value.int .i64) ++ [.int .i64 a1]) → W.grownBy w1 (Value.slice A9 row.length c9).ownBlock → ((Value.slice A9 row.length c9).ownBlock = some g' ∨ g' = V.heap.size + 1) → Srcs (w1.setCell ⟨ob, t, none⟩ (.slice (some ⟨g', 0, none⟩) (row.length + 1) cap')) (fun b => Sk b ∨ V.heap.size ≤ b) ob (sk.set t (row ++ [a1])) ∧ Frm Sk V (w1.setCell ⟨ob, t, none⟩ (.slice (some ⟨g', 0, none⟩) (row.length + 1) cap')) ∧ w1.cell? ⟨ob, t, none⟩ = some (.slice A9 row.length c9) ∧ w1.frozen? ⟨ob, t, none⟩ = false ∧ w1.cell? ⟨wb, 0, none⟩ = some (.int .i64 a1) ∧ w1.cell? ⟨wb, 1, none⟩ = some (.int .i64 (t : Int)) := by
  intro W hW
  subst hW
  have how := h.own t ht
  have hln : lnOf sk t = (sk.getD t []).length := rfl
  rw [e9, cfOf_inC, hln, ← hrow] at how
  refine ⟨how.alloc _, cell_one_at rfl, by simp [World.drew], fun g' cap' w1 h1 h2 h3 => ?_⟩
  have hg0 : V.grownBy (V.alloc (.cells #[.int .i64 a1] 3)) none := World.grownBy_alloc _ _ _
  have := h.app ht a1 e9 (W := (V.alloc (.cells #[.int .i64 a1] 3)).drew) (w1 := w1) (v' := .slice (some ⟨g', 0, none⟩) (row.length + 1) cap') ⟨hg0.os, hg0.tape, hg0.output, hg0.size, hg0.block⟩ h2 (by rw [cfOf_inC, ← hrow]; exact h1) (by
    rcases h3 with h3 | h3
    · exact .inl h3.symm
    · exact .inr fun g hg => by simp only [Value.ownBlock, Option.some.injEq] at hg; omega)
  rw [← hrow] at this
  have hne : ∀ g, (Value.slice A9 row.length c9).ownBlock = some g → Sk g := fun g hg => (h.lie t ht g (by rw [e9]; exact hg)).1
  have hbw : Blk w1 wb 101 #[.int .i64 a1, .int .i64 (t : Int)] := Blk.grown (w := (V.alloc (.cells #[.int .i64 a1] 3)).drew) (hb.alloc _) h2 fun e => hwb (hne _ e.symm)
  exact ⟨this.1, this.2.1, this.2.2.1, this.2.2.2, hbw.cell 0, hbw.cell 1⟩
set_option maxRecDepth 100000 in
set_option maxHeartbeats 16000000 in
theorem gather_any {w : World} {Sa S Q : Nat → Prop} {oa ob : Nat} {v : Value} {ws ls : List Int} {acc : List (List A.Ar)} {srcs srcs' : List (List Int)} (ha : Ars w Sa oa acc) (hs : Srcs w S ob srcs) (hw : Ints w Q v ws) (hQ : ∀ b, Q b → ¬ S b) (hSa : ∀ b, Sa b → ¬ S b) (hg : A.gathS acc ws (srcs, []) = some (srcs', ls)) (hl : ws.length ≤ 1000000000) :
    Calls Try.prog 58 #[v, .slice (some ⟨oa, 0, none⟩) acc.length acc.length, .slice (some ⟨ob, 0, none⟩) srcs.length srcs.length] w fun r w' => ∃ u S', r = .returned u ∧ OwnInts w' w.heap.size u ls ∧ Srcs w' S' ob srcs' ∧ (∀ b, S' b → S b ∨ w.heap.size ≤ b) ∧ (∀ g, u.ownBlock = some g → ¬ S' g) ∧ srcs'.length = srcs.length ∧ Frm S w w' := by
  obtain ⟨A0, c0, rfl, hw⟩ := hw
  obtain ⟨N, hN⟩ : ∃ N, N = srcs.length := ⟨_, rfl⟩
  obtain ⟨M, hM⟩ : ∃ M, M = acc.length := ⟨_, rfl⟩
  rw [← hN, ← hM]
  have HN := Lib.hid hN.symm
  have HM := Lib.hid hM
  have HW := Lib.hid hw
  have HA := Lib.hid ha
  have HS : Hid (Srcs w (fun b => S b ∧ b < w.heap.size) ob srcs) := hs.mono fun b hb h => ⟨h, hb⟩
  obtain ⟨S0, hS0⟩ : ∃ S0 : Nat → Prop, S0 = fun b => S b ∧ b < w.heap.size := ⟨_, rfl⟩
  have HSS : Hid (∀ b, S0 b → (S b ∨ w.heap.size ≤ b) ∧ b < w.heap.size) := by rw [hS0]; exact fun b h => ⟨.inl h.1, h.2⟩
  rw [← hS0] at HS
  have HG : Hid (A.gathS acc (ws.drop 0) (srcs, []) = some (srcs', ls)) := hg
  obtain ⟨i0, hi0, hz0, hz1, hz2⟩ := info_parts info_int
  have HQ := Lib.hid hQ
  have HSA := Lib.hid hSa
  clear hw ha hs hQ hSa hg hN hM hS0
  go_enter Try.func58, Try.ntmps58
  go_wp2_with fail
  go_loopg [7, 14] (ws.length + 1) (fun n u i wr => ∃ (k : Nat) (sk : List (List Int)) (lk : List Int) (Sk : Nat → Prop), k ≤ ws.length ∧ n = ws.length + 1 - k ∧ i = .int .i64 (k : Int) ∧ Hid (sk.length = N) ∧ Hid (A.gathS acc (ws.drop k) (sk, lk) = some (srcs', ls)) ∧ Hid (OwnInts wr w.heap.size u lk) ∧ Hid (∀ g, u.ownBlock = some g → ¬ Sk g) ∧ Hid (Srcs wr Sk ob sk) ∧ Hid (∀ b, Sk b → (S b ∨ w.heap.size ≤ b) ∧ b < wr.heap.size) ∧ Hid (Frm S w wr))
  case atStart => exact ⟨0, srcs, [], S0, Nat.zero_le _, rfl, rfl, HN, HG, World.ownsRow_nil _ _ _ _, fun g h => (by cases h), HS, HSS, Frm.refl _ _⟩
  case round =>
    clear HG HS HSS HN
    obtain ⟨k, sk, lk, Sk, hk, rfl, rfl, HN, HG, HO, HNO, HS, HSS, HF⟩ := hrel
    obtain ⟨A7, c7, rfl⟩ := own_form HO.out
    by_cases hlt : k < ws.length
    · have hlt' : (k : Int) < (ws.length : Int) := by omega
      obtain ⟨g, o, rfl, hq, hc⟩ := HW.out k hlt
      have c1 := HF.out.cell (HQ.out g hq) hc
      have hg := HG.out
      rw [List.drop_eq_getElem_cons hlt] at hg
      unfold A.gathS at hg
      generalize ws[k]'hlt = x at *
      split at hg
      case isFalse => cases hg
      rename_i hx
      obtain ⟨hx0, hx1, hx2⟩ := hx
      obtain ⟨q, rfl⟩ : ∃ q : Nat, x = (q : Int) := ⟨x.toNat, by omega⟩
      rw [Int.toNat_natCast] at hg hx2
      have hq1 : q < acc.length := by omega
      have hq2 : (q : Int) < (M : Int) := by rw [HM.out]; omega
      obtain ⟨vf, hA⟩ := HA.out
      obtain ⟨A8, c8, e8, o8, f8, n8, _⟩ := hA.slot hq1
      have HGC : Hid (∀ j (hj : j < (acc.getD q []).length), ∃ g, A8 = some ⟨g, 0, none⟩ ∧ ¬ S g ∧ w.cell? ⟨g, j * 2, none⟩ = some (.int .i64 ((acc.getD q [])[j]'hj).1) ∧ w.cell? ⟨g, j * 2 + 1, none⟩ = some (.int .i64 ((acc.getD q [])[j]'hj).2)) := fun j hj => by
        obtain ⟨g, rfl⟩ := n8 (Nat.lt_of_le_of_lt (Nat.zero_le _) hj)
        obtain ⟨h1, h2⟩ := arC_get hj
        exact ⟨g, rfl, HSA.out g (hA.cell hq1 e8 h1).2.2.1, (hA.cell hq1 e8 h1).1, (hA.cell hq1 e8 h2).1⟩
      have o8' := HF.out.cell (HSA.out oa hA.so) o8
      have hln : lnOf acc q = (acc.getD q []).length := rfl
      rw [hln] at o8'
      have HX2 := Lib.hid hx2
      generalize acc.getD q [] = ys at *
      cases hgw : A.gathW ys (sk, lk) with
      | none => rw [hgw] at hg; cases hg
      | some s2 =>
      rw [hgw] at hg
      have HG2 : Hid (A.gathS acc (ws.drop (k + 1)) s2 = some (srcs', ls)) := hg
      have HGW : Hid (A.gathW (ys.drop 0) (sk, lk) = some s2) := hgw
      have hyl : ys.length ≤ 1000000000 := HX2.out
      clear hg hgw hA o8 f8 e8 n8 hln hc hx2 HG
      go_wp2_with fail
      go_loopg [7, 23] (ys.length + 1) (fun n u i wr => ∃ (j : Nat) (sk : List (List Int)) (lk : List Int) (Sk : Nat → Prop), j ≤ ys.length ∧ n = ys.length + 1 - j ∧ i = .int .i64 (j : Int) ∧ Hid (sk.length = N) ∧ Hid (A.gathW (ys.drop j) (sk, lk) = some s2) ∧ Hid (OwnInts wr w.heap.size u lk) ∧ Hid (∀ g, u.ownBlock = some g → ¬ Sk g) ∧ Hid (Srcs wr Sk ob sk) ∧ Hid (∀ b, Sk b → (S b ∨ w.heap.size ≤ b) ∧ b < wr.heap.size) ∧ Hid (Frm S w wr))
      case atStart => exact ⟨0, sk, lk, Sk, Nat.zero_le _, rfl, rfl, HN, HGW, HO, HNO, HS, HSS, HF⟩
      case round =>
        clear HGW HO HNO HS HSS HF HN c1 o8'
        obtain ⟨j, sk, lk, Sk, hj, rfl, rfl, HN, HGW, HO, HNO, HS, HSS, HF⟩ := hrel
        obtain ⟨A7, c7, rfl⟩ := own_form HO.out
        by_cases hltj : j < ys.length
        · have hltj' : (j : Int) < (ys.length : Int) := by omega
          obtain ⟨g8, rfl, hg8, d0, d1⟩ := HGC.out j hltj
          have d0' := HF.out.cell hg8 d0
          have d1' := HF.out.cell hg8 d1
          have hgw := HGW.out
          rw [List.drop_eq_getElem_cons hltj] at hgw
          unfold A.gathW at hgw
          generalize ys[j]'hltj = a at *
          obtain ⟨a1, a2⟩ := a
          dsimp only at d0' d1' d0 d1
          cases hg1 : A.gath1 (a1, a2) (sk, lk) with
          | none => rw [hg1] at hgw; cases hgw
          | some s3 =>
          rw [hg1] at hgw
          unfold A.gath1 at hg1
          dsimp only at hg1 hgw
          split at hg1
          case isFalse => cases hg1
          rename_i hcnd
          obtain ⟨k1, k2, k3, k4⟩ := hcnd
          obtain ⟨t, rfl⟩ : ∃ t : Nat, a2 = (t : Int) := ⟨a2.toNat, by omega⟩
          rw [Int.toNat_natCast] at hg1 k3
          have ht : t < sk.length := by omega
          have ht' : (t : Int) < (N : Int) := by rw [← HN.out]; omega
          obtain ⟨vf2, hG⟩ := HS.out
          obtain ⟨A9, c9, e9, o9, f9, n9, _⟩ := hG.slot ht
          have hob : ob < wr.heap.size := hG.out.lt
          have hln : lnOf sk t = (sk.getD t []).length := rfl
          rw [hln] at o9 e9
          have HG0 := Lib.hid hG
          have HE9 := Lib.hid e9
          have HOW := hG.own t ht
          rw [e9, cfOf_inC, hln] at HOW
          have HOW' := Lib.hid HOW
          have HK3 := Lib.hid k3
          have HK4 := Lib.hid k4
          have HG1 := Lib.hid hg1
          have HGW2 := Lib.hid hgw
          have o9' := fun o => ((Frm.refl (fun _ => False) wr).alloc o).cell id o9
          have f9' := fun o => (hG.out.alloc o).frozen t
          clear hG e9 HOW k3 k4 hg1 hgw HGW d0 d1 k2 hln n9
          obtain ⟨row, hrow⟩ : ∃ row, row = sk.getD t [] := ⟨_, rfl⟩
          rw [← hrow] at o9 HE9 HOW' HK3 HG1 o9'
          have HROW := Lib.hid hrow
          clear hrow
          by_cases hz : row.length = 0
          · have hzb : ((row.length : Int) == 0) = true := by rw [hz]; rfl
            have hst : s3 = (sk.set t (row ++ [a1]), lk ++ [(t : Int)]) := by have h := HG1.out; rw [if_pos hz] at h; simp only [Option.some.injEq] at h; exact h.symm
            have HST := Lib.hid hst
            clear hz
            have HGV0 := Lib.hid (HG0.out.frm0 ((Frm.refl (fun _ => False) wr).alloc (.cells #[.int .i64 a1, .int .i64 (t : Int)] 101)))
            have HBV0 := Lib.hid (Blk.new wr 101 #[.int .i64 a1, .int .i64 (t : Int)])
            have HWB : Hid (¬ Sk wr.heap.size) := fun h => by have := (HSS.out _ h).2; omega
            have HOV0 := Lib.hid (HO.out.frm (E := fun _ => False) ((Frm.refl (fun _ => False) wr).alloc (.cells #[.int .i64 a1, .int .i64 (t : Int)] 101)) fun _ _ => id)
            have HFV0 := Lib.hid (HF.out.alloc (.cells #[.int .i64 a1, .int .i64 (t : Int)] 101))
            have HWR : Hid (w.heap.size ≤ wr.heap.size) := HF.out.1
            have HNLW : Hid (∀ g, (Value.slice A7 lk.length c7).ownBlock = some g → g ≠ wr.heap.size) := fun g hg => by have := (own_lt HO.out g hg).2; omega
            clear hst o9 f9 o9' f9'
            have o9' := fun o => ((Frm.refl (fun _ => False) wr).alloc o).cell id (show wr.cell? ⟨ob, t, none⟩ = some (.slice A9 row.length c9) by have h := HG0.out.out.cell t; rw [cellsOf_get _ ht, HE9.out] at h; exact h)
            go_wp2_with (at_builtin; refine wpList_append_own_at _ rfl _ _ 35 rfl w.heap.size 3 i0 (.int .i64 0) 1 8 Try.underlying35 hi0 hz0 hz1 hz2 rfl (by decide) _ _ _ rfl (HOV0.out.alloc _) ⟨wr.heap.size + 1, 0, none⟩ 1 1 [.int .i64 (t : Int)] rfl rfl ?y1 ?y2 ?y3 ?y4 ?y5 ?_)
            case y1 => exact cell_one_at (by simp)
            case y2 => simp [Value.oneCell']
            case y3 => have := HK4.out; unfold A.big at this; unfold maxLen; omega
            case y4 => have := HK4.out; unfold A.big at this; omega
            case y5 => have := HWR.out; simp; omega
            intro v' V hown1 hgrow _ hat
            obtain ⟨AV, cV, rfl⟩ := own_form hown1
            have fV : Frm (fun b => (Value.slice A7 lk.length c7).ownBlock = some b) (wr.alloc (.cells #[.int .i64 a1, .int .i64 (t : Int)] 101)) V := ((Frm.refl _ _).alloc _).grown hgrow fun g hg _ => hg
            have HGV : Hid (Grp srT V Sk ob sk.length vf2 (lnOf sk) (cfOf inC sk)) := HGV0.out.frm fV fun b _ hs h => HNO.out b h hs
            have HBV : Hid (Blk V wr.heap.size 101 #[.int .i64 a1, .int .i64 (t : Int)]) := fV.blk HBV0.out fun h => HNLW.out _ h rfl
            have HOV : Hid (OwnInts V w.heap.size (.slice AV (lk.length + 1) cV) (lk ++ [(t : Int)])) := OwnInts.grown rfl hown1
            have HNOV : Hid (∀ g, (Value.slice AV (lk.length + 1) cV).ownBlock = some g → ¬ Sk g) := fun g hg hs => by
              rcases hat with h | h
              · rw [h] at hg; exact HNO.out g hg hs
              · rw [h] at hg; have := (HSS.out g hs).2; simp at hg; omega
            have HFV : Hid (Frm S w V) := Frm.mono (E := fun b => S b ∨ w.heap.size ≤ b) ((HFV0.out.mono fun _ _ h => .inl h).trans (fV.mono fun b _ h => .inr (own_lt HO.out b h).1)) fun b hb h => h.resolve_right (by omega)
            have HLL : Hid ((lk ++ [(t : Int)]).length = lk.length + 1) := show _ = _ by simp
            rw [← HLL.out] at HOV HNOV ⊢
            clear hown1 hgrow hat fV HGV0 HBV0 HOV0 HFV0 o9'
            generalize lk ++ [(t : Int)] = lk2 at *
            have HGF := Lib.hid (gath_facts HGV.out ht HE9.out HROW.out HBV.out HWB.out)
            have HGD : Hid (∀ W' : World, Srcs W' (fun b => Sk b ∨ V.heap.size ≤ b) ob (sk.set t (row ++ [a1])) → Frm Sk V W' → OwnInts W' w.heap.size (.slice AV lk2.length cV) lk2 ∧ (∀ g, (Value.slice AV lk2.length cV).ownBlock = some g → ¬ ((Sk g ∨ V.heap.size ≤ g) ∧ g < W'.heap.size)) ∧ Srcs W' (fun b => (Sk b ∨ V.heap.size ≤ b) ∧ b < W'.heap.size) ob (sk.set t (row ++ [a1])) ∧ (∀ b, ((Sk b ∨ V.heap.size ≤ b) ∧ b < W'.heap.size) → (S b ∨ w.heap.size ≤ b) ∧ b < W'.heap.size) ∧ Frm S w W') := fun W' h1 h2 => by
              have hvw := HFV.out.1
              refine ⟨h2.row HOV.out (fun g hg => HNOV.out g hg) (Nat.le_refl _), fun g hg h => ?_, h1.mono fun b hb hs => ⟨hs, hb⟩, fun b h => ⟨?_, h.2⟩, ?_⟩
              · have := (own_lt HOV.out g hg).2
                rcases h.1 with h3 | h3
                · exact HNOV.out g hg h3
                · omega
              · rcases h.1 with h3 | h3
                · exact (HSS.out b h3).1
                · exact .inr (by omega)
              · exact Frm.mono (E := fun b => S b ∨ w.heap.size ≤ b) ((HFV.out.mono fun _ _ h => .inl h).trans (h2.mono fun b _ h => (HSS.out b h).1)) fun b hb h => h.resolve_right (by omega)
            have v0 := HBV.out.cell 0
            have v1 := HBV.out.cell 1
            have v0' := fun o => (HBV.out.alloc o).cell 0
            have v1' := fun o => (HBV.out.alloc o).cell 1
            have o9 := HGV.out.out.cell t
            rw [cellsOf_get _ ht, HE9.out] at o9
            have o9' := fun o => ((Frm.refl (fun _ => False) V).alloc o).cell id o9
            clear HGV HBV HWB HOV HNOV HFV HSS HNO HO HF HG0 d0' d1' HGC HX2 HG2 HW HA HM HQ HSA
            go_wp2_with fail
            go_region_law (refine step_append_lies _ rfl (.tmp 46) (.tmp 49) 35 rfl 0 3 i0 (.int .i64 0) 1 8 Try.underlying35 hi0 hz0 hz1 hz2 rfl (by decide) (.slice A9 row.length c9) row.length (row.map (Value.int .i64)) (by simp [Act.eval]) (HGF.out _ rfl).1 ⟨V.heap.size, 0, none⟩ 1 1 [.int .i64 a1] (by simp [Act.eval]) rfl (HGF.out _ rfl).2.1 (by simp [Value.oneCell']) (by decide) (by have := HK3.out; unfold A.big at this; unfold maxLen; omega) (by have := HK3.out; unfold A.big at this; omega) (Nat.zero_le _) (V.heap.size + 1) (HGF.out _ rfl).2.2.1 ?_; intro g' cap' w1 hown1 hgrow hat hlt1; obtain ⟨q1, q2, p5, f5, w50, w51⟩ := (HGF.out _ rfl).2.2.2 g' cap' w1 hown1 hgrow hat; have HQ1 := Lib.hid q1; have HQ2 := Lib.hid q2; clear q1 q2 hown1 hgrow hat)
            all_goals (
              obtain ⟨z1, z2, z3, z4, z5⟩ := HGD.out _ HQ1.out HQ2.out
              have R1 := Lib.hid z1
              have R2 := Lib.hid z2
              have R3 := Lib.hid z3
              have R4 := Lib.hid z4
              have R5 := Lib.hid z5
              clear z1 z2 z3 z4 z5 HQ1 HQ2 HGD HGF p5 f5 w50 w51 v0 v1 v0' v1' o9 o9'
              go_wp2_with fail
              go_roundg (ys.length + 1 - (j + 1))
              case measure => omega
              case rel => exact ⟨j + 1, sk.set t (row ++ [a1]), lk2, _, by omega, rfl, by go_num, (show _ = _ by rw [List.length_set]; exact HN.out), (by rw [← HST.out]; exact HGW2), R1, R2, R3, R4, R5⟩)
          · have hzb : ((row.length : Int) == 0) = false := by rw [beq_eq_false_iff_ne]; omega
            have hst : s3 = (sk.set t (row ++ [a1]), lk) := by have h := HG1.out; rw [if_neg hz] at h; simp only [Option.some.injEq] at h; exact h.symm
            have HST := Lib.hid hst
            have HGV := Lib.hid (HG0.out.frm0 ((Frm.refl (fun _ => False) wr).alloc (.cells #[.int .i64 a1, .int .i64 (t : Int)] 101)))
            have HBV := Lib.hid (Blk.new wr 101 #[.int .i64 a1, .int .i64 (t : Int)])
            have HWB : Hid (¬ Sk wr.heap.size) := fun h => by have := (HSS.out _ h).2; omega
            have HOV := Lib.hid (HO.out.frm (E := fun _ => False) ((Frm.refl (fun _ => False) wr).alloc (.cells #[.int .i64 a1, .int .i64 (t : Int)] 101)) fun _ _ => id)
            have HNOV := HNO
            have HFV := Lib.hid (HF.out.alloc (.cells #[.int .i64 a1, .int .i64 (t : Int)] 101))
            clear hst o9 f9 o9' f9'
            have o9' := fun o => ((Frm.refl (fun _ => False) wr).alloc o).cell id (show wr.cell? ⟨ob, t, none⟩ = some (.slice A9 row.length c9) by have h := HG0.out.out.cell t; rw [cellsOf_get _ ht, HE9.out] at h; exact h)
            go_wp2_with fail
            clear o9'
            generalize wr.alloc (.cells #[.int .i64 a1, .int .i64 (t : Int)] 101) = V at HGV HBV HOV HFV ⊢
            have HGF := Lib.hid (gath_facts HGV.out ht HE9.out HROW.out HBV.out HWB.out)
            have HGD : Hid (∀ W' : World, Srcs W' (fun b => Sk b ∨ V.heap.size ≤ b) ob (sk.set t (row ++ [a1])) → Frm Sk V W' → OwnInts W' w.heap.size (.slice A7 lk.length c7) lk ∧ (∀ g, (Value.slice A7 lk.length c7).ownBlock = some g → ¬ ((Sk g ∨ V.heap.size ≤ g) ∧ g < W'.heap.size)) ∧ Srcs W' (fun b => (Sk b ∨ V.heap.size ≤ b) ∧ b < W'.heap.size) ob (sk.set t (row ++ [a1])) ∧ (∀ b, ((Sk b ∨ V.heap.size ≤ b) ∧ b < W'.heap.size) → (S b ∨ w.heap.size ≤ b) ∧ b < W'.heap.size) ∧ Frm S w W') := fun W' h1 h2 => by
              have hvw := HFV.out.1
              refine ⟨h2.row HOV.out (fun g hg => HNOV.out g hg) (Nat.le_refl _), fun g hg h => ?_, h1.mono fun b hb hs => ⟨hs, hb⟩, fun b h => ⟨?_, h.2⟩, ?_⟩
              · have := (own_lt HOV.out g hg).2
                rcases h.1 with h3 | h3
                · exact HNOV.out g hg h3
                · omega
              · rcases h.1 with h3 | h3
                · exact (HSS.out b h3).1
                · exact .inr (by omega)
              · exact Frm.mono (E := fun b => S b ∨ w.heap.size ≤ b) ((HFV.out.mono fun _ _ h => .inl h).trans (h2.mono fun b _ h => (HSS.out b h).1)) fun b hb h => h.resolve_right (by omega)
            have v0 := HBV.out.cell 0
            have v1 := HBV.out.cell 1
            have v0' := fun o => (HBV.out.alloc o).cell 0
            have v1' := fun o => (HBV.out.alloc o).cell 1
            have o9 := HGV.out.out.cell t
            rw [cellsOf_get _ ht, HE9.out] at o9
            have o9' := fun o => ((Frm.refl (fun _ => False) V).alloc o).cell id o9
            clear HGV HBV HWB HOV HNOV HFV HSS HNO HO HF HG0 d0' d1' HGC HX2 HG2 HW HA HM HQ HSA
            go_region_law (refine step_append_lies _ rfl (.tmp 46) (.tmp 49) 35 rfl 0 3 i0 (.int .i64 0) 1 8 Try.underlying35 hi0 hz0 hz1 hz2 rfl (by decide) (.slice A9 row.length c9) row.length (row.map (Value.int .i64)) (by simp [Act.eval]) (HGF.out _ rfl).1 ⟨V.heap.size, 0, none⟩ 1 1 [.int .i64 a1] (by simp [Act.eval]) rfl (HGF.out _ rfl).2.1 (by simp [Value.oneCell']) (by decide) (by have := HK3.out; unfold A.big at this; unfold maxLen; omega) (by have := HK3.out; unfold A.big at this; omega) (Nat.zero_le _) (V.heap.size + 1) (HGF.out _ rfl).2.2.1 ?_; intro g' cap' w1 hown1 hgrow hat hlt1; obtain ⟨q1, q2, p5, f5, w50, w51⟩ := (HGF.out _ rfl).2.2.2 g' cap' w1 hown1 hgrow hat; have HQ1 := Lib.hid q1; have HQ2 := Lib.hid q2; clear q1 q2 hown1 hgrow hat)
            all_goals (
              obtain ⟨z1, z2, z3, z4, z5⟩ := HGD.out _ HQ1.out HQ2.out
              have R1 := Lib.hid z1
              have R2 := Lib.hid z2
              have R3 := Lib.hid z3
              have R4 := Lib.hid z4
              have R5 := Lib.hid z5
              clear z1 z2 z3 z4 z5 HQ1 HQ2 HGD HGF p5 f5 w50 w51 v0 v1 v0' v1' o9 o9'
              go_wp2_with fail
              go_roundg (ys.length + 1 - (j + 1))
              case measure => omega
              case rel => exact ⟨j + 1, sk.set t (row ++ [a1]), lk, _, by omega, rfl, by go_num, (show _ = _ by rw [List.length_set]; exact HN.out), (by rw [← HST.out]; exact HGW2), R1, R2, R3, R4, R5⟩)
        · have hltj' : ¬ (j : Int) < (ys.length : Int) := by omega
          have hgw := HGW.out
          rw [List.drop_of_length_le (by omega)] at hgw
          simp only [A.gathW, Option.some.injEq] at hgw
          subst hgw
          clear HGW
          go_wp2_with fail
          go_roundg (ws.length + 1 - (k + 1))
          case measure => omega
          case rel => exact ⟨k + 1, sk, lk, Sk, by omega, rfl, by go_num, HN, HG2, HO, HNO, HS, HSS, HF⟩
    · have hlt' : ¬ (k : Int) < (ws.length : Int) := by omega
      have hg := HG.out
      rw [List.drop_of_length_le (by omega)] at hg
      simp only [A.gathS, Option.some.injEq, Prod.mk.injEq] at hg
      obtain ⟨rfl, rfl⟩ := hg
      clear HG
      go_wp2_with fail
      go_ret
      first | exact ⟨_, rfl, HO.out, Sk, HS.out, fun b hs => (HSS.out b hs).1, HNO.out, HN.out, HF.out⟩ | exact ⟨_, Sk, rfl, HO.out, HS.out, fun b hs => (HSS.out b hs).1, HNO.out, HN.out, HF.out⟩
end Go.Proofs.Ytmoniecknimmdaa
end
section
namespace Go.Proofs.Ytmoniecknimmdaa
open Go.RowKit
set_option maxRecDepth 100000 in
set_option maxHeartbeats 4000000 in
theorem one_q {w : World} {S : Nat → Prop} {pb : Nat} {d : A.Pd} {k b : Nat} (h : Pt w S pb d) (h1 : k < d.beg.length) (h2 : d.beg.getD k 0 = (b : Int)) (h3 : b < d.row.length) :
    Calls Try.prog 46 #[.pointer (some ⟨pb, 0, none⟩), .int .i64 k] w fun e w' => e = .returned (.int .i64 (d.row.getD b 0)) ∧ ∃ m, w' = w.drewN m := by
  obtain ⟨vf, h⟩ := h
  obtain ⟨g3, c3, e3, o3, f3, k3, l3, _⟩ := h.at_ (i := 3) (j := k) (by decide) h1
  obtain ⟨g0, c0, e0, o0, f0, k0, l0, _⟩ := h.at_ (i := 0) (j := b) (by decide) h3
  have hk' : (k : Int) < ((d.f 3).length : Int) := by have : k < (d.f 3).length := h1; omega
  have hb' : (b : Int) < ((d.f 0).length : Int) := by have : b < (d.f 0).length := h3; omega
  rw [show (d.f 3).getD k 0 = (b : Int) from h2] at k3
  have HX : Hid ((d.f 0).getD b 0 = d.row.getD b 0) := rfl
  generalize (d.f 0).getD b 0 = x at *
  generalize (d.f 0).length = n0 at *
  generalize (d.f 3).length = n3 at *
  rw [← HX.out]
  clear h1 h2 h3 h e0 e3
  go_enter Try.func46, Try.ntmps46
  go_wp2_with fail
  go_quiet (fail)
  go_wp2_with fail
  go_ret
  exact ⟨rfl, nq, rfl⟩
namespace A
/-- The row and the places behind the first k states, those that are alive with End b put in. -/
def endTo (m : Mac) (al : List Bool) (b : Bool) (d : Pd) : Nat → Pd
  | 0 => d
  | k + 1 => if al.getD k false && (m.fin.getD k false == b) then { endTo m al b d k with place := (endTo m al b d k).place.set k ((endTo m al b d k).row.length : Int), row := (endTo m al b d k).row ++ [(k : Int)] } else endTo m al b d k
def roundB (m : Mac) (al : List Bool) (b : Bool) (d : Pd) : Pd := if d.row.length < (endTo m al b d m.next.length).row.length then (endTo m al b d m.next.length).added d.row.length (endTo m al b d m.next.length).row.length else endTo m al b d m.next.length
def pd0 (n : Nat) : Pd := ⟨[], List.replicate n 0, List.replicate n 0, [], [], []⟩
def stage (m : Mac) (al : List Bool) : Nat → Pd
  | 0 => pd0 m.next.length
  | k + 1 => roundB m al (decide (k = 0)) (stage m al k)
def deadTo (al : List Bool) (cls : List Int) : Nat → List Int
  | 0 => cls
  | k + 1 => if al.getD k false then deadTo al cls k else (deadTo al cls k).set k (-1)
def byEndP (m : Mac) (al : List Bool) : Pd := { stage m al 2 with cls := deadTo al (stage m al 2).cls m.next.length }
/-- What holds of the partition at each step: n states, and bounds. -/
structure Pi (n B : Nat) (d : Pd) : Prop where
  pl : d.place.length = n
  cl : d.cls.length = n
  rw : ∀ x ∈ d.row, 0 ≤ x ∧ x < n
  rl : d.row.length ≤ B
  bl : d.beg.length ≤ B
  fl : d.fin.length ≤ B
  ml : d.mkd.length ≤ B
theorem Pi.mono {n B B' : Nat} {d : Pd} (h : Pi n B d) (hB : B ≤ B') : Pi n B' d := ⟨h.pl, h.cl, h.rw, Nat.le_trans h.rl hB, Nat.le_trans h.bl hB, Nat.le_trans h.fl hB, Nat.le_trans h.ml hB⟩
theorem Pi.put {n B k : Nat} {d : Pd} (h : Pi n B d) (hk : k < n) : Pi n (B + 1) { d with place := d.place.set k (d.row.length : Int), row := d.row ++ [(k : Int)] } :=
  ⟨by simp [h.pl], h.cl, fun x hx => by
    simp only [List.mem_append, List.mem_singleton] at hx
    rcases hx with hx | hx
    · exact h.rw x hx
    · omega, by have := h.rl; simp; omega, by have := h.bl; dsimp only; omega, by have := h.fl; dsimp only; omega, by have := h.ml; dsimp only; omega⟩
theorem Pi.added {n B b e : Nat} {d : Pd} (h : Pi n B d) : Pi n (B + 1) (d.added b e) :=
  ⟨h.pl, by unfold Pd.added; dsimp only; rw [clsTo_len]; exact h.cl, h.rw, by have := h.rl; unfold Pd.added; dsimp only; omega, by have := h.bl; unfold Pd.added; simp; omega, by have := h.fl; unfold Pd.added; simp; omega, by have := h.ml; unfold Pd.added; simp; omega⟩
theorem Pi.row_at {n B : Nat} {d : Pd} (h : Pi n B d) {i : Nat} (hi : i < d.row.length) : 0 ≤ d.row.getD i 0 ∧ d.row.getD i 0 < d.cls.length := by
  have := h.rw _ (List.getElem_mem hi)
  rw [h.cl]
  simpa [hi] using this
theorem endTo_pi {m : Mac} {al : List Bool} {b : Bool} {n B : Nat} {d : Pd} (h : Pi n B d) : ∀ k, k ≤ n → Pi n (B + k) (endTo m al b d k)
  | 0, _ => h
  | k + 1, hk => by
    have ih := endTo_pi (m := m) (al := al) (b := b) h k (by omega)
    unfold endTo
    split
    · exact ih.put (by omega)
    · exact ih.mono (by omega)
theorem roundB_pi {m : Mac} {al : List Bool} {b : Bool} {B : Nat} {d : Pd} (h : Pi m.next.length B d) : Pi m.next.length (B + (m.next.length + 1)) (roundB m al b d) := by
  have h1 := endTo_pi (m := m) (al := al) (b := b) h m.next.length (Nat.le_refl _)
  unfold roundB
  split
  · exact h1.added.mono (by omega)
  · exact h1.mono (by omega)
theorem stage_pi (m : Mac) (al : List Bool) : ∀ k, Pi m.next.length (k * (m.next.length + 1)) (stage m al k)
  | 0 => ⟨by simp [stage, pd0], by simp [stage, pd0], fun x hx => by simp [stage, pd0] at hx, by simp [stage, pd0], by simp [stage, pd0], by simp [stage, pd0], by simp [stage, pd0]⟩
  | k + 1 => by
    have := roundB_pi (al := al) (b := decide (k = 0)) (stage_pi m al k)
    unfold stage
    exact this.mono (by rw [Nat.add_mul]; omega)
theorem deadTo_len (al : List Bool) (cls : List Int) (k : Nat) : (deadTo al cls k).length = cls.length := by
  induction k with
  | zero => rfl
  | succ k ih => unfold deadTo; split <;> simp [ih]
end A
def ptVf (N pa pc : Nat) : Nat → Value
  | 1 => .slice (some ⟨pa, 0, none⟩) N N
  | 2 => .slice (some ⟨pc, 0, none⟩) N N
  | _ => .slice none 0 0
theorem pt_new {w W : World} {N pa pc : Nat} (hN : N ≤ 100000) (hp : pa = w.heap.size ∧ pc = w.heap.size + 1 ∨ pa = w.heap.size + 1 ∧ pc = w.heap.size) (hW : W = (((w.alloc (.cells (madeCells #[.int .i64 0] N) 3)).alloc (.cells (madeCells #[.int .i64 0] N) 3)).alloc (.cells #[.slice none 0 0, .slice (some ⟨pa, 0, none⟩) N N, .slice (some ⟨pc, 0, none⟩) N N, .slice none 0 0, .slice none 0 0, .slice none 0 0] 78)).drew) :
    Pt W (fun b => w.heap.size ≤ b ∧ b < w.heap.size + 3) (w.heap.size + 2) (A.pd0 N) := by
  subst hW
  refine ⟨ptVf N pa pc, ?_⟩
  have hrow : ∀ p, p = w.heap.size ∨ p = w.heap.size + 1 → ((((w.alloc (.cells (madeCells #[.int .i64 0] N) 3)).alloc (.cells (madeCells #[.int .i64 0] N) 3)).alloc (.cells #[.slice none 0 0, .slice (some ⟨pa, 0, none⟩) N N, .slice (some ⟨pc, 0, none⟩) N N, .slice none 0 0, .slice none 0 0, .slice none 0 0] 78)).drew).ownsRow 0 3 1 (.slice (some ⟨p, 0, none⟩) N N) N ((List.replicate N 0).map (Value.int .i64)) := fun p hp => by
    refine ⟨by simp, .inr ⟨p, N, madeCells #[.int .i64 0] N, rfl, Nat.zero_le _, ?_, Nat.le_refl _, by unfold maxLen; omega, by simp [madeCells], by rw [toList_madeCells_one]; simp⟩⟩
    rcases hp with rfl | rfl
    · exact ((Blk.new w 3 (madeCells #[.int .i64 0] N)).alloc _).alloc _
    · exact (blk_at (w := w.alloc (.cells (madeCells #[.int .i64 0] N) 3)) (by simp)).alloc _
  have hnil : ∀ W : World, W.ownsRow 0 3 1 (.slice none 0 0) 0 (([] : List Int).map (Value.int .i64)) := fun W => World.ownsRow_nil _ _ _ _
  have hpa : pa = w.heap.size ∨ pa = w.heap.size + 1 := by omega
  have hpc : pc = w.heap.size ∨ pc = w.heap.size + 1 := by omega
  refine ⟨?_, ⟨by omega, by omega⟩, fun i hi => ?_, fun i hi g hg => ?_, fun i j hi hj hne g hg hg' => ?_⟩
  · exact blk_at (w := (w.alloc (.cells (madeCells #[.int .i64 0] N) 3)).alloc (.cells (madeCells #[.int .i64 0] N) 3)) (by simp)
  · match i, hi with
    | 0, _ => exact hnil _
    | 1, _ =>
      have := hrow pa hpa
      simpa [ptVf, ptT, A.pd0, A.Pd.f] using this
    | 2, _ =>
      have := hrow pc hpc
      simpa [ptVf, ptT, A.pd0, A.Pd.f] using this
    | 3, _ => exact hnil _
    | 4, _ => exact hnil _
    | 5, _ => exact hnil _
  · match i, hi with
    | 0, _ => cases hg
    | 1, _ => simp only [ptVf, Value.ownBlock, Option.some.injEq] at hg; omega
    | 2, _ => simp only [ptVf, Value.ownBlock, Option.some.injEq] at hg; omega
    | 3, _ => cases hg
    | 4, _ => cases hg
    | 5, _ => cases hg
  · match i, j, hi, hj, hne with
    | 0, _, _, _, _ => cases hg
    | 1, 0, _, _, _ => cases hg'
    | 1, 1, _, _, h => exact h rfl
    | 1, 2, _, _, _ => simp only [ptVf, Value.ownBlock, Option.some.injEq] at hg hg'; omega
    | 1, 3, _, _, _ => cases hg'
    | 1, 4, _, _, _ => cases hg'
    | 1, 5, _, _, _ => cases hg'
    | 2, 0, _, _, _ => cases hg'
    | 2, 1, _, _, _ => simp only [ptVf, Value.ownBlock, Option.some.injEq] at hg hg'; omega
    | 2, 2, _, _, h => exact h rfl
    | 2, 3, _, _, _ => cases hg'
    | 2, 4, _, _, _ => cases hg'
    | 2, 5, _, _, _ => cases hg'
    | 3, _, _, _, _ => cases hg
    | 4, _, _, _, _ => cases hg
    | 5, _, _, _, _ => cases hg
set_option maxRecDepth 100000 in
set_option maxHeartbeats 8000000 in
theorem byEnd_any {w : World} {P : Nat → Prop} {v : Value} {m : A.Mac} {ga : Nat} {al : List Bool} (h : MachAt w P v m) (hf : A.Fits m) (hn : m.next.length ≤ 100000) (ha : Blk w ga 4 (boolCs al)) (hal : al.length = m.next.length) :
    Calls Try.prog 57 #[v, .slice (some ⟨ga, 0, none⟩) m.next.length m.next.length] w fun e w' => ∃ pb, e = .returned (.pointer (some ⟨pb, 0, none⟩)) ∧ Pt w' (fun b => w.heap.size ≤ b) pb (A.byEndP m al) ∧ Frm (fun _ => False) w w' := by
  obtain ⟨A1, c1, A2, c2, rfl⟩ := h.form
  obtain ⟨N, hN⟩ : ∃ N, N = m.next.length := ⟨_, rfl⟩
  have hNf : N = m.fin.length := by rw [hN]; exact hf.fin
  have HM := Lib.hid h
  have HA := Lib.hid ha
  have HB0 : Hid (Blk (w.alloc (.cells #[.int .i64 m.letters, .int .i64 m.start, .slice A1 m.next.length c1, .slice A2 m.fin.length c2] 25)) w.heap.size 25 #[.int .i64 m.letters, .int .i64 m.start, .slice A1 m.next.length c1, .slice A2 m.fin.length c2]) := Blk.new w _ _
  rw [← hN, ← hNf] at HB0
  rw [← hN] at hn hal ⊢
  rw [← hNf]
  have HN := Lib.hid hN
  have HNF := Lib.hid hNf
  have HAL := Lib.hid hal
  clear h hf hN hNf ha hal
  have hmk := run_make_row' (P := Try.prog) 35 3 (.int .i64 0) 8 Try.underlying35 info_int rfl .i64 .i64 N (by omega) (by omega)
  go_enter Try.func57, Try.ntmps57
  go_wp2_with fail
  have HALL : Hid (∀ pa pc W, (pa = w.heap.size + 1 ∧ pc = w.heap.size + 1 + 1 ∨ pa = w.heap.size + 1 + 1 ∧ pc = w.heap.size + 1) → W = ((((w.alloc (.cells #[.int .i64 m.letters, .int .i64 m.start, .slice A1 N c1, .slice A2 N c2] 25)).alloc (.cells (madeCells #[.int .i64 0] N) 3)).alloc (.cells (madeCells #[.int .i64 0] N) 3)).alloc (.cells #[.slice none 0 0, .slice (some ⟨pa, 0, none⟩) N N, .slice (some ⟨pc, 0, none⟩) N N, .slice none 0 0, .slice none 0 0, .slice none 0 0] 78)).drew → Pt W (fun b => w.heap.size + 1 ≤ b ∧ b < w.heap.size + 4) (w.heap.size + 1 + 1 + 1) (A.pd0 N) ∧ Blk W w.heap.size 25 #[.int .i64 m.letters, .int .i64 m.start, .slice A1 N c1, .slice A2 N c2] ∧ Frm (fun _ => False) w W ∧ w.heap.size + 4 ≤ W.heap.size) := fun pa pc W hp hW => by
    have hs : (w.alloc (.cells #[.int .i64 m.letters, .int .i64 m.start, .slice A1 N c1, .slice A2 N c2] 25)).heap.size = w.heap.size + 1 := by simp
    have h1 := pt_new (w := (w.alloc (.cells #[.int .i64 m.letters, .int .i64 m.start, .slice A1 N c1, .slice A2 N c2] 25))) (N := N) (pa := pa) (pc := pc) hn (by rw [hs]; exact hp) hW
    rw [hs] at h1
    refine ⟨h1, ?_, ?_, ?_⟩
    · rw [hW]; exact ((HB0.out.alloc _).alloc _).alloc _
    · rw [hW]; exact ((((Frm.refl _ w).alloc _).alloc _).alloc _).alloc _
    · rw [hW]; simp [World.drew]
  go_region
  all_goals (
    first
    | (obtain ⟨W, hW⟩ : ∃ W, W = ((((w.alloc (.cells #[.int .i64 m.letters, .int .i64 m.start, .slice A1 N c1, .slice A2 N c2] 25)).alloc (.cells (madeCells #[.int .i64 0] N) 3)).alloc (.cells (madeCells #[.int .i64 0] N) 3)).alloc (.cells #[.slice none 0 0, .slice (some ⟨w.heap.size + 1, 0, none⟩) N N, .slice (some ⟨w.heap.size + 1 + 1, 0, none⟩) N N, .slice none 0 0, .slice none 0 0, .slice none 0 0] 78)).drew := ⟨_, rfl⟩
       rw [← hW]
       obtain ⟨z1, z2, z3, z4⟩ := HALL.out (w.heap.size + 1) (w.heap.size + 1 + 1) W (.inl ⟨rfl, rfl⟩) hW
       clear hW
       have HP := Lib.hid z1
       have HB := Lib.hid z2
       have HF := Lib.hid z3
       have HL := Lib.hid z4
       clear z1 z2 z3 z4)
    | (obtain ⟨W, hW⟩ : ∃ W, W = ((((w.alloc (.cells #[.int .i64 m.letters, .int .i64 m.start, .slice A1 N c1, .slice A2 N c2] 25)).alloc (.cells (madeCells #[.int .i64 0] N) 3)).alloc (.cells (madeCells #[.int .i64 0] N) 3)).alloc (.cells #[.slice none 0 0, .slice (some ⟨w.heap.size + 1 + 1, 0, none⟩) N N, .slice (some ⟨w.heap.size + 1, 0, none⟩) N N, .slice none 0 0, .slice none 0 0, .slice none 0 0] 78)).drew := ⟨_, rfl⟩
       rw [← hW]
       obtain ⟨z1, z2, z3, z4⟩ := HALL.out (w.heap.size + 1 + 1) (w.heap.size + 1) W (.inr ⟨rfl, rfl⟩) hW
       clear hW
       have HP := Lib.hid z1
       have HB := Lib.hid z2
       have HF := Lib.hid z3
       have HL := Lib.hid z4
       clear z1 z2 z3 z4))
  all_goals (
    obtain ⟨pb, hpb⟩ : ∃ pb, pb = w.heap.size + 1 + 1 + 1 := ⟨_, rfl⟩
    have HPB : Hid (w.heap.size + 1 ≤ pb ∧ pb < w.heap.size + 4) := ⟨by omega, by omega⟩
    rw [← hpb] at HP ⊢
    have HP0 : Hid (Pt W (fun b => w.heap.size + 1 ≤ b ∧ b < w.heap.size + 4) pb (A.stage m al 0)) := by
      have h := HP.out
      rw [HN.out] at h
      exact h
    clear HALL hmk hpb HP HB0
    obtain ⟨bl, hbl⟩ : ∃ bl, bl = W.heap.size := ⟨_, rfl⟩
    have HP1 : Hid (Pt (W.alloc (.cells #[.bool true, .bool false] 4)) (fun b => w.heap.size + 1 ≤ b ∧ b < w.heap.size + 4) pb (A.stage m al 0)) := HP0.out.frm ((Frm.refl (fun _ => False) W).alloc _) fun _ _ _ => id
    have HB1 := Lib.hid (HB.out.alloc (.cells #[.bool true, .bool false] 4))
    have HF1 := Lib.hid (HF.out.alloc (.cells #[.bool true, .bool false] 4))
    have HT1 : Hid (Blk (W.alloc (.cells #[.bool true, .bool false] 4)) bl 4 (boolCs [true, false])) := blk_at hbl.symm
    have HS1 : Hid (∀ b, (w.heap.size + 1 ≤ b ∧ b < w.heap.size + 4) → w.heap.size + 1 ≤ b ∧ b < (W.alloc (.cells #[.bool true, .bool false] 4)).heap.size ∧ b ≠ bl) := fun b hb => by have := HL.out; simp; omega
    clear HB HF HP0
    obtain ⟨S0, hS0⟩ : ∃ S0 : Nat → Prop, S0 = fun b => w.heap.size + 1 ≤ b ∧ b < w.heap.size + 4 := ⟨_, rfl⟩
    rw [← hS0] at HP1
    have HS2 : Hid (∀ b, S0 b → w.heap.size + 1 ≤ b ∧ b < (W.alloc (.cells #[.bool true, .bool false] 4)).heap.size ∧ b ≠ bl) := by rw [hS0]; exact HS1
    clear hS0 HS1
    go_wp2_with fail
    try rw [← hbl]
    clear hbl
    generalize W.alloc (.cells #[.bool true, .bool false] 4) = W2 at HP1 HB1 HF1 HT1 HS2 ⊢
    go_loopg [21] 3 (fun n i wr => ∃ (k : Nat) (Sk : Nat → Prop), k ≤ 2 ∧ n = 3 - k ∧ i = .int .i64 (k : Int) ∧ Hid (Pt wr Sk pb (A.stage m al k)) ∧ Hid (∀ b, Sk b → w.heap.size + 1 ≤ b ∧ b < wr.heap.size ∧ b ≠ bl) ∧ Hid (Blk wr bl 4 (boolCs [true, false])) ∧ Hid (Blk wr w.heap.size 25 #[.int .i64 m.letters, .int .i64 m.start, .slice A1 N c1, .slice A2 N c2]) ∧ Hid (Frm (fun _ => False) w wr))
    case atStart => exact ⟨0, S0, by omega, rfl, rfl, HP1, HS2, HT1, HB1, HF1⟩
    case round =>
      clear HP1 HS2 HT1 HB1 HF1
      obtain ⟨k, Sk, hk, rfl, rfl, HP, HS, HT, HB, HF⟩ := hrel
      by_cases hlt : k < 2
      · have hlt' : (k : Int) < 2 := by omega
        have hcell : wr.cell? ⟨bl, k, none⟩ = some (.bool (decide (k = 0))) := by
          rw [HT.out.cell k]
          rcases (show k = 0 ∨ k = 1 by omega) with rfl | rfl <;> rfl
        have HPI : Hid (A.Pi N (k * (N + 1)) (A.stage m al k)) := by have := A.stage_pi m al k; rw [← HN.out] at this; exact this
        have HR : Hid (A.stage m al (k + 1) = A.roundB m al (decide (k = 0)) (A.stage m al k)) := rfl
        have HKN : Hid (k * (N + 1) ≤ 200002) := Nat.le_trans (Nat.mul_le_mul (show k ≤ 2 by omega) (show N + 1 ≤ 100001 by omega)) (by omega)
        generalize k * (N + 1) = B at *
        generalize decide (k = 0) = bv at *
        generalize A.stage m al k = d0 at *
        obtain ⟨vf, hP⟩ := HP.out
        obtain ⟨A0, c0, e0, o0, f0, _⟩ := hP.slot (i := 0) (by decide)
        have hl0 : (d0.f 0).length = d0.row.length := rfl
        rw [hl0] at o0
        have HE0 : Hid (Pt wr Sk pb (A.endTo m al bv d0 0)) := HP
        clear hP e0 hl0 HP
        go_wp2_with fail
        go_loopg [32] (N + 1) (fun n i wr => ∃ (j : Nat) (Sj : Nat → Prop), j ≤ N ∧ n = N + 1 - j ∧ i = .int .i64 (j : Int) ∧ Hid (Pt wr Sj pb (A.endTo m al bv d0 j)) ∧ Hid (∀ b, Sj b → w.heap.size + 1 ≤ b ∧ b < wr.heap.size ∧ b ≠ bl) ∧ Hid (Blk wr bl 4 (boolCs [true, false])) ∧ Hid (Blk wr w.heap.size 25 #[.int .i64 m.letters, .int .i64 m.start, .slice A1 N c1, .slice A2 N c2]) ∧ Hid (Frm (fun _ => False) w wr))
        case atStart => exact ⟨0, Sk, Nat.zero_le _, rfl, rfl, HE0, HS, HT, HB, HF⟩
        case round =>
          clear HE0 HS HT HB HF hcell o0 f0
          obtain ⟨j, Sj, hj, rfl, rfl, HP, HS, HT, HB, HF⟩ := hrel
          by_cases hltj : j < N
          · have hltj' : (j : Int) < (N : Int) := by omega
            have hjf : j < m.fin.length := by rw [← HNF.out]; exact hltj
            obtain ⟨g, o, hA, hc⟩ := HM.out.fin_at hjf
            subst hA
            have q1 := HF.out.cell id hc
            have q2 := HF.out.cell id ((HA.out.cell j).trans (boolCs_getD (by rw [HAL.out]; exact hltj)))
            have q3 := HB.out.cell 3
            have hfe : m.fin.getD j false = m.fin[j]'hjf := by simp [hjf]
            rw [← hfe] at q1
            have HX : Hid (A.endTo m al bv d0 (j + 1) = if al.getD j false && (m.fin.getD j false == bv) then { A.endTo m al bv d0 j with place := (A.endTo m al bv d0 j).place.set j ((A.endTo m al bv d0 j).row.length : Int), row := (A.endTo m al bv d0 j).row ++ [(j : Int)] } else A.endTo m al bv d0 j) := rfl
            have HPJ : Hid (A.Pi N (B + j) (A.endTo m al bv d0 j)) := A.endTo_pi HPI.out j hj
            generalize al.getD j false = a at *
            generalize m.fin.getD j false = f at *
            generalize A.endTo m al bv d0 j = dj at *
            clear hc hfe
            by_cases hcond : (a && (f == bv)) = true
            · obtain ⟨rfl, hfb⟩ : a = true ∧ f = bv := by
                rw [Bool.and_eq_true] at hcond
                exact ⟨hcond.1, by simpa using hcond.2⟩
              subst hfb
              have HX2 : Hid (A.endTo m al f d0 (j + 1) = { dj with place := dj.place.set j (dj.row.length : Int), row := dj.row ++ [(j : Int)] }) := show _ = _ by rw [HX.out, if_pos hcond]
              obtain ⟨vf, hP⟩ := HP.out
              have hjp : j < (dj.f 1).length := show j < dj.place.length by rw [HPJ.out.pl]; exact hltj
              obtain ⟨A0, c0, e0, o0, f0, _⟩ := hP.slot (i := 0) (by decide)
              obtain ⟨g1, cc1, e1, o1, f1, k1, l1, _⟩ := hP.at_ (i := 1) (j := j) (by decide) hjp
              have hl0 : (dj.f 0).length = dj.row.length := rfl
              rw [hl0] at o0
              have hjn : (j : Int) < ((dj.f 1).length : Int) := by omega
              have HPV := Lib.hid hP
              have HE1 := Lib.hid e1
              have HJP : Hid (j < dj.place.length) := hjp
              generalize (dj.f 1).length = n1 at *
              generalize (dj.f 1).getD j 0 = z at k1
              clear HX hcond hP e0 e1 hl0 hjp HP
              go_wp2_with fail
              go_region
              have P1 : PtV (wr.setCell ⟨g1, j, none⟩ (.int .i64 (dj.row.length : Int))).drew Sj pb vf { dj with place := dj.place.set j (dj.row.length : Int) } := (HPV.out.set_ (i := 1) (by decide) HE1.out HJP.out (dj.row.length : Int)).drew
              have F1 : Frm Sj wr (wr.setCell ⟨g1, j, none⟩ (.int .i64 (dj.row.length : Int))).drew := (HPV.out.set_frm (i := 1) (by decide) HE1.out j (dj.row.length : Int)).drew
              generalize (wr.setCell ⟨g1, j, none⟩ (.int .i64 (dj.row.length : Int))).drew = W4 at P1 F1 ⊢
              have HP4 := Lib.hid P1
              have HF4 := Lib.hid F1
              clear P1 F1 o0 f0 o1 f1 k1 l1 q1 q2 q3
              obtain ⟨A0, c0, e0, o0, f0, _⟩ := HP4.out.slot (i := 0) (by decide)
              have hl0 : (({ dj with place := dj.place.set j (dj.row.length : Int) } : A.Pd).f 0).length = dj.row.length := rfl
              have hO := Grp.own HP4.out 0 (by decide)
              rw [e0, hl0] at hO
              rw [hl0] at o0 e0
              have HE0 := Lib.hid e0
              have HO0 := Lib.hid hO
              have HRL : Hid (dj.row.length ≤ 400000) := by have := HPJ.out.rl; have := HKN.out; exact Nat.le_trans ‹_› (by omega)
              obtain ⟨i0, hi0, hz0, hz1, hz2⟩ := info_parts info_int
              clear e0 hO hl0
              go_wp2_with (at_builtin; refine wpList_append_own_at _ rfl _ _ 35 rfl 0 3 i0 (.int .i64 0) 1 8 Try.underlying35 hi0 hz0 hz1 hz2 rfl (by decide) _ _ _ rfl (HO0.out.alloc _) ⟨W4.heap.size, 0, none⟩ 1 1 [.int .i64 (j : Int)] rfl rfl (cell_one_at rfl) (by simp [Value.oneCell']) (by have := HRL.out; unfold maxLen; omega) (by have := HRL.out; omega) (Nat.zero_le _) ?_)
              intro v' w5 hown1 hgrow _ hat
              obtain ⟨A9, c9, rfl⟩ := own_form hown1
              obtain ⟨Q1, F5, p1, r1⟩ := HP4.out.app (i := 0) (by decide) HE0.out hown1 hgrow hat (by simp)
              have HP5 : Hid (Pt (w5.setCell ⟨pb, 0, none⟩ (.slice A9 (dj.row.length + 1) c9)) (fun b => (Sj b ∨ W4.heap.size ≤ b) ∧ b < (w5.setCell ⟨pb, 0, none⟩ (.slice A9 (dj.row.length + 1) c9)).heap.size) pb (A.endTo m al f d0 (j + 1))) := by
                rw [HX2.out]
                exact ⟨_, Grp.mono Q1 fun b hb hs => ⟨hs, hb⟩⟩
              have hbl : bl < wr.heap.size := HT.out.lt
              have h45 := F5.1
              have h4r := HF4.out.1
              have HS5 : Hid (∀ b, ((Sj b ∨ W4.heap.size ≤ b) ∧ b < (w5.setCell ⟨pb, 0, none⟩ (.slice A9 (dj.row.length + 1) c9)).heap.size) → w.heap.size + 1 ≤ b ∧ b < (w5.setCell ⟨pb, 0, none⟩ (.slice A9 (dj.row.length + 1) c9)).heap.size ∧ b ≠ bl) := fun b hb => by
                have hw : w.heap.size < wr.heap.size := HB.out.lt
                rcases hb.1 with h | h
                · exact ⟨(HS.out b h).1, hb.2, (HS.out b h).2.2⟩
                · exact ⟨by omega, hb.2, by omega⟩
              have FJ : Frm Sj wr (w5.setCell ⟨pb, 0, none⟩ (.slice A9 (dj.row.length + 1) c9)) := HF4.out.trans F5
              have HT5 := Lib.hid (FJ.blk HT.out fun h => (HS.out _ h).2.2 rfl)
              have HB5 := Lib.hid (FJ.blk HB.out fun h => by have := (HS.out _ h).1; omega)
              have HF5 : Hid (Frm (fun _ => False) w (w5.setCell ⟨pb, 0, none⟩ (.slice A9 (dj.row.length + 1) c9))) := Frm.mono (E := fun b => w.heap.size + 1 ≤ b) ((HF.out.mono fun _ _ h => h.elim).trans (FJ.mono fun b _ h => (HS.out b h).1)) fun b hb h => by omega
              clear Q1 F5 FJ hown1 hgrow hat hbl h45 h4r
              go_wp2_with fail
              go_roundg (N + 1 - (j + 1))
              case measure => omega
              case rel => exact ⟨j + 1, _, by omega, rfl, by go_num, HP5, HS5, HT5, HB5, HF5⟩
            · have HX2 : Hid (A.endTo m al bv d0 (j + 1) = dj) := show _ = _ by rw [HX.out, if_neg hcond]
              have HP5 : Hid (Pt wr Sj pb (A.endTo m al bv d0 (j + 1))) := by rw [HX2.out]; exact HP
              clear HX
              cases a with
              | false =>
                clear hcond
                go_wp2_with fail
                go_roundg (N + 1 - (j + 1))
                case measure => omega
                case rel => exact ⟨j + 1, _, by omega, rfl, by go_num, HP5, HS, HT, HB, HF⟩
              | true =>
                have hfb : (f == bv) = false := by simpa using hcond
                clear hcond
                go_wp2_with fail
                go_roundg (N + 1 - (j + 1))
                case measure => omega
                case rel => exact ⟨j + 1, _, by omega, rfl, by go_num, HP5, HS, HT, HB, HF⟩
          · have hltj' : ¬ (j : Int) < (N : Int) := by omega
            obtain rfl : j = N := by omega
            have HPJ : Hid (A.Pi j (B + j) (A.endTo m al bv d0 j)) := A.endTo_pi HPI.out j (Nat.le_refl _)
            have HRR : Hid (A.roundB m al bv d0 = if d0.row.length < (A.endTo m al bv d0 j).row.length then (A.endTo m al bv d0 j).added d0.row.length (A.endTo m al bv d0 j).row.length else A.endTo m al bv d0 j) := show _ = _ by unfold A.roundB; rw [← HN.out]
            generalize A.endTo m al bv d0 j = dj at *
            obtain ⟨vf, hP⟩ := HP.out
            obtain ⟨A0, c0, e0, o0, f0, _⟩ := hP.slot (i := 0) (by decide)
            have hl0 : (dj.f 0).length = dj.row.length := rfl
            rw [hl0] at o0
            clear hP e0 hl0
            by_cases hbe : d0.row.length < dj.row.length
            · have hbe' : (d0.row.length : Int) < (dj.row.length : Int) := by omega
              go_wp2_with fail
              have hbig : B + j + 1 ≤ 1000000000 := by have := HKN.out; exact Nat.le_trans (Nat.add_le_add_right (Nat.add_le_add_right ‹_› _) _) (by omega)
              have HBIG := Lib.hid hbig
              clear hbig
              refine (add_any (b := d0.row.length) (e := dj.row.length) HP.out ⟨hbe, Nat.le_refl _, fun i _ h2 => HPJ.out.row_at h2, by have := HPJ.out.rl; have := HBIG.out; omega, by have := HPJ.out.bl; have := HBIG.out; omega, by have := HPJ.out.fl; have := HBIG.out; omega, by have := HPJ.out.ml; have := HBIG.out; omega⟩).mono ?_
              rintro _ w5 ⟨rfl, Q1, F5⟩
              have h45 := F5.1
              have HP5 : Hid (Pt w5 (fun b => (Sj b ∨ wr.heap.size ≤ b) ∧ b < w5.heap.size) pb (A.stage m al (k + 1))) := by
                rw [HR.out, HRR.out, if_pos hbe]
                exact Q1.mono fun b hb hs => ⟨hs, hb⟩
              have hbl : bl < wr.heap.size := HT.out.lt
              have HS5 : Hid (∀ b, ((Sj b ∨ wr.heap.size ≤ b) ∧ b < w5.heap.size) → w.heap.size + 1 ≤ b ∧ b < w5.heap.size ∧ b ≠ bl) := fun b hb => by
                have hw : w.heap.size < wr.heap.size := HB.out.lt
                rcases hb.1 with h | h
                · exact ⟨(HS.out b h).1, hb.2, (HS.out b h).2.2⟩
                · exact ⟨by omega, hb.2, by omega⟩
              have HT5 := Lib.hid (F5.blk HT.out fun h => (HS.out _ h).2.2 rfl)
              have HB5 := Lib.hid (F5.blk HB.out fun h => by have := (HS.out _ h).1; omega)
              have HF5 : Hid (Frm (fun _ => False) w w5) := Frm.mono (E := fun b => w.heap.size + 1 ≤ b) ((HF.out.mono fun _ _ h => h.elim).trans (F5.mono fun b _ h => (HS.out b h).1)) fun b hb h => by omega
              clear Q1 F5 hbl h45 o0 f0
              go_wp2_with fail
              go_roundg (3 - (k + 1))
              case measure => omega
              case rel => exact ⟨k + 1, _, by omega, rfl, by go_num, HP5, HS5, HT5, HB5, HF5⟩
            · have hbe' : ¬ (d0.row.length : Int) < (dj.row.length : Int) := by omega
              have HP5 : Hid (Pt wr Sj pb (A.stage m al (k + 1))) := by
                rw [HR.out, HRR.out, if_neg hbe]
                exact HP
              go_wp2_with fail
              go_roundg (3 - (k + 1))
              case measure => omega
              case rel => exact ⟨k + 1, _, by omega, rfl, by go_num, HP5, HS, HT, HB, HF⟩
      · have hlt' : ¬ (k : Int) < 2 := by omega
        obtain rfl : k = 2 := by omega
        have HPI : Hid (A.Pi N (2 * (N + 1)) (A.stage m al 2)) := by have := A.stage_pi m al 2; rw [← HN.out] at this; exact this
        have HBE : Hid (A.byEndP m al = { A.stage m al 2 with cls := A.deadTo al (A.stage m al 2).cls N }) := show _ = _ by rw [HN.out]; rfl
        generalize A.stage m al 2 = d0 at *
        have HP0 : Hid (Pt wr Sk pb { d0 with cls := A.deadTo al d0.cls 0 }) := HP
        have HS0 : Hid (∀ b, Sk b → w.heap.size + 1 ≤ b) := fun b h => (HS.out b h).1
        clear HP HS HT HB hk hlt hlt'
        go_wp2_with fail
        go_loopg [88] (N + 1) (fun n i wr => ∃ j : Nat, j ≤ N ∧ n = N + 1 - j ∧ i = .int .i64 (j : Int) ∧ Hid (Pt wr Sk pb { d0 with cls := A.deadTo al d0.cls j }) ∧ Hid (Frm (fun _ => False) w wr))
        case atStart => exact ⟨0, Nat.zero_le _, rfl, rfl, HP0, HF⟩
        case round =>
          clear HP0 HF
          obtain ⟨j, hj, rfl, rfl, HP, HF⟩ := hrel
          by_cases hltj : j < N
          · have hltj' : (j : Int) < (N : Int) := by omega
            have q2 := HF.out.cell id ((HA.out.cell j).trans (boolCs_getD (by rw [HAL.out]; exact hltj)))
            have HX : Hid (A.deadTo al d0.cls (j + 1) = if al.getD j false then A.deadTo al d0.cls j else (A.deadTo al d0.cls j).set j (-1)) := rfl
            generalize al.getD j false = a at *
            cases a with
            | true =>
              have HP5 : Hid (Pt wr Sk pb { d0 with cls := A.deadTo al d0.cls (j + 1) }) := by rw [HX.out]; exact HP
              clear HX
              go_wp2_with fail
              go_roundg (N + 1 - (j + 1))
              case measure => omega
              case rel => exact ⟨j + 1, by omega, rfl, by go_num, HP5, HF⟩
            | false =>
              obtain ⟨vf, hP⟩ := HP.out
              have hjc : j < (A.deadTo al d0.cls j).length := by rw [A.deadTo_len, HPI.out.cl]; exact hltj
              obtain ⟨g2, cc2, e2, o2, f2, k2, l2, _⟩ := hP.at_ (i := 2) (j := j) (by decide) hjc
              have HP5 : Hid (Pt (wr.setCell ⟨g2, j, none⟩ (.int .i64 (-1))) Sk pb { d0 with cls := A.deadTo al d0.cls (j + 1) }) := by
                rw [HX.out]
                exact ⟨vf, hP.set_ (i := 2) (by decide) e2 hjc (-1)⟩
              have HF5 : Hid (Frm (fun _ => False) w (wr.setCell ⟨g2, j, none⟩ (.int .i64 (-1)))) := Frm.mono (E := fun b => w.heap.size + 1 ≤ b) ((HF.out.mono fun _ _ h => h.elim).trans ((hP.set_frm (i := 2) (by decide) e2 j (-1)).mono fun b _ h => HS0.out b h)) fun b hb h => by omega
              have hjn : (j : Int) < (((({ d0 with cls := A.deadTo al d0.cls j } : A.Pd).f 2).length : Nat) : Int) := by have : j < (({ d0 with cls := A.deadTo al d0.cls j } : A.Pd).f 2).length := hjc; omega
              generalize (({ d0 with cls := A.deadTo al d0.cls j } : A.Pd).f 2).length = n2 at *
              generalize (({ d0 with cls := A.deadTo al d0.cls j } : A.Pd).f 2).getD j 0 = z at k2
              clear HX hP e2 hjc
              go_wp2_with fail
              go_roundg (N + 1 - (j + 1))
              case measure => omega
              case rel => exact ⟨j + 1, by omega, rfl, by go_num, HP5, HF5⟩
          · have hltj' : ¬ (j : Int) < (N : Int) := by omega
            obtain rfl : j = N := by omega
            have HP5 : Hid (Pt wr Sk pb (A.byEndP m al)) := by rw [HBE.out]; exact HP
            go_wp2_with fail
            go_ret
            exact ⟨pb, rfl, HP5.out.mono fun b _ h => by have := HS0.out b h; omega, HF.out⟩)
end Go.Proofs.Ytmoniecknimmdaa
end
section
namespace Go.Proofs.Ytmoniecknimmdaa
open Go.RowKit
section
variable {P : Program} {Q : Exit → Act → World → Prop}
theorem getD_push {l : Array Bool} {m i : Nat} {d : Bool} (h : l.size = m) (hi : i ≠ m) : (l.push true).getD i d = l.getD i d := by
  simp only [Array.getD_eq_getD_getElem?, Array.getElem?_push, h, hi, if_false]
theorem ready_push {L : List Oper} {m : Nat} (hL : L.length = m + 1) (hno : ∀ o ∈ L.take m, ∀ e ∈ o.after, e.on ≠ m) {listed : Array Bool} (hs : listed.size = m) : Region.ready .any L.toArray (listed.push true) = Region.ready .any (L.take m).toArray listed := by
  unfold Region.ready
  have e1 : L.toArray.size = m + 1 := by simpa using hL
  have e2 : (L.take m).toArray.size = m := by simp [hL]
  rw [e1, e2, List.range_succ, List.filter_append]
  have e3 : ([m].filter fun i => !(listed.push true).getD i true && ((L.toArray[i]?).map (·.after.all fun e => !Region.binds .any e || (listed.push true).getD e.on false)).getD false) = [] := by
    have : (listed.push true).getD m true = true := by subst hs; simp
    simp only [List.filter_cons, this, Bool.not_true, Bool.false_and, Bool.false_eq_true, if_false, List.filter_nil]
  rw [e3, List.append_nil]
  apply List.filter_congr
  intro i hi
  have him : i < m := List.mem_range.1 hi
  rw [getD_push hs (by omega)]
  have e4 : L.toArray[i]? = (L.take m).toArray[i]? := by simp [him]
  rw [e4]
  cases ho : (L.take m).toArray[i]? with
  | none => rfl
  | some o =>
    have hmem : o ∈ L.take m := by
      have : (L.take m)[i]? = some o := by simpa using ho
      exact List.mem_of_getElem? this
    congr 1
    simp only [Option.map_some, Option.getD_some]
    rw [Bool.eq_iff_iff]
    simp only [Array.all_eq_true_iff_forall_mem]
    constructor
    · intro h e he
      have := h e he
      rwa [getD_push hs (hno o hmem e he)] at this
    · intro h e he
      rw [getD_push hs (hno o hmem e he)]
      exact h e he
theorem wpAny_push {L : List Oper} {m : Nat} (hL : L.length = m + 1) (hno : ∀ o ∈ L.take m, ∀ e ∈ o.after, e.on ≠ m) (hg : ∀ o ∈ L, o.guard = none) : ∀ (fuel : Nat) (listed : Array Bool) (a : Act) (w : World), listed.size = m → wpAny P .any (L.take m).toArray Q fuel listed a w → wpAny P .any L.toArray Q fuel (listed.push true) a w
  | 0, listed, a, w, hs, h => by
    unfold wpAny at h ⊢
    rw [ready_push hL hno hs]
    exact h
  | fuel + 1, listed, a, w, hs, h => by
    unfold wpAny at h ⊢
    rw [ready_push hL hno hs]
    refine ⟨h.1, fun i hi => ?_⟩
    have h1 := h.2 i hi
    have him : i < m := by
      have := (List.mem_filter.1 hi).1
      have e2 : (L.take m).toArray.size = m := by simp [hL]
      rw [e2] at this
      exact List.mem_range.1 this
    have e4 : L.toArray[i]? = (L.take m).toArray[i]? := by simp [him]
    have e5 : (listed.push true).setIfInBounds i true = (listed.setIfInBounds i true).push true := by
      apply Array.toList_inj.1
      simp only [Array.toList_setIfInBounds, Array.toList_push]
      rw [List.set_append_left _ _ (by simpa [hs] using him)]
    unfold wpOp at h1 ⊢
    rw [e4]
    cases ho : (L.take m).toArray[i]? with
    | none =>
      rw [ho] at h1
      rw [e5]
      exact wpAny_push hL hno hg fuel _ a w (by simpa using hs) h1
    | some o =>
      rw [ho] at h1
      dsimp only at h1 ⊢
      have hmem : o ∈ L := by
        have : (L.take m)[i]? = some o := by simpa using ho
        exact List.mem_of_mem_take (List.mem_of_getElem? this)
      have hw : ∀ ops : Array Oper, Region.wanted o (yielded ops a.tmps) = true := fun ops => by simp [Region.wanted, hg o hmem]
      rw [if_pos (hw _)] at h1 ⊢
      rcases h1 with h1 | h1
      · refine .inl (Oper.wp_mono (fun a' w' h' => ?_) h1)
        rw [e5]
        exact wpAny_push hL hno hg fuel _ a' w' (by simpa using hs) h'
      · exact .inr h1
theorem wp_region_still_last {id : Nat} {a : Act} {w : World} {L : List Oper} {ol : Oper} {v : Value} (n m : Nat) (hm : P.follows .mixedOrders = true) (hL : L.length = m + 1) (hi : L.toArray[m]? = some ol)
    (hns : Region.noSelect L.toArray = true) (hfree : Region.free .any L.toArray (Array.replicate L.toArray.size false) m = true) (hr : (Region.ready .any L.toArray (Array.replicate L.toArray.size false)).contains m = true)
    (hno : (L.take m).all (fun o => o.after.all fun e => e.on != m) = true) (hg : L.all (fun o => o.guard.isNone) = true)
    (hQ : ∀ c a w, Q (.panic c) (a.put ol.dst v) w → Q (.panic c) a w) (hy : Yields P L.toArray ol v a) (hB : Region.lexTailB .any (L.take m).toArray n = true)
    (h : wpStill P (L.take m).toArray { w with drawn := w.drawn + 1 } (fun a' => wpList P (L.take m).toArray Q ((L.take m).drop n) a' { w with drawn := w.drawn + 1 }) ((L.take m).take n) (a.put ol.dst v)) : (Code.region id L.toArray true).wp P Q a w := by
  have hno' : ∀ o ∈ L.take m, ∀ e ∈ o.after, e.on ≠ m := fun o ho e he => by
    have h1 := List.all_eq_true.1 hno o ho
    have h2 := Array.all_eq_true_iff_forall_mem.1 h1 e he
    simpa using h2
  have hg' : ∀ o ∈ L, o.guard = none := fun o ho => by simpa using List.all_eq_true.1 hg o ho
  have hsz : L.toArray.size = m + 1 := by simpa using hL
  refine wp_region_any hm ?_
  rw [hsz]
  rw [hsz] at hfree hr
  refine wpAny_take (i := m) hi hns hfree hr hQ hy ?_
  have e6 : (Array.replicate (m + 1) false).setIfInBounds m true = (Array.replicate m false).push true := by
    apply Array.toList_inj.1
    simp only [Array.toList_setIfInBounds, Array.toList_push, Array.toList_replicate]
    rw [List.replicate_succ', List.set_append_right _ _ (by simp)]
    simp
  rw [e6]
  refine wpAny_push hL hno' hg' m _ _ _ (by simp) ?_
  obtain ⟨l, hl⟩ : ∃ l, l = L.take m := ⟨_, rfl⟩
  rw [← hl] at h hB ⊢
  have hlm : l.length = m := by rw [hl, List.length_take]; omega
  have hB2 := hB
  simp only [Region.lexTailB, Bool.and_eq_true, decide_eq_true_eq] at hB
  obtain ⟨⟨⟨⟨hsel, hn⟩, hs⟩, hc⟩, hlex⟩ := hB
  have hn' : n < l.length := by simpa using hn
  have H := wpAnyL_lex (P := P) (w := { w with drawn := w.drawn + 1 }) (md := .any) (g := l.toArray.size - n) hsel hs hc hn (l.take n) 0 (Array.replicate l.toArray.size false) (a.put ol.dst v)
    (fun j hj => by have : j < n := by rw [List.length_take] at hj; omega
                    simp [this])
    (by rw [List.length_take]; omega)
    ⟨by simp, fun j oj _ hl => (by rw [getD_replicate_false] at hl; cases hl), fun t _ ht => getD_in (by simpa using ht) (getD_replicate_false _ _)⟩
    (by rw [List.length_take, Nat.min_eq_left (Nat.le_of_lt hn')]; exact hlex) h
  have H2 := wpAny_of_head (Q' := Q) (g := l.toArray.size - n) (fun listed a' hq => by
    have h3 := wpAny_of_seq (md := .any) (Q' := Q) (l.drop n) n listed a' { w with drawn := w.drawn + 1 } (fun j => by simp [List.getElem?_drop]) (by rw [List.length_drop]; simpa using hq.1) hq.2
    rw [List.length_drop] at h3
    simpa using h3) _ _ _ H
  have e7 : (l.take n).length + (l.toArray.size - n) = m := by simp; omega
  have e8 : l.toArray.size = m := by simpa using hlm
  rw [e7, e8] at H2
  exact H2
end
end Go.Proofs.Ytmoniecknimmdaa
end
