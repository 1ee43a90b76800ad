/- Check. wordOf: up to the reversal. difference. Plain facts of pairs that a check takes: both machines accept the same words, and the search for a difference finds none. Plain facts of the joined states: what the row of next ones says is just what the pairs that were joined say. Plain facts of the search for a difference: it finds the least word, by length and order, that tells two machines apart, or there is none. Plain: what machines do that do the same step by step tells the same words apart. difference finds the least word that tells two machines apart, or there is none. Contracts of the program's functions, with no condition beyond what each theorem states. -/
import Derived.Test.YtiekaicbjinbaaaC03
import Derived.Test.YtiekaicbjinbaaaShelf
section
namespace Go.Proofs.Ytiekaicbjinbaaa
open Go.RowKit
namespace A
def check (a b : Mac) (l : List Pr) : Int := if fit a b = 0 then (if isRel a b l then (if shows a b l then 0 else 8) else 2) else fit a b
theorem relFrom_in {a b : Mac} : ∀ {l : List Pr} {last : Pr}, relFrom a b last l = true → ∀ p ∈ l, InP a b p
  | [], _, _, p, hp => by cases hp
  | q :: l, last, h, p, hp => by
    unfold relFrom at h
    simp only [Bool.and_eq_true] at h
    obtain ⟨h1, _, h3⟩ := h
    rcases List.mem_cons.1 hp with rfl | hp
    · exact okPair_in.1 h1
    · exact relFrom_in h3 p hp
end A
/-- What a run with two machines keeps: their boxes. -/
structure Bx (w0 w : World) (ca cb : Array Value) : Prop where
  fr : Frm (fun _ => False) w0 w
  ba : Blk w w0.heap.size 25 ca
  bb : Blk w (w0.heap.size + 1) 25 cb
theorem Bx.call {w0 w w' : World} {ca cb : Array Value} (h : Bx w0 w ca cb) (F : Frm (fun _ => False) w w') : Bx w0 w' ca cb := ⟨h.fr.trans F, F.blk h.ba id, F.blk h.bb id⟩
theorem Bx.new (w0 : World) (ca cb : Array Value) : Bx w0 ((w0.alloc (.cells ca 25)).alloc (.cells cb 25)) ca cb :=
  ⟨((Frm.refl _ w0).alloc _).alloc _, (Blk.new w0 _ _).alloc _, blk_at (by simp)⟩
set_option maxRecDepth 100000 in
set_option maxHeartbeats 4000000 in
theorem check_any {w : World} {P Q R : Nat → Prop} {v v' vl : Value} {a b : A.Mac} {l : List A.Pr} (h : MachAt w P v a) (h' : MachAt w Q v' b) (hl : Prs2 w R vl l) (hs : Sized a) (hs' : Sized b) (hll : l.length ≤ maxLen) :
    Calls Try.prog 14 #[v, v', vl] w fun e w' => e = .returned (.int .i64 (A.check a b l)) ∧ Frm (fun _ => False) w w' := by
  obtain ⟨A1, c1, A2, c2, rfl⟩ := h.form
  obtain ⟨B1, d1, B2, d2, rfl⟩ := h'.form
  obtain ⟨AL, cl, rfl, hL⟩ := id hl
  have HF0 : Hid (Bx w _ (macC a A1 c1 A2 c2) (macC b B1 d1 B2 d2)) := Bx.new w _ _
  have HM := Lib.hid h
  have HM' := Lib.hid h'
  have HL := Lib.hid hl
  have HSZ := Lib.hid hs
  have HSZ' := Lib.hid hs'
  have HLL := Lib.hid hll
  have HX : Hid (A.check a b l = if A.fit a b = 0 then (if A.isRel a b l then (if A.shows a b l then 0 else 8) else 2) else A.fit a b) := rfl
  clear h h' hl hs hs' hll hL
  have e0 := HF0.out.ba.cell 0
  have e1 := HF0.out.ba.cell 1
  have e2 := HF0.out.ba.cell 2
  have e3 := HF0.out.ba.cell 3
  have g0 := HF0.out.bb.cell 0
  have g1 := HF0.out.bb.cell 1
  have g2 := HF0.out.bb.cell 2
  have g3 := HF0.out.bb.cell 3
  simp only [macC] at e0 e1 e2 e3 g0 g1 g2 g3
  go_enter Try.func14, Try.ntmps14
  go_wp2_with fail
  clear e0 e1 e2 e3 g0 g1 g2 g3
  refine (fit_any (HM.out.keep0 HF0.out.fr) (HM'.out.keep0 HF0.out.fr) HSZ.out HSZ'.out).mono ?_
  rintro _ w1 ⟨rfl, f1⟩
  have HF1 := Lib.hid (HF0.out.call f1)
  have HT : Hid (A.fit a b = 0 → A.Two a b) := A.fit_two
  clear f1
  generalize A.fit a b = ft at *
  by_cases hf : ft = 0
  · subst hf
    have HT1 := Lib.hid (HT.out rfl)
    have HI : Hid (A.isRel a b l = true → ∀ p ∈ l, A.InP a b p) := A.relFrom_in
    have e0 := HF1.out.ba.cell 0
    have e1 := HF1.out.ba.cell 1
    have e2 := HF1.out.ba.cell 2
    have e3 := HF1.out.ba.cell 3
    have g0 := HF1.out.bb.cell 0
    have g1 := HF1.out.bb.cell 1
    have g2 := HF1.out.bb.cell 2
    have g3 := HF1.out.bb.cell 3
    simp only [macC] at e0 e1 e2 e3 g0 g1 g2 g3
    go_wp2_with fail
    clear e0 e1 e2 e3 g0 g1 g2 g3
    refine (isRel_any (HM.out.keep0 HF1.out.fr) (HM'.out.keep0 HF1.out.fr) (HL.out.keep HF1.out.fr fun _ _ => id) HT1.out.na HT1.out.nb HLL.out).mono ?_
    rintro _ w2 ⟨rfl, f2⟩
    have HF2 := Lib.hid (HF1.out.call f2)
    clear f2
    generalize A.isRel a b l = rl at *
    cases rl with
    | false =>
      go_wp2_with fail
      go_ret
      exact ⟨ret_int (by rw [HX.out]; rfl), HF2.out.fr⟩
    | true =>
      have HI1 := Lib.hid (HI.out rfl)
      have e0 := HF2.out.ba.cell 0
      have e1 := HF2.out.ba.cell 1
      have e2 := HF2.out.ba.cell 2
      have e3 := HF2.out.ba.cell 3
      have g0 := HF2.out.bb.cell 0
      have g1 := HF2.out.bb.cell 1
      have g2 := HF2.out.bb.cell 2
      have g3 := HF2.out.bb.cell 3
      simp only [macC] at e0 e1 e2 e3 g0 g1 g2 g3
      go_wp2_with fail
      clear e0 e1 e2 e3 g0 g1 g2 g3
      refine (shows_any (HM.out.keep0 HF2.out.fr) (HM'.out.keep0 HF2.out.fr) (HL.out.keep HF2.out.fr fun _ _ => id) HT1.out HI1.out HLL.out).mono ?_
      rintro _ w3 ⟨rfl, f3⟩
      have HF3 := Lib.hid (HF2.out.call f3)
      clear f3
      generalize A.shows a b l = sh at *
      cases sh with
      | false =>
        go_wp2_with fail
        go_ret
        exact ⟨ret_int (by rw [HX.out]; rfl), HF3.out.fr⟩
      | true =>
        go_wp2_with fail
        go_ret
        exact ⟨ret_int (by rw [HX.out]; rfl), HF3.out.fr⟩
  · have hb : (ft != 0) = true := by rw [bne_iff_ne]; exact hf
    have HY : Hid (A.check a b l = ft) := show _ = _ by rw [HX.out, if_neg hf]
    clear hf
    go_wp2_with fail
    go_ret
    exact ⟨ret_int HY.out.symm, HF1.out.fr⟩
end Go.Proofs.Ytiekaicbjinbaaa
end
section
namespace Go.Proofs.Ytiekaicbjinbaaa
open Go.RowKit
namespace A
structure Tr where
  p : Pr
  before : Int
  letter : Int
/-- The letters back from a trail; none if the steps do not suffice or a number is no trail. -/
def back : Nat → List Tr → Int → List Int → Option (List Int)
  | 0, _, _, _ => none
  | f + 1, ts, at_, acc =>
    if at_ ≤ 0 then some acc
    else if h : at_.toNat < ts.length then back f ts ts[at_.toNat].before (acc ++ [ts[at_.toNat].letter]) else none
def wordO (f : Nat) (ts : List Tr) : Option (List Int) := (back f ts ((ts.length : Int) - 1) []).map List.reverse
end A
def trC (t : A.Tr) : List Value := [.int .i64 t.p.1, .int .i64 t.p.2, .int .i64 t.before, .int .i64 t.letter]
theorem trC_get : ∀ (ts : List A.Tr) (k i : Nat) (hk : k < ts.length), i < 4 → (ts.flatMap trC)[k * 4 + i]? = (trC ts[k])[i]?
  | t :: ts, 0, i, _, hi => by
    rw [List.flatMap_cons, Nat.zero_mul, Nat.zero_add, List.getElem?_append_left (by simpa [trC] using hi)]
    rfl
  | t :: ts, k + 1, i, hk, hi => by
    rw [List.flatMap_cons, List.getElem?_append_right (by simp only [trC, List.length_cons, List.length_nil]; omega)]
    have e : (k + 1) * 4 + i - (trC t).length = k * 4 + i := by simp only [trC, List.length_cons, List.length_nil]; omega
    rw [e, trC_get ts k i (by simpa using hk) hi]
    rfl
theorem add_zero_off (g j : Nat) : (⟨g, 0, none⟩ : Addr).add j = ⟨g, j, none⟩ := by unfold Addr.add; split <;> simp_all
/-- The trails that were found. -/
def Trs (w : World) (base : Nat) (v : Value) (ts : List A.Tr) : Prop := w.ownsRow base 81 4 v ts.length (ts.flatMap trC)
theorem Trs.at_ {w : World} {base : Nat} {TA : Option Addr} {c : Nat} {ts : List A.Tr} (h : Trs w base (.slice TA ts.length c) ts) {k : Nat} (hk : k < ts.length) : ∃ g, TA = some ⟨g, 0, none⟩ ∧ base ≤ g ∧ w.cell? ⟨g, k * 4, none⟩ = some (.int .i64 ts[k].p.1) ∧ w.cell? ⟨g, k * 4 + 1, none⟩ = some (.int .i64 ts[k].p.2) ∧ w.cell? ⟨g, k * 4 + 2, none⟩ = some (.int .i64 ts[k].before) ∧ w.cell? ⟨g, k * 4 + 3, none⟩ = some (.int .i64 ts[k].letter) := by
  rcases h.2 with ⟨e, hn⟩ | ⟨g, cap, cur, e, hb, _⟩
  · omega
  · injection e with e1 e2 e3
    subst e1
    have hc := @World.ownsRow.cells _ _ _ _ _ _ _ h g rfl
    have key : ∀ i (hi : i < 4) u, (trC ts[k])[i]? = some u → w.cell? ⟨g, k * 4 + i, none⟩ = some u := fun i hi u hu => by
      have this := hc (k * 4 + i) u (by rw [trC_get ts k i hk hi]; exact hu)
      rwa [add_zero_off] at this
    exact ⟨g, rfl, hb, key 0 (by omega) _ rfl, key 1 (by omega) _ rfl, key 2 (by omega) _ rfl, key 3 (by omega) _ rfl⟩
theorem own_form {w : World} {base size n : Nat} {e : TypeId} {v : Value} {xs : List Value} (h : w.ownsRow base e size v n xs) : ∃ A c, v = .slice A n c := by
  rcases h.2 with ⟨rfl, hn⟩ | ⟨g, cap, cur, rfl, _⟩
  · exact ⟨none, 0, by rw [hn]⟩
  · exact ⟨_, cap, rfl⟩
theorem own_ge {w : World} {base size n : Nat} {e : TypeId} {v : Value} {xs : List Value} (h : w.ownsRow base e size v n xs) : ∀ g, v.ownBlock = some g → base ≤ g := by
  intro g hg
  rcases h.2 with ⟨rfl, hn⟩ | ⟨g', cap, cur, rfl, h1, _⟩
  · cases hg
  · simp only [Value.ownBlock, Option.some.injEq] at hg
    omega
theorem Frm.setCells {E : Nat → Prop} {w : World} {g : Nat} (hE : g < w.heap.size → E g) : ∀ (vs : List Value) (o : Nat) (w' : World), Frm E w w' → Frm E w (w'.setCells g o vs)
  | [], _, _, F => F
  | v :: r, o, w', F => by
    unfold World.setCells
    exact Frm.setCells hE r (o + 1) _ (F.set_ (p := ⟨g, o, none⟩) hE v)
theorem reverse_any {w : World} {base : Nat} {u : Value} {l : List Int} (h : w.ownsRow base 3 1 u l.length (l.map fun x => Value.int .i64 x)) (hl : l.length ≤ 1000000000) :
    Calls Try.prog 67 #[u] w fun e w' => e = .returned (.tuple #[]) ∧ Ints w' (fun b => base ≤ b) u l.reverse ∧ Frm (fun b => base ≤ b) w w' := by
  have hc := @World.ownsRow.cells _ _ _ _ _ _ _ h
  rcases h.2 with ⟨rfl, hn⟩ | ⟨g, cap, cur, rfl, hb, hx, h1, h2, h3, h4⟩
  · obtain rfl : l = [] := List.length_eq_zero_iff.1 hn
    refine (Try.slices_Reverse_int_empty none 0 w).mono ?_
    rintro e w' ⟨rfl, rfl⟩
    exact ⟨rfl, ⟨none, 0, rfl, fun k hk => by simp at hk⟩, Frm.refl _ _⟩
  · have hcell : ∀ j, j < l.length → w.cell? ⟨g, 0 + j, none⟩ = some (.int .i64 (l.getD j 0)) := fun j hj => by
      have this := hc rfl j (.int .i64 (l.getD j 0)) (by simp [hj])
      rw [add_zero_off] at this
      rwa [Nat.zero_add]
    refine (Try.slices_Reverse_int_cells g 0 l.length cap l w (Nat.le_refl _) (by omega) hcell (fun j hj => Blk.frozen (cs := cur) hx _)).mono ?_
    rintro e w' ⟨rfl, q, rfl⟩
    rw [List.take_length]
    refine ⟨rfl, ⟨some ⟨g, 0, none⟩, cap, by rw [List.length_reverse], fun k hk => ⟨g, 0, rfl, hb, ?_⟩⟩, Frm.setCells (fun _ => hb) _ _ _ ((Frm.refl _ w).drewN q)⟩
    have hk' : k < l.length := by simpa using hk
    have := World.cell?_setCells_in g (l.reverse.map (Value.int .i64)) 0 (w.drewN q) (fun j hj => by
      have h := hcell j (by simpa using hj)
      have h' : (w.drewN q).cell? ⟨g, 0 + j, none⟩ = _ := h
      rw [h']; rfl) k (by simpa using hk')
    rw [this]
    simp
set_option maxRecDepth 100000 in
set_option maxHeartbeats 4000000 in
theorem wordOf_any {w : World} {base f : Nat} {v : Value} {ts : List A.Tr} {l : List Int} (h : Trs w base v ts) (he : A.wordO f ts = some l) (hlen : ts.length ≤ 1000000000) (hf : f ≤ 1000000000) :
    Calls Try.prog 50 #[v] w fun e w' => ∃ u, e = .returned u ∧ Ints w' (fun b => w.heap.size ≤ b) u l ∧ Frm (fun _ => False) w w' := by
  obtain ⟨TA, tc, rfl⟩ := own_form h
  have HT := Lib.hid h
  have HE := Lib.hid he
  clear h he
  go_enter Try.func50, Try.ntmps50
  go_wp2_with fail
  have he := HE.out
  unfold A.wordO at he
  rw [Option.map_eq_some_iff] at he
  obtain ⟨l', hb, rfl⟩ := he
  have HB := Lib.hid hb
  clear hb HE
  go_loopg [3, 4] f (fun n u i wr => ∃ (acc : List Int) (at_ : Int), i = .int .i64 at_ ∧ acc.length + n ≤ f ∧ Hid (A.back n ts at_ acc = some l') ∧ Hid (wr.ownsRow w.heap.size 3 1 u acc.length (acc.map fun x => Value.int .i64 x)) ∧ Hid (Frm (fun _ => False) w wr))
  case atStart => exact ⟨[], _, rfl, by simp, HB, World.ownsRow_nil _ _ _ _, Frm.refl _ w⟩
  case round =>
    obtain ⟨acc, at_, rfl, hal, HB, HO, HF⟩ := hrel
    cases gk with
    | zero => exact absurd HB.out (by simp [A.back])
    | succ n =>
    have hb := HB.out
    unfold A.back at hb
    split at hb
    · rename_i hle
      have hle' : ¬ (0 < at_) := by omega
      simp only [Option.some.injEq] at hb
      subst hb
      go_wp2_with fail
      refine (reverse_any HO.out (by omega)).mono ?_
      rintro _ w2 ⟨rfl, hI, f2⟩
      have HI := Lib.hid hI
      have HF2 : Hid (Frm (fun _ => False) w w2) := Frm.mono (E := fun b => w.heap.size ≤ b) ((HF.out.mono fun _ _ h => h.elim).trans f2) fun b hb h => by omega
      clear hI f2
      go_wp2_with fail
      go_ret
      exact ⟨_, rfl, HI.out, HF2.out⟩
    · rename_i hgt
      split at hb
      · rename_i hlt
        obtain ⟨q, rfl⟩ : ∃ q : Nat, at_ = (q : Int) := ⟨at_.toNat, by omega⟩
        simp only [Int.toNat_natCast] at hb hlt
        have hq : (q : Int) < (ts.length : Int) := by omega
        have hq0 : (0 : Int) < (q : Int) := by omega
        obtain ⟨g, rfl, hg, hc0, hc1, hc2, hc3⟩ := HT.out.at_ hlt
        have d2 := HF.out.cell id hc2
        have d3 := HF.out.cell id hc3
        obtain ⟨t, ht⟩ : ∃ t, t = ts[q]'hlt := ⟨_, rfl⟩
        rw [← ht] at d2 d3 hb
        have hc2' := hc2
        rw [← ht] at hc2'
        clear ht
        obtain ⟨⟨t1, t2⟩, bf, lt⟩ := t
        dsimp only at d2 d3 hb hc2'
        have HB2 := Lib.hid hb
        obtain ⟨A0, c0, rfl⟩ := own_form HO.out
        obtain ⟨i0, hi, hz0, hz1, hz2⟩ := info_parts info_int
        clear hb hc0 hc1 hc2 hc3
        go_wp2_with (at_builtin; refine wpList_append_own _ rfl _ _ 28 rfl w.heap.size 3 i0 (.int .i64 0) 1 8 Try.underlying28 hi hz0 hz1 hz2 rfl (by decide) _ _ _ rfl (HO.out.alloc _) ⟨wr.heap.size, 0, none⟩ 1 1 [.int .i64 lt] rfl rfl ?y1 ?y2 ?y3 ?y4 ?y5 ?_)
        case y2 => simp [Value.oneCell']
        case y3 => unfold maxLen; omega
        case y4 => omega
        case y5 => have := HF.out.1; first | omega | (simp; omega)
        intro v' w1 hown1 hgrow _
        have HF1 : Hid (Frm (fun _ => False) w w1) := (HF.out.alloc _).own (HO.out.alloc _) hgrow
        have HO1 : Hid (w1.ownsRow w.heap.size 3 1 v' (acc ++ [lt]).length ((acc ++ [lt]).map fun x => Value.int .i64 x)) := by
          rw [List.length_append, List.map_append]; exact hown1
        have HC2 := Lib.hid hc2'
        clear hown1 hgrow d2 d3 hi hz0 hz1 hz2
        have d2 := HF1.out.cell id HC2.out
        go_wp2_with fail
        go_roundg n
        case measure => omega
        case rel => exact ⟨_, _, rfl, by simp only [List.length_append, List.length_cons, List.length_nil]; omega, HB2, HO1, HF1⟩
      · cases hb
end Go.Proofs.Ytiekaicbjinbaaa
end
section
namespace Go.Proofs.Ytiekaicbjinbaaa
open Go.RowKit
namespace A
def innerO (f : Nat) (a b : Mac) (at_ : Int) (p : Pr) : List Nat → List Int → List Tr → Option (List Int × List Tr × Option Pr)
  | [], j, ts => some (j, ts, none)
  | k :: ks, j, ts => match joinO f a.next.length j (leadP a b p k) with
    | none => none
    | some (j', false) => innerO f a b at_ p ks j' ts
    | some (j', true) => if agree a b (leadP a b p k) then innerO f a b at_ p ks j' (ts ++ [⟨leadP a b p k, at_, k⟩]) else some (j', ts ++ [⟨leadP a b p k, at_, k⟩], some (leadP a b p k))
def outerO (f : Nat) (a b : Mac) : Nat → Nat → List Int → List Tr → Option (Option (List Tr × Pr))
  | fuel, at_, j, ts => if h : at_ < ts.length then (match fuel with
    | 0 => none
    | n + 1 => match innerO f a b at_ ts[at_].p (List.range a.letters.toNat) j ts with
      | none => none
      | some (j', ts', none) => outerO f a b n (at_ + 1) j' ts'
      | some (_, ts', some q) => some (some (ts', q))) else some none
def diffO (f : Nat) (a b : Mac) : Option (Option (List Int × Pr)) :=
  if agree a b (a.start, b.start) then (match joinO f a.next.length (upTo (1 + a.next.length + b.next.length) (1 + a.next.length + b.next.length)) (a.start, b.start) with
    | none => none
    | some (j, _) => match outerO f a b f 0 j [⟨(a.start, b.start), 0, 0⟩] with
      | none => none
      | some none => some none
      | some (some (ts, q)) => (wordO f ts).map fun l => some (l, q))
  else some (some ([], (a.start, b.start)))
end A
/-- What a run of difference keeps: the boxes of its machines and of the pair. -/
structure Dx (w0 w : World) (ca cb : Array Value) (p : A.Pr) : Prop where
  fr : Frm (fun _ => False) w0 w
  ba : Blk w w0.heap.size 25 ca
  bb : Blk w (w0.heap.size + 1) 25 cb
  bp : Blk w (w0.heap.size + 2) 40 #[.int .i64 p.1, .int .i64 p.2]
section
variable {w0 w w' : World} {ca cb : Array Value} {p : A.Pr}
theorem Dx.new (w0 : World) (ca cb : Array Value) : Dx w0 (((w0.alloc (.cells ca 25)).alloc (.cells cb 25)).alloc (.cells #[.int .i64 0, .int .i64 0] 40)) ca cb (0, 0) :=
  ⟨(((Frm.refl _ w0).alloc _).alloc _).alloc _, ((Blk.new w0 _ _).alloc _).alloc _, (blk_at (by simp)).alloc _, blk_at (by simp)⟩
theorem Dx.frm (h : Dx w0 w ca cb p) (F : Frm (fun b => w0.heap.size + 3 ≤ b) w w') : Dx w0 w' ca cb p :=
  ⟨Frm.mono (E := fun b => w0.heap.size + 3 ≤ b) ((h.fr.mono fun _ _ h => h.elim).trans F) fun b hb h => by omega, F.blk h.ba (by omega), F.blk h.bb (by omega), F.blk h.bp (by omega)⟩
theorem Dx.call (h : Dx w0 w ca cb p) (F : Frm (fun _ => False) w w') : Dx w0 w' ca cb p := h.frm (F.mono fun _ _ h => h.elim)
theorem Dx.put (h : Dx w0 w ca cb p) (q : A.Pr) : Dx w0 ((w.setCell ⟨w0.heap.size + 2, 0, none⟩ (.int .i64 q.1)).setCell ⟨w0.heap.size + 2, 1, none⟩ (.int .i64 q.2)) ca cb q := by
  have F := Frm.set2 (w := w) (w0.heap.size + 2) (.int .i64 q.1) (.int .i64 q.2)
  exact ⟨Frm.mono (E := fun b => b = w0.heap.size + 2) ((h.fr.mono fun _ _ h => h.elim).trans F) fun b hb h => by omega, F.blk h.ba (by omega), F.blk h.bb (by omega), (h.bp.set_ 0 _).set_ 1 _⟩
theorem Dx.six {E : Nat → Prop} {w9 : World} (h : Dx w0 w ca cb p) (F : Frm E w9 w) : w.cell? ⟨w0.heap.size + 1 + 1, 0, none⟩ = some (.int .i64 p.1) ∧ w.cell? ⟨w0.heap.size + 1 + 1, 1, none⟩ = some (.int .i64 p.2) ∧ w.frozen? ⟨w0.heap.size + 1 + 1, 0, none⟩ = false ∧ w.frozen? ⟨w0.heap.size + 1 + 1, 1, none⟩ = false ∧ Dx w0 w ca cb p ∧ Frm E w9 w :=
  ⟨h.bp.cell 0, h.bp.cell 1, h.bp.frozen 0, h.bp.frozen 1, h, F⟩
theorem Dx.lt (h : Dx w0 w ca cb p) : w0.heap.size + 3 ≤ w.heap.size := by have := h.bp.lt; omega
end
theorem info_trail : (Try.prog.info? 81).map (fun i => (i.zero, i.size, i.bytes)) = some (some (.agg #[.int .i64 0, .int .i64 0, .int .i64 0, .int .i64 0]), 4, 32) := by kernel_rfl
theorem cell_four_at {w : World} {u v x y : Value} {e : TypeId} {n : Nat} (hn : w.heap.size = n) : ∀ (j : Nat) (z : Value), [u, v, x, y][j]? = some z → (w.alloc (.cells #[u, v, x, y] e)).cell? ((⟨n, 0, none⟩ : Addr).add j) = some z := by
  subst hn
  intro j z hz
  rw [add_zero_off, (Blk.new w e #[u, v, x, y]).cell j]
  simpa using hz
/-- What difference hands back. -/
def DiffPost (w : World) (r : Option (List Int × A.Pr)) (e : Ending) (w' : World) : Prop := match r with
  | none => e = .returned (.tuple #[.slice none 0 0, pairV (0, 0), .bool false]) ∧ Frm (fun _ => False) w w'
  | some (l, q) => ∃ u, e = .returned (.tuple #[u, pairV q, .bool true]) ∧ Ints w' (fun b => w.heap.size ≤ b) u l ∧ Frm (fun _ => False) w w'
set_option maxRecDepth 100000 in
set_option maxHeartbeats 4000000 in
theorem diff_any {w : World} {P Q : Nat → Prop} {v v' : Value} {a b : A.Mac} {f : Nat} {r : Option (List Int × A.Pr)} (h : MachAt w P v a) (h' : MachAt w Q v' b) (ht : A.Two a b) (he : A.diffO f a b = some r) (hf : f ≤ 100000) :
    Calls Try.prog 24 #[v, v'] w (DiffPost w r) := by
  obtain ⟨A1, c1, A2, c2, rfl⟩ := h.form
  obtain ⟨B1, d1, B2, d2, rfl⟩ := h'.form
  have HB0 : Hid (Dx w _ (macC a A1 c1 A2 c2) (macC b B1 d1 B2 d2) (0, 0)) := Dx.new w _ _
  have HM := Lib.hid h
  have HM' := Lib.hid h'
  have HT := Lib.hid ht
  have HE := Lib.hid he
  have HIS : Hid (A.InP a b (a.start, b.start)) := ⟨ht.fa.start, ht.fb.start⟩
  have q0 := HB0.out.bp.cell 0
  have q1 := HB0.out.bp.cell 1
  have z0 := HB0.out.bp.frozen 0
  have z1 := HB0.out.bp.frozen 1
  have e0 := HB0.out.ba.cell 0
  have e1 := HB0.out.ba.cell 1
  have e2 := HB0.out.ba.cell 2
  have e3 := HB0.out.ba.cell 3
  have g0 := HB0.out.bb.cell 0
  have g1 := HB0.out.bb.cell 1
  have g2 := HB0.out.bb.cell 2
  have g3 := HB0.out.bb.cell 3
  simp only [macC] at e0 e1 e2 e3 g0 g1 g2 g3
  clear h h' ht he
  go_enter Try.func24, Try.ntmps24
  go_wp2_with fail
  clear e0 e1 e2 e3 g0 g1 g2 g3 q0 q1 z0 z1
  refine (starts_any (HM.out.keep0 HB0.out.fr) (HM'.out.keep0 HB0.out.fr)).mono ?_
  rintro _ w1 ⟨rfl, f1⟩
  have HB1 := Lib.hid (HB0.out.call f1)
  have HB1p := Lib.hid (HB1.out.put (a.start, b.start))
  simp only [pairV]
  clear f1
  have q0 := HB1.out.bp.cell 0
  have q1 := HB1.out.bp.cell 1
  have z0 := HB1.out.bp.frozen 0
  have z1 := HB1.out.bp.frozen 1
  have e0 := HB1.out.ba.cell 0
  have e1 := HB1.out.ba.cell 1
  have e2 := HB1.out.ba.cell 2
  have e3 := HB1.out.ba.cell 3
  have g0 := HB1.out.bb.cell 0
  have g1 := HB1.out.bb.cell 1
  have g2 := HB1.out.bb.cell 2
  have g3 := HB1.out.bb.cell 3
  simp only [macC] at e0 e1 e2 e3 g0 g1 g2 g3
  go_wp2_with fail
  clear e0 e1 e2 e3 g0 g1 g2 g3 q0 q1 z0 z1
  refine (agree_any (HM.out.keep0 HB1p.out.fr) (HM'.out.keep0 HB1p.out.fr) HT.out (a.start, b.start) HIS.out).mono ?_
  rintro _ w2 ⟨rfl, f2⟩
  have HB2 := Lib.hid (HB1p.out.call f2)
  clear f2
  have he := HE.out
  unfold A.diffO at he
  generalize hag : A.agree a b (a.start, b.start) = ag at *
  cases ag with
  | false =>
    simp only [Bool.false_eq_true, if_false, Option.some.injEq] at he
    subst he
    have q0 := HB2.out.bp.cell 0
    have q1 := HB2.out.bp.cell 1
    have z0 := HB2.out.bp.frozen 0
    have z1 := HB2.out.bp.frozen 1
    go_wp2_with fail
    go_region
    all_goals go_wp2_with fail
    have HBe := Lib.hid (HB2.out.put (a.start, b.start))
    have d0 := HBe.out.bp.cell 0
    have d1 := HBe.out.bp.cell 1
    refine bodyPost_ret (v := .tuple #[.slice none 0 0, pairV (a.start, b.start), .bool true]) (by simp [results, Try.results24, go_sem, pairV, q0, q1]) rfl ?_
    exact ⟨_, rfl, ⟨none, 0, rfl, fun k hk => by simp at hk⟩, HBe.out.fr⟩
  | true =>
    simp only [if_true] at he
    split at he
    · cases he
    rename_i j jb hj
    have HJ := Lib.hid hj
    have HE2 := Lib.hid he
    clear he hj hag
    have hna := HT.out.na
    have hnb := HT.out.nb
    have q0 := HB2.out.bp.cell 0
    have q1 := HB2.out.bp.cell 1
    have z0 := HB2.out.bp.frozen 0
    have z1 := HB2.out.bp.frozen 1
    have e0 := HB2.out.ba.cell 0
    have e1 := HB2.out.ba.cell 1
    have e2 := HB2.out.ba.cell 2
    have e3 := HB2.out.ba.cell 3
    have g0 := HB2.out.bb.cell 0
    have g1 := HB2.out.bb.cell 1
    have g2 := HB2.out.bb.cell 2
    have g3 := HB2.out.bb.cell 3
    simp only [macC] at e0 e1 e2 e3 g0 g1 g2 g3
    go_wp2_with fail
    clear e0 e1 e2 e3 g0 g1 g2 g3 q0 q1 z0 z1
    refine (newJoined_any w2 a.next.length b.next.length hna hnb).mono ?_
    rintro _ w3 ⟨rfl, J3, f3⟩
    have HB3 := Lib.hid (HB2.out.call f3)
    have HJ3 := Lib.hid J3
    have hw2 : w.heap.size + 3 ≤ w2.heap.size := HB2.out.lt
    obtain ⟨⟨hs1, hs2⟩, hs3, hs4⟩ := HIS.out
    dsimp only at hs1 hs2 hs3 hs4
    have HS := Lib.hid (And.intro (And.intro hs1 hs2) (And.intro hs3 hs4))
    clear f3 J3
    have q0 := HB3.out.bp.cell 0
    have q1 := HB3.out.bp.cell 1
    have z0 := HB3.out.bp.frozen 0
    have z1 := HB3.out.bp.frozen 1
    go_wp2_with fail
    refine (join_any HJ3.out HJ.out ⟨by dsimp only; omega, by dsimp only; omega⟩ ⟨by dsimp only; omega, by dsimp only; omega⟩ ⟨by omega, by omega⟩).mono ?_
    rintro _ w4 ⟨rfl, J4, hl4, f4⟩
    have HB4 := Lib.hid (HB3.out.frm (f4.mono fun b _ h => by subst h; exact hw2))
    have HJ4 := Lib.hid J4
    have HL4 := Lib.hid hl4
    clear f4 J4 hl4 q0 q1 z0 z1
    have q0 := HB4.out.bp.cell 0
    have q1 := HB4.out.bp.cell 1
    have z0 := HB4.out.bp.frozen 0
    have z1 := HB4.out.bp.frozen 1
    go_wp2_with fail
    have HLW : Hid (w.heap.size + 3 ≤ w4.heap.size ∧ w2.heap.size + 2 ≤ w4.heap.size) := ⟨HB4.out.lt, by have := HJ4.out.1.lt; omega⟩
    obtain ⟨W5, hW5⟩ : ∃ W5, W5 = w4.alloc (.cells #[.int .i64 a.start, .int .i64 b.start, .int .i64 0, .int .i64 0] 81) := ⟨_, rfl⟩
    have HB5 : Hid (Dx w W5 (macC a A1 c1 A2 c2) (macC b B1 d1 B2 d2) (a.start, b.start)) := by rw [hW5]; exact HB4.out.call ((Frm.refl _ w4).alloc _)
    have HJ5 : Hid (Jn W5 (w2.heap.size + 1) w2.heap.size a.next.length j) := by rw [hW5]; exact ((Frm.refl (fun _ => False) w4).alloc _).jn HJ4.out id id
    have HT5 : Hid (Trs W5 w4.heap.size (.slice (some ⟨w4.heap.size, 0, none⟩) 1 1) [⟨(a.start, b.start), 0, 0⟩]) := by
      rw [hW5]; exact World.ownsRow_lit w4 _ 1 (Nat.le_refl _) (by unfold maxLen; omega) rfl
    have HSZ5 : Hid (w4.heap.size ≤ W5.heap.size) := by rw [hW5]; show w4.heap.size ≤ _; simp
    rw [← hW5]
    clear hW5 q0 q1 z0 z1
    have he3 := HE2.out
    cases hO : A.outerO f a b f 0 j [⟨(a.start, b.start), 0, 0⟩] with
    | none => rw [hO] at he3; cases he3
    | some ro =>
    rw [hO] at he3
    have HRO := Lib.hid he3
    have HO := Lib.hid hO
    clear he3 hO HE2 HL4 HJ HJ3 HB3 HB4 HJ4
    go_loopg [8, 9] f (fun n u8 i9 wr => ∃ (at_ : Nat) (ts : List A.Tr) (jl : List Int) (p : A.Pr), i9 = .int .i64 (at_ : Int) ∧ ts.length + 300 * n ≤ 1 + 300 * f ∧ Hid (A.outerO f a b n at_ jl ts = some ro) ∧ Hid (Trs wr w4.heap.size u8 ts) ∧ Hid (∀ t ∈ ts, A.InP a b t.p) ∧ Hid (Dx w wr (macC a A1 c1 A2 c2) (macC b B1 d1 B2 d2) p) ∧ Hid (Jn wr (w2.heap.size + 1) w2.heap.size a.next.length jl) ∧ Hid (w4.heap.size ≤ wr.heap.size))
    case atStart => exact ⟨0, _, j, _, rfl, by simp, HO, HT5, fun t ht => by simp only [List.mem_singleton] at ht; subst ht; exact HIS.out, HB5, HJ5, HSZ5⟩
    case round =>
      clear HO HT5 HB5 HJ5 HSZ5
      obtain ⟨at_, ts, jl, p, rfl, hn, HO, HTS, HIN, HD, HJ, HSZ⟩ := hrel
      obtain ⟨TA, tc, rfl⟩ := own_form HTS.out
      have ho := HO.out
      unfold A.outerO at ho
      by_cases hlt : at_ < ts.length
      · have hlt' : (at_ : Int) < (ts.length : Int) := by omega
        rw [dif_pos hlt] at ho
        cases gk with
        | zero => simp at ho
        | succ n =>
        dsimp only at ho
        cases hI : A.innerO f a b at_ (ts[at_]'hlt).p (List.range a.letters.toNat) jl ts with
        | none => rw [hI] at ho; cases ho
        | some res =>
        rw [hI] at ho
        have HOR := Lib.hid ho
        have hl0 := HT.out.fa.letters
        have hl300 := HT.out.la
        have HNN := Lib.hid hn
        obtain ⟨tp, htp⟩ : ∃ tp, tp = (ts[at_]'hlt).p := ⟨_, rfl⟩
        rw [← htp] at hI
        have HI : Hid (A.innerO f a b at_ tp ((List.range a.letters.toNat).drop 0) jl ts = some res) := hI
        have HTP : Hid (∃ t, ts[at_]? = some t ∧ t.p = tp) := ⟨_, List.getElem?_eq_getElem hlt, htp.symm⟩
        have HTI : Hid (A.InP a b tp) := by rw [htp]; exact HIN.out _ (List.getElem_mem hlt)
        have e0 := HD.out.ba.cell 0
        simp only [macC] at e0
        clear ho hI htp hn HO
        go_wp2_with fail
        go_loopg [8, 41] (a.letters.toNat + 1) (fun m u8 i41 wr => ∃ (k : Nat) (ts' : List A.Tr) (jl' : List Int) (p' : A.Pr), k ≤ a.letters.toNat ∧ m = a.letters.toNat + 1 - k ∧ i41 = .int .i64 (k : Int) ∧ ts'.length ≤ ts.length + k ∧ Hid (A.innerO f a b at_ tp ((List.range a.letters.toNat).drop k) jl' ts' = some res) ∧ Hid (∃ t, ts'[at_]? = some t ∧ t.p = tp) ∧ Hid (Trs wr w4.heap.size u8 ts') ∧ Hid (∀ t ∈ ts', A.InP a b t.p) ∧ Hid (Dx w wr (macC a A1 c1 A2 c2) (macC b B1 d1 B2 d2) p') ∧ Hid (Jn wr (w2.heap.size + 1) w2.heap.size a.next.length jl') ∧ Hid (w4.heap.size ≤ wr.heap.size))
        case atStart => exact ⟨0, ts, jl, p, Nat.zero_le _, rfl, rfl, Nat.le_refl _, HI, HTP, HTS, HIN, HD, HJ, HSZ⟩
        case round =>
          clear HI HTP HTS HIN HD HJ HSZ e0
          obtain ⟨k, ts', jl', p', hk, rfl, rfl, htl, HI, HTP, HTS, HIN, HD, HJ, HSZ⟩ := hrel
          obtain ⟨TA', tc', rfl⟩ := own_form HTS.out
          by_cases hltk : k < a.letters.toNat
          · have hltk' : (k : Int) < a.letters := by omega
            obtain ⟨t, ht1, ht2⟩ := HTP.out
            obtain ⟨hlt2, ht3⟩ := List.getElem?_eq_some_iff.1 ht1
            have hlt2' : (at_ : Int) < (ts'.length : Int) := by omega
            obtain ⟨gt, rfl, hgt, hc0, hc1, _, _⟩ := HTS.out.at_ hlt2
            rw [ht3, ht2] at hc0 hc1
            have hi := HI.out
            rw [List.drop_eq_getElem_cons (by simpa using hltk), List.getElem_range] at hi
            unfold A.innerO at hi
            have HIQ : Hid (A.InP a b (A.leadP a b tp k)) := HT.out.lead HTI.out (by omega) hltk'
            have HII := Lib.hid hi
            obtain ⟨tp1, tp2⟩ := tp
            dsimp only at hc0 hc1
            have q0 := HD.out.bp.cell 0
            have q1 := HD.out.bp.cell 1
            have z0 := HD.out.bp.frozen 0
            have z1 := HD.out.bp.frozen 1
            have e0 := HD.out.ba.cell 0
            have e1 := HD.out.ba.cell 1
            have e2 := HD.out.ba.cell 2
            have e3 := HD.out.ba.cell 3
            have g0 := HD.out.bb.cell 0
            have g1 := HD.out.bb.cell 1
            have g2 := HD.out.bb.cell 2
            have g3 := HD.out.bb.cell 3
            simp only [macC] at e0 e1 e2 e3 g0 g1 g2 g3
            clear hi ht1 ht2 ht3
            go_wp2_with fail
            go_still_tail 8, (by kernel_rfl)
            go_wp2_with fail
            clear e0 e1 e2 e3 g0 g1 g2 g3 q0 q1 z0 z1
            refine (leadPair_any (HM.out.keep0 HD.out.fr.drew) (HM'.out.keep0 HD.out.fr.drew) HT.out (tp1, tp2) k HTI.out (by omega) hltk').mono ?_
            rintro _ w6 ⟨rfl, f6⟩
            have f6' : Frm (fun _ => False) wr w6 := f6
            generalize A.leadP a b (tp1, tp2) k = q at *
            obtain ⟨qa, qb⟩ := q
            have HD6 := Lib.hid (HD.out.call f6')
            have HDP := Lib.hid (HD6.out.put (qa, qb))
            have FS := Frm.set2 (w := w6) (w.heap.size + 2) (.int .i64 qa) (.int .i64 qb)
            have HLWo := HLW.out
            have HJP := Lib.hid (FS.jn (f6'.jn HJ.out id id) (by omega) (by omega))
            have HTP6 := Lib.hid (FS.row (f6'.row HTS.out (fun _ _ => id) (Nat.le_refl _)) (fun g hg e => by have := own_ge HTS.out g hg; omega) (Nat.le_refl _))
            have HSZ6 : Hid (w4.heap.size ≤ w6.heap.size) := Nat.le_trans HSZ.out f6'.1
            have q0 := HD6.out.bp.cell 0
            have q1 := HD6.out.bp.cell 1
            have z0 := HD6.out.bp.frozen 0
            have z1 := HD6.out.bp.frozen 1
            clear f6 f6' FS HLWo HD HJ HTS
            simp only [pairV]
            cases hJO : A.joinO f a.next.length jl' (qa, qb) with
            | none => have hi := HII.out; rw [hJO] at hi; cases hi
            | some jr =>
            obtain ⟨j2, b2⟩ := jr
            have hi := HII.out
            rw [hJO] at hi
            have HJO := Lib.hid hJO
            have HI2 := Lib.hid hi
            obtain ⟨⟨hq1, hq2⟩, hq3, hq4⟩ := HIQ.out
            dsimp only at hq1 hq2 hq3 hq4
            have HQB : Hid ((-1 ≤ qa ∧ qa ≤ 4000) ∧ (-1 ≤ qb ∧ qb ≤ 4000)) := ⟨⟨hq1, by omega⟩, hq3, by omega⟩
            clear hi hJO HII hq1 hq2 hq3 hq4
            go_wp2_with fail
            clear q0 q1 z0 z1
            refine (join_any (p := (qa, qb)) HJP.out HJO.out HQB.out.1 HQB.out.2 ⟨by omega, by omega⟩).mono ?_
            rintro _ w7 ⟨rfl, J7, -, f7⟩
            have HD7 := Lib.hid (HDP.out.frm (f7.mono fun b _ h => by subst h; exact hw2))
            have HLWo := HLW.out
            have HT7 := Lib.hid (f7.row HTP6.out (fun g hg e => by have := own_ge HTP6.out g hg; omega) (Nat.le_refl _))
            have HJ7 := Lib.hid J7
            have HSZ7 : Hid (w4.heap.size ≤ w7.heap.size) := by have := f7.1; have := HSZ6.out; simp at *; exact Nat.le_trans (by omega) (by assumption)
            clear f7 J7 HLWo HDP HJP HTP6 HD6
            cases b2 with
            | false =>
              have HI3 : Hid (A.innerO f a b at_ (tp1, tp2) ((List.range a.letters.toNat).drop (k + 1)) j2 ts' = some res) := HI2.out
              go_wp2_with fail
              go_roundg (a.letters.toNat + 1 - (k + 1))
              case measure => omega
              case rel => exact ⟨k + 1, ts', j2, (qa, qb), by omega, rfl, by go_num, by omega, HI3, HTP, HT7, HIN, HD7, HJ7, HSZ7⟩
            | true =>
              have hi := HI2.out
              simp only at hi
              have HI3 := Lib.hid hi
              have q0 := HD7.out.bp.cell 0
              have q1 := HD7.out.bp.cell 1
              obtain ⟨A7, c7, e7⟩ := own_form HT7.out
              injection e7 with e71 e72 e73
              subst e71 e73
              obtain ⟨i0, hi0, hz0, hz1, hz2⟩ := info_parts info_trail
              have HTL := Lib.hid htl
              have HNO := HNN.out
              clear hi HI2 e72
              go_wp2_with (at_builtin; refine wpList_append_own _ rfl _ _ 82 rfl w4.heap.size 81 i0 (.agg #[.int .i64 0, .int .i64 0, .int .i64 0, .int .i64 0]) 4 32 Try.underlying82 hi0 hz0 hz1 hz2 rfl (by decide) _ _ _ rfl (HT7.out.alloc _) ⟨w7.heap.size, 0, none⟩ 1 1 [.int .i64 qa, .int .i64 qb, .int .i64 at_, .int .i64 k] rfl rfl ?y1 ?y2 ?y3 ?y4 ?y5 ?_)
              case y1 => exact cell_four_at rfl
              case y2 => simp [Value.oneCell']
              case y3 => unfold maxLen; omega
              case y4 => omega
              case y5 => have := HSZ7.out; first | omega | (simp; omega)
              intro v8 w8 hown hgrow _
              have HLWo := HLW.out
              have F8 : Frm (fun b => w4.heap.size ≤ b) w7 w8 := ((Frm.refl _ w7).alloc _).grown hgrow (fun g hg _ => own_ge HT7.out g hg)
              have HT8 : Hid (Trs w8 w4.heap.size v8 (ts' ++ [⟨(qa, qb), at_, k⟩])) := by
                show w8.ownsRow _ _ _ _ _ _
                rw [List.length_append, List.flatMap_append]; exact hown
              have HD8 := Lib.hid (HD7.out.frm (F8.mono fun b _ h => by omega))
              have HJ8 := Lib.hid (F8.jn HJ7.out (by omega) (by omega))
              have HSZ8 : Hid (w4.heap.size ≤ w8.heap.size) := Nat.le_trans HSZ7.out F8.1
              have HIN8 : Hid (∀ t ∈ ts' ++ [⟨(qa, qb), at_, k⟩], A.InP a b t.p) := fun t ht => by
                rcases List.mem_append.1 ht with h | h
                · exact HIN.out t h
                · rw [List.mem_singleton] at h; subst h; exact HIQ.out
              have HTP8 : Hid (∃ t, (ts' ++ [(⟨(qa, qb), at_, k⟩ : A.Tr)])[at_]? = some t ∧ t.p = (tp1, tp2)) := by
                obtain ⟨t, h1, h2⟩ := HTP.out
                exact ⟨t, by rw [List.getElem?_append_left hlt2]; exact h1, h2⟩
              have HL8 : Hid ((ts' ++ [(⟨(qa, qb), at_, k⟩ : A.Tr)]).length ≤ ts.length + (k + 1)) := by rw [List.length_append, List.length_singleton]; show _ ≤ _; omega
              clear hown hgrow F8 HLWo hi0 hz0 hz1 hz2 q0 q1 HT7 HD7 HJ7
              have q0 := HD8.out.bp.cell 0
              have q1 := HD8.out.bp.cell 1
              have z0 := HD8.out.bp.frozen 0
              have z1 := HD8.out.bp.frozen 1
              have e0 := HD8.out.ba.cell 0
              have e1 := HD8.out.ba.cell 1
              have e2 := HD8.out.ba.cell 2
              have e3 := HD8.out.ba.cell 3
              have g0 := HD8.out.bb.cell 0
              have g1 := HD8.out.bb.cell 1
              have g2 := HD8.out.bb.cell 2
              have g3 := HD8.out.bb.cell 3
              simp only [macC] at e0 e1 e2 e3 g0 g1 g2 g3
              go_wp2_with fail
              clear e0 e1 e2 e3 g0 g1 g2 g3 q0 q1 z0 z1
              refine (agree_any (HM.out.keep0 HD8.out.fr) (HM'.out.keep0 HD8.out.fr) HT.out (qa, qb) HIQ.out).mono ?_
              rintro _ w9 ⟨rfl, f9⟩
              have HD9 := Lib.hid (HD8.out.call f9)
              have HJ9 := Lib.hid (f9.jn HJ8.out id id)
              have HT9 := Lib.hid (f9.row HT8.out (fun _ _ => id) (Nat.le_refl _))
              have HSZ9 : Hid (w4.heap.size ≤ w9.heap.size) := Nat.le_trans HSZ8.out f9.1
              have hi := HI3.out
              clear f9
              cases hag : A.agree a b (qa, qb) with
              | true =>
                rw [hag, if_pos rfl] at hi
                have HI4 := Lib.hid hi
                clear hi hag
                go_wp2_with fail
                go_roundg (a.letters.toNat + 1 - (k + 1))
                case measure => omega
                case rel => exact ⟨k + 1, _, j2, (qa, qb), by omega, rfl, by go_num, HL8.out, HI4, HTP8, HT9, HIN8, HD9, HJ9, HSZ9⟩
              | false =>
                rw [hag] at hi
                simp only [Bool.false_eq_true, if_false, Option.some.injEq] at hi
                subst hi
                clear hag
                go_wp2_with fail
                have ho2 := HOR.out
                simp only [Option.some.injEq] at ho2
                subst ho2
                have hr := HRO.out
                dsimp only at hr
                rw [Option.map_eq_some_iff] at hr
                obtain ⟨l, hw, hr2⟩ := hr
                subst hr2
                have HWO := Lib.hid hw
                have HL9 : Hid ((ts' ++ [(⟨(qa, qb), at_, k⟩ : A.Tr)]).length ≤ 1000000000) := show _ ≤ _ by have := HL8.out; have := HNN.out; omega
                have d9 := HD9.out
                have q0 := HD9.out.bp.cell 0
                have q1 := HD9.out.bp.cell 1
                have z0 := HD9.out.bp.frozen 0
                have z1 := HD9.out.bp.frozen 1
                clear hw HI3 HJ8 HT8 HD8
                go_region_held3 (fun w' => w'.cell? ⟨w.heap.size + 1 + 1, 0, none⟩ = some (.int .i64 qa) ∧ w'.cell? ⟨w.heap.size + 1 + 1, 1, none⟩ = some (.int .i64 qb) ∧ w'.frozen? ⟨w.heap.size + 1 + 1, 0, none⟩ = false ∧ w'.frozen? ⟨w.heap.size + 1 + 1, 1, none⟩ = false ∧ Dx w w' (macC a A1 c1 A2 c2) (macC b B1 d1 B2 d2) (qa, qb) ∧ Frm (· = w.heap.size + 2) w9 w')
                  (first | exact Dx.six d9 (Frm.refl _ _) | exact Dx.six (d9.call (Frm.refl _ _).drew) (Frm.refl _ _).drew | exact Dx.six (by assumption) (by assumption) | exact Dx.six (Dx.put (by assumption) (qa, qb)) (Frm.trans (by assumption) (Frm.set2 _ _ _)))
                  (first | (go_at_call_of 50 v8; obtain ⟨-, -, -, -, hDx, hFx⟩ := ‹_ ∧ _ ∧ _ ∧ _ ∧ Dx _ _ _ _ _ ∧ Frm _ _ _›; refine (wordOf_any (hFx.row HT9.out (fun g hg e => by have := own_ge HT9.out g hg; have := HLW.out; omega) (Nat.le_refl _)) HWO.out HL9.out (by omega)).mono ?_; rintro e w10 ⟨u, rfl, hI, f10⟩; have hD10 := hDx.call f10; have hF10 := hFx.trans (f10.mono fun _ _ h => h.elim); have y0 := hD10.bp.cell 0; have y1 := hD10.bp.cell 1; have y2 := hD10.bp.frozen 0; have y3 := hD10.bp.frozen 1))
                all_goals
                  have hs9 := HSZ9.out
                  have hlw := HLW.out
                  have FZ := Frm.set2 (w := w10) (w.heap.size + 2) (.int .i64 qa) (.int .i64 qb)
                  have hw9 : w9.drew.heap.size = w9.heap.size := rfl
                  obtain ⟨A9, c9, e9, hI9⟩ := hI.keep FZ (fun b hb h => by omega)
                  have HI9 : Hid (Ints ((w10.setCell ⟨w.heap.size + 2, 0, none⟩ (.int .i64 qa)).setCell ⟨w.heap.size + 2, 1, none⟩ (.int .i64 qb)) (fun b => w.heap.size ≤ b) u l) := ⟨A9, c9, e9, fun k hk => by obtain ⟨g, o, h1, h2, h3⟩ := hI9 k hk; exact ⟨g, o, h1, by omega, h3⟩⟩
                  have HDF := Lib.hid (Dx.put hD10 (qa, qb))
                  clear hI9 e9 FZ
                  go_wp2_with fail
                  refine bodyPost_ret (v := .tuple #[u, pairV (qa, qb), .bool true]) (by simp [results, Try.results24, go_sem, pairV, y0, y1]) rfl ?_
                  exact ⟨_, rfl, HI9.out, HDF.out.fr⟩
          · have hltk' : ¬ (k : Int) < a.letters := by omega
            have hi := HI.out
            rw [List.drop_of_length_le (by simp; omega)] at hi
            unfold A.innerO at hi
            simp only [Option.some.injEq] at hi
            subst hi
            have HOR2 := Lib.hid HOR.out
            have hat9 : at_ ≤ 40000000 := by have := HNN.out; omega
            have hat8 : IntKind.i64.wrap ((at_ : Int) + 1) = (at_ : Int) + 1 := IntWalk.i64_in _ (by omega)
            go_wp2_with fail
            go_roundg n
            case measure => omega
            case rel =>
              exact ⟨at_ + 1, ts', jl', p', by first | rfl | go_num | simp, by have := HNN.out; omega, HOR2, HTS, HIN, HD, HJ, HSZ⟩
      · have hlt' : ¬ (at_ : Int) < (ts.length : Int) := by omega
        rw [dif_neg hlt] at ho
        obtain rfl : none = ro := by simpa using ho
        obtain rfl : none = r := by simpa using HRO.out
        have q0 := HD.out.bp.cell 0
        have q1 := HD.out.bp.cell 1
        have z0 := HD.out.bp.frozen 0
        have z1 := HD.out.bp.frozen 1
        clear ho hn
        go_wp2_with fail
        have HDe := Lib.hid (HD.out.put (0, 0))
        refine bodyPost_ret (v := .tuple #[.slice none 0 0, pairV (0, 0), .bool false]) (by simp [results, Try.results24, go_sem, pairV, q0, q1]) rfl ?_
        exact ⟨rfl, HDe.out.fr⟩
end Go.Proofs.Ytiekaicbjinbaaa
end
section
namespace Go.Proofs.Ytiekaicbjinbaaa.A
/-- The pairs are a relation that shows it. -/
structure Shown (a b : Mac) (l : List Pr) : Prop where
  two : Two a b
  va : valid a = 0
  vb : valid b = 0
  st : among l (a.start, b.start) = true
  ag : ∀ p, among l p = true → agree a b p = true
  ld : ∀ p, among l p = true → ∀ k : Int, 0 ≤ k → k < a.letters → among l (leadP a b p k) = true
  inn : ∀ p, among l p = true → InP a b p
theorem among_iff {l : List Pr} {p : Pr} : among l p = true ↔ p = (-1, -1) ∨ p ∈ l := by simp [among]
theorem Shown.of {a b : Mac} {l : List Pr} (h : check a b l = 0) : Shown a b l := by
  unfold check at h
  split at h
  · rename_i hf
    split at h
    · rename_i hr
      split at h
      · rename_i hs
        have hv : valid a = 0 ∧ valid b = 0 := by
          unfold fit at hf
          split at hf
          · assumption
          · cases hf
        unfold shows at hs
        rw [Bool.and_eq_true, List.all_eq_true] at hs
        obtain ⟨h1, h2⟩ := hs
        refine ⟨fit_two hf, hv.1, hv.2, h1, fun p hp => ?_, fun p hp k h0 hk => ?_, fun p hp => ?_⟩
        · rcases among_iff.1 hp with rfl | hp
          · rfl
          · have := h2 p hp
            rw [Bool.and_eq_true] at this
            exact this.1
        · rcases among_iff.1 hp with rfl | hp
          · exact among_iff.2 (.inl rfl)
          · have := h2 p hp
            rw [Bool.and_eq_true, List.all_eq_true] at this
            have := this.2 k.toNat (List.mem_range.2 (by omega))
            rwa [Int.toNat_of_nonneg h0] at this
        · rcases among_iff.1 hp with rfl | hp
          · exact ⟨⟨by decide, by dsimp only; omega⟩, by decide, by dsimp only; omega⟩
          · exact relFrom_in hr p hp
      · cases h
    · cases h
  · rename_i hf
    exact absurd h hf
theorem Shown.word {a b : Mac} {l : List Pr} (h : Shown a b l) : ∀ (w : List Int) (p : Pr), among l p = true → (match from_ a p.1 w with | none => false | some s => ends a s) = (match from_ b p.2 w with | none => false | some s => ends b s)
  | [], p, hp => by
    have := h.ag p hp
    simp only [agree, beq_iff_eq] at this
    exact this
  | k :: w, p, hp => by
    unfold from_
    rw [← h.two.ll]
    by_cases hk : 0 ≤ k ∧ k < a.letters
    · rw [if_pos hk, if_pos hk]
      exact h.word w (leadP a b p k) (h.ld p hp k hk.1 hk.2)
    · rw [if_neg hk, if_neg hk]
theorem Shown.accepts {a b : Mac} {l : List Pr} (h : Shown a b l) (w : List Int) : accepts a w = accepts b w := by
  unfold A.accepts
  rw [if_pos h.va, if_pos h.vb]
  exact h.word w (a.start, b.start) h.st
/-! ### The states that are joined -/
def roots (l : List Int) : Nat := (List.range l.length).countP fun i => decide (l.getD i 0 = (i : Int))
/-- J joins were made; r grows along the row. -/
structure Uf (l : List Int) (J : Nat) (r : Nat → Nat) : Prop where
  inn : ∀ i < l.length, 0 ≤ l.getD i 0 ∧ l.getD i 0 < l.length ∧ (l.getD i 0 ≠ i → r i < r (l.getD i 0).toNat)
  le : ∀ i, r i ≤ J
  sum : roots l + J = l.length
theorem getD_setI {l : List Int} {i j : Nat} {v d : Int} (h : i < l.length) : (l.set i v).getD j d = if i = j then v else l.getD j d := by
  simp only [List.getD_eq_getElem?_getD, List.getElem?_set, h, if_true]
  split <;> simp
theorem roots_congr {l l' : List Int} (hl : l'.length = l.length) (h : ∀ i < l.length, (l'.getD i 0 = (i : Int) ↔ l.getD i 0 = (i : Int))) : roots l' = roots l := by
  unfold roots
  rw [hl]
  apply List.countP_congr
  intro i hi
  simp only [decide_eq_true_eq]
  exact h i (List.mem_range.1 hi)
theorem Uf.short {l : List Int} {J : Nat} {r : Nat → Nat} (h : Uf l J r) {m : Nat} (hm : m < l.length) (hne : l.getD m 0 ≠ m) : Uf (l.set m (l.getD (l.getD m 0).toNat 0)) J r ∧ (∀ i, i < l.length → ((l.set m (l.getD (l.getD m 0).toNat 0)).getD i 0 = (i : Int) ↔ l.getD i 0 = (i : Int))) ∧ r m < r (l.getD (l.getD m 0).toNat 0).toNat ∧ 0 ≤ l.getD (l.getD m 0).toNat 0 ∧ l.getD (l.getD m 0).toNat 0 < l.length := by
  obtain ⟨h1, h2, h3⟩ := h.inn m hm
  have h3 := h3 hne
  obtain ⟨p, hp⟩ : ∃ p : Nat, l.getD m 0 = p := ⟨(l.getD m 0).toNat, by omega⟩
  rw [hp] at h2 h3 hne ⊢
  rw [Int.toNat_natCast] at h3 ⊢
  obtain ⟨h4, h5, h6⟩ := h.inn p (by omega)
  obtain ⟨g, hg⟩ : ∃ g : Nat, l.getD p 0 = g := ⟨(l.getD p 0).toNat, by omega⟩
  rw [hg] at h4 h5 h6 ⊢
  rw [Int.toNat_natCast] at h6 ⊢
  have h7 : r m < r g := by
    by_cases e : (g : Int) = p
    · have : g = p := by omega
      rw [this]; exact h3
    · exact Nat.lt_trans h3 (h6 e)
  have h8 : (g : Int) ≠ m := fun e => by
    have : g = m := by omega
    rw [this] at h7
    omega
  have hroot : ∀ i, i < l.length → ((l.set m (g : Int)).getD i 0 = (i : Int) ↔ l.getD i 0 = (i : Int)) := fun i hi => by
    rw [getD_setI hm]
    by_cases e : m = i
    · subst e
      rw [if_pos rfl, hp]
      exact ⟨fun h => absurd h h8, fun h => absurd h hne⟩
    · rw [if_neg e]
  refine ⟨⟨fun i hi => ?_, h.le, ?_⟩, hroot, h7, h4, h5⟩
  · rw [List.length_set] at hi ⊢
    rw [getD_setI hm]
    by_cases e : m = i
    · subst e
      rw [if_pos rfl]
      exact ⟨h4, h5, fun _ => by rw [Int.toNat_natCast]; exact h7⟩
    · rw [if_neg e]
      exact h.inn i hi
  · rw [List.length_set, roots_congr (by simp) hroot]
    exact h.sum
theorem endO_some {J : Nat} {r : Nat → Nat} : ∀ (f : Nat) (l : List Int) (m : Nat), Uf l J r → m < l.length → J < f + r m → ∃ (l' : List Int) (x : Nat), endO f l m = some (l', (x : Int)) ∧ Uf l' J r ∧ l'.length = l.length ∧ x < l.length ∧ l.getD x 0 = x ∧ ∀ i, i < l.length → (l'.getD i 0 = (i : Int) ↔ l.getD i 0 = (i : Int))
  | 0, l, m, h, hm, hf => by have := h.le m; omega
  | f + 1, l, m, h, hm, hf => by
    unfold endO
    rw [if_pos ⟨by omega, by omega⟩, Int.toNat_natCast]
    by_cases e : l.getD m 0 = m
    · rw [if_pos e]
      exact ⟨l, m, rfl, h, rfl, hm, e, fun _ _ => Iff.rfl⟩
    · rw [if_neg e]
      obtain ⟨h1, h2, _⟩ := h.inn m hm
      rw [if_pos ⟨h1, h2⟩]
      obtain ⟨h3, h4, h5, h6, h7⟩ := h.short hm e
      obtain ⟨g, hg⟩ : ∃ g : Nat, l.getD (l.getD m 0).toNat 0 = g := ⟨(l.getD (l.getD m 0).toNat 0).toNat, by omega⟩
      rw [hg] at h3 h4 h5 h7 ⊢
      rw [Int.toNat_natCast] at h5
      obtain ⟨l', x, e1, e2, e3, e4, e5, e6⟩ := endO_some f _ g h3 (by rw [List.length_set]; omega) (by omega)
      rw [List.length_set] at e3 e4 e6
      refine ⟨l', x, e1, e2, e3, e4, (h4 x e4).1 e5, fun i hi => (e6 i hi).trans (h4 i hi)⟩
theorem countP_less {p q : Nat → Bool} {x : Nat} (hp : p x = true) (hq : q x = false) (h : ∀ i, i ≠ x → p i = q i) : ∀ n, x < n → (List.range n).countP p = (List.range n).countP q + 1
  | 0, hn => absurd hn (by omega)
  | n + 1, hn => by
    rw [List.range_succ, List.countP_append, List.countP_append]
    by_cases e : n = x
    · subst e
      have : (List.range n).countP p = (List.range n).countP q := List.countP_congr fun i hi => by rw [h i (by have := List.mem_range.1 hi; omega)]
      simp [this, hp, hq]
    · have := countP_less hp hq h n (by omega)
      have h1 := h n e
      simp only [List.countP_cons, List.countP_nil, h1]
      omega
theorem joinO_some {a b : Mac} {l : List Int} {J f : Nat} {r : Nat → Nat} {p : Pr} (h : Uf l J r) (hl : l.length = 1 + a.next.length + b.next.length) (hp : InP a b p) (hf : J < f) :
    ∃ l' y, joinO f a.next.length l p = some (l', y) ∧ l'.length = l.length ∧ ∃ J' r', Uf l' J' r' ∧ J' = (if y then J + 1 else J) := by
  obtain ⟨⟨p1, p2⟩, p3, p4⟩ := hp
  unfold joinO
  obtain ⟨m, hm⟩ : ∃ m : Nat, 1 + p.1 = m := ⟨(1 + p.1).toNat, by omega⟩
  obtain ⟨m', hm'⟩ : ∃ m : Nat, other a.next.length p = m := ⟨(other a.next.length p).toNat, by unfold other; split <;> omega⟩
  have hb : m' < l.length := by
    have : other a.next.length p < (l.length : Int) := by unfold other; split <;> omega
    omega
  rw [hm, hm']
  obtain ⟨l1, x, e1, e2, e3, e4, e5, e6⟩ := endO_some f l m h (by omega) (by omega)
  obtain ⟨l2, y, d1, d2, d3, d4, d5, d6⟩ := endO_some f l1 m' e2 (by omega) (by omega)
  rw [e1]
  dsimp only
  rw [d1]
  dsimp only
  rw [Int.toNat_natCast]
  refine ⟨_, _, rfl, by rw [List.length_set, d3, e3], ?_⟩
  have hx : x < l2.length := by omega
  have hx2 : l2.getD x 0 = x := (d6 x (by omega)).2 ((e6 x e4).2 e5)
  have hy2 : l2.getD y 0 = y := (d6 y (by omega)).2 d5
  by_cases e : x = y
  · subst e
    refine ⟨J, r, ?_, by simp⟩
    have hset : ∀ i, (l2.set x (x : Int)).getD i 0 = l2.getD i 0 := fun i => by
      rw [getD_setI hx]
      by_cases e : x = i
      · rw [if_pos e, ← e, hx2]
      · rw [if_neg e]
    refine ⟨fun i hi => ?_, d2.le, ?_⟩
    · rw [List.length_set] at hi ⊢
      rw [hset]
      exact d2.inn i hi
    · rw [List.length_set, roots_congr (l := l2) (by simp) (fun i _ => by rw [hset])]
      exact d2.sum
  · have hne : (x : Int) ≠ y := by omega
    refine ⟨J + 1, fun i => if i = y then J + 1 else r i, ?_, by simp [hne]⟩
    refine ⟨fun i hi => ?_, fun i => ?_, ?_⟩
    · rw [List.length_set] at hi ⊢
      rw [getD_setI hx]
      by_cases e' : x = i
      · subst e'
        rw [if_pos rfl]
        refine ⟨by omega, by omega, fun _ => ?_⟩
        rw [Int.toNat_natCast, if_neg e, if_pos rfl]
        have := d2.le x
        omega
      · rw [if_neg e']
        obtain ⟨c1, c2, c3⟩ := d2.inn i hi
        refine ⟨c1, c2, fun hn => ?_⟩
        have c3 := c3 hn
        have hiy : i ≠ y := fun e'' => by subst e''; exact hn hy2
        rw [if_neg hiy]
        split
        · have := d2.le i; omega
        · exact c3
    · split
      · omega
      · have := d2.le i; omega
    · rw [List.length_set]
      have hs := d2.sum
      have hc : roots l2 = roots (l2.set x (y : Int)) + 1 := by
        unfold roots
        rw [List.length_set]
        refine countP_less (x := x) ?_ ?_ (fun i hi => ?_) _ hx
        · simpa using hx2
        · rw [getD_setI hx, if_pos rfl]
          simpa using fun h => hne h.symm
        · rw [getD_setI hx, if_neg (Ne.symm hi)]
      omega
theorem innerO_some {a b : Mac} {l : List Pr} (h : Shown a b l) {f : Nat} {at_ : Int} {p : Pr} (hp : among l p = true) : ∀ (ks : List Nat) (j : List Int) (ts : List Tr) (J : Nat) (r : Nat → Nat), (∀ k ∈ ks, (k : Int) < a.letters) → Uf j J r → j.length = 1 + a.next.length + b.next.length → j.length < f → (∀ t ∈ ts, among l t.p = true) →
    ∃ j' ts' J' r', innerO f a b at_ p ks j ts = some (j', ts', none) ∧ Uf j' J' r' ∧ j'.length = j.length ∧ (∀ t ∈ ts', among l t.p = true) ∧ ts'.length + J = ts.length + J'
  | [], j, ts, J, r, hk, hu, hl, hf, ht => ⟨j, ts, J, r, rfl, hu, rfl, ht, rfl⟩
  | k :: ks, j, ts, J, r, hk, hu, hl, hf, ht => by
    have hkk := hk k List.mem_cons_self
    have hq := h.ld p hp k (by omega) hkk
    obtain ⟨j1, y, e1, e2, J1, r1, e3, e4⟩ := joinO_some (f := f) hu hl (h.inn _ hq) (by have := hu.sum; omega)
    unfold innerO
    rw [e1]
    rcases y with _ | _
    · dsimp only
      obtain ⟨j', ts', J', r', d1, d2, d3, d4, d5⟩ := innerO_some h (f := f) (at_ := at_) hp ks j1 ts J1 r1 (fun k hk' => hk k (List.mem_cons_of_mem _ hk')) e3 (by omega) (by omega) ht
      exact ⟨j', ts', J', r', d1, d2, by omega, d4, by simp at e4; omega⟩
    · dsimp only
      rw [if_pos (h.ag _ hq)]
      obtain ⟨j', ts', J', r', d1, d2, d3, d4, d5⟩ := innerO_some h (f := f) (at_ := at_) hp ks j1 (ts ++ [⟨leadP a b p k, at_, k⟩]) J1 r1 (fun k hk' => hk k (List.mem_cons_of_mem _ hk')) e3 (by omega) (by omega) (fun t ht' => by
        rcases List.mem_append.1 ht' with h' | h'
        · exact ht t h'
        · rw [List.mem_singleton.1 h']; exact hq)
      refine ⟨j', ts', J', r', d1, d2, by omega, d4, ?_⟩
      simp at e4 d5
      omega
theorem outerO_none {a b : Mac} {l : List Pr} (h : Shown a b l) {f : Nat} : ∀ (fuel at_ : Nat) (j : List Int) (ts : List Tr) (J : Nat) (r : Nat → Nat), Uf j J r → j.length = 1 + a.next.length + b.next.length → j.length < f → (∀ t ∈ ts, among l t.p = true) → ts.length ≤ J + 1 → j.length + 1 ≤ fuel + at_ → outerO f a b fuel at_ j ts = some none
  | 0, at_, j, ts, J, r, hu, hl, hf, ht, hJ, hg => by
    have := hu.sum
    unfold outerO
    rw [dif_neg (by omega)]
  | fuel + 1, at_, j, ts, J, r, hu, hl, hf, ht, hJ, hg => by
    unfold outerO
    split
    · rename_i hat
      dsimp only
      obtain ⟨j', ts', J', r', e1, e2, e3, e4, e5⟩ := innerO_some h (f := f) (at_ := at_) (ht _ (List.getElem_mem hat)) (List.range a.letters.toNat) j ts J r (fun k hk => by have := List.mem_range.1 hk; omega) hu hl hf ht
      rw [e1]
      exact outerO_none h fuel (at_ + 1) j' ts' J' r' e2 (by omega) (by omega) e4 (by omega) (by omega)
    · rfl
theorem upTo_get {n i : Nat} (hi : i < n) : (upTo n n).getD i 0 = i := by
  simp [upTo, hi]
theorem uf0 (n : Nat) : Uf (upTo n n) 0 fun _ => 0 := by
  have hl : (upTo n n).length = n := by simp [upTo]
  refine ⟨fun i hi => ?_, fun _ => Nat.le_refl _, ?_⟩
  · rw [hl] at hi ⊢
    rw [upTo_get hi]
    exact ⟨by omega, by omega, fun h => absurd rfl h⟩
  · unfold roots
    rw [hl]
    have : (List.range n).countP (fun i => decide ((upTo n n).getD i 0 = (i : Int))) = (List.range n).length := List.countP_eq_length.2 fun i hi => by simpa using upTo_get (List.mem_range.1 hi)
    rw [this]
    simp
theorem Shown.diff {a b : Mac} {l : List Pr} (h : Shown a b l) {f : Nat} (hf : 3 + a.next.length + b.next.length ≤ f) : diffO f a b = some none := by
  unfold diffO
  rw [if_pos (h.ag _ h.st)]
  have hl : (upTo (1 + a.next.length + b.next.length) (1 + a.next.length + b.next.length)).length = 1 + a.next.length + b.next.length := by simp [upTo]
  obtain ⟨j, y, e1, e2, J, r, e3, e4⟩ := joinO_some (f := f) (uf0 _) hl (h.inn _ h.st) (by omega)
  rw [e1]
  dsimp only
  rw [outerO_none h f 0 j _ J r e3 (by omega) (by omega) (fun t ht => by rw [List.mem_singleton.1 ht]; exact h.st) (by simp) (by omega)]
end Go.Proofs.Ytiekaicbjinbaaa.A
namespace Go.Proofs.Ytiekaicbjinbaaa.A
theorem Shown.fit {a b : Mac} {l : List Pr} (h : Shown a b l) : fit a b = 0 := by
  unfold A.fit
  rw [if_pos ⟨h.va, h.vb⟩, if_pos h.two.ll]
end Go.Proofs.Ytiekaicbjinbaaa.A
end
section
namespace Go.Proofs.Ytiekaicbjinbaaa.A
/-- Where a number leads in the row. -/
inductive Rt (l : List Int) : Nat → Nat → Prop
  | root {x : Nat} (h : l.getD x 0 = (x : Int)) : Rt l x x
  | step {x y r : Nat} (h : l.getD x 0 = (y : Int)) (hne : y ≠ x) (hr : Rt l y r) : Rt l x r
theorem Rt.fun_ {l : List Int} {x r r' : Nat} (h : Rt l x r) (h' : Rt l x r') : r = r' := by
  induction h with
  | root h =>
    cases h' with
    | root => rfl
    | step h1 hne _ => rw [h] at h1; omega
  | step h hne _ ih =>
    cases h' with
    | root h1 => rw [h] at h1; omega
    | step h1 _ hr =>
      rw [h] at h1
      have : _ = _ := Int.ofNat.inj h1
      subst this
      exact ih hr
theorem Rt.end_ {l : List Int} {x r : Nat} (h : Rt l x r) : l.getD r 0 = (r : Int) := by
  induction h with
  | root h => exact h
  | step _ _ _ ih => exact ih
theorem Uf.rt {l : List Int} {J : Nat} {r : Nat → Nat} (h : Uf l J r) : ∀ (n m : Nat), m < l.length → J < n + r m → ∃ x, x < l.length ∧ Rt l m x
  | 0, m, hm, hf => by have := h.le m; omega
  | n + 1, m, hm, hf => by
    obtain ⟨h1, h2, h3⟩ := h.inn m hm
    obtain ⟨y, hy⟩ : ∃ y : Nat, l.getD m 0 = y := ⟨(l.getD m 0).toNat, by omega⟩
    by_cases e : y = m
    · subst e
      exact ⟨y, hm, .root hy⟩
    · have h4 := h3 (by omega)
      rw [hy, Int.toNat_natCast] at h4
      obtain ⟨x, hx, hr⟩ := h.rt n y (by omega) (by omega)
      exact ⟨x, hx, .step hy e hr⟩
theorem Uf.rt_ex {l : List Int} {J : Nat} {r : Nat → Nat} (h : Uf l J r) {m : Nat} (hm : m < l.length) : ∃ x, x < l.length ∧ Rt l m x := h.rt (J + 1) m hm (by omega)
/-- A row that is shortened leads to the same ends. -/
theorem short_rt {l : List Int} {m p g : Nat} (hm : m < l.length) (h1 : l.getD m 0 = (p : Int)) (h2 : l.getD p 0 = (g : Int)) (hne : p ≠ m) (hgm : g ≠ m) {x r : Nat} (h : Rt l x r) : Rt (l.set m (g : Int)) x r := by
  induction h with
  | @root x h =>
    by_cases e : m = x
    · subst e; rw [h1] at h; omega
    · exact .root (by rw [getD_setI hm, if_neg e]; exact h)
  | @step x y r h hn hr ih =>
    by_cases e : m = x
    · subst e
      rw [h1] at h
      have : p = y := Int.ofNat.inj h
      subst this
      -- ih : Rt l' p r
      refine .step (y := g) (by rw [getD_setI hm, if_pos rfl]) hgm ?_
      by_cases e2 : g = p
      · subst e2; exact ih
      · cases ih with
        | root h3 =>
          rw [getD_setI hm, if_neg (Ne.symm hne), h2] at h3
          omega
        | step h3 _ h4 =>
          rw [getD_setI hm, if_neg (Ne.symm hne), h2] at h3
          have : g = _ := Int.ofNat.inj h3
          subst this
          exact h4
    · exact .step (by rw [getD_setI hm, if_neg e]; exact h) hn ih
/-- The end that endO finds, and that it changes no end. -/
theorem endO_rt {J : Nat} {r : Nat → Nat} : ∀ (f : Nat) (l : List Int) (m : Nat), Uf l J r → m < l.length → J < f + r m → ∃ (l' : List Int) (x : Nat), endO f l m = some (l', (x : Int)) ∧ Uf l' J r ∧ l'.length = l.length ∧ x < l.length ∧ Rt l m x ∧ ∀ y z, Rt l y z → Rt l' y z
  | 0, l, m, h, hm, hf => by have := h.le m; omega
  | f + 1, l, m, h, hm, hf => by
    unfold endO
    rw [if_pos ⟨by omega, by omega⟩, Int.toNat_natCast]
    by_cases e : l.getD m 0 = m
    · rw [if_pos e]
      exact ⟨l, m, rfl, h, rfl, hm, .root e, fun _ _ h => h⟩
    · rw [if_neg e]
      obtain ⟨h1, h2, h2'⟩ := h.inn m hm
      rw [if_pos ⟨h1, h2⟩]
      obtain ⟨h3, h4, h5, h6, h7⟩ := h.short hm e
      obtain ⟨p, hp⟩ : ∃ p : Nat, l.getD m 0 = p := ⟨(l.getD m 0).toNat, by omega⟩
      obtain ⟨g, hg⟩ : ∃ g : Nat, l.getD (l.getD m 0).toNat 0 = g := ⟨(l.getD (l.getD m 0).toNat 0).toNat, by omega⟩
      rw [hg] at h3 h4 h5 h7 ⊢
      rw [Int.toNat_natCast] at h5
      have hpm : p ≠ m := fun e' => e (by rw [hp, e'])
      have hgm : g ≠ m := fun e' => by subst e'; omega
      rw [hp, Int.toNat_natCast] at hg
      obtain ⟨l', x, e1, e2, e3, e4, e5, e6⟩ := endO_rt f _ g h3 (by rw [List.length_set]; omega) (by omega)
      rw [List.length_set] at e3 e4
      have hsh : ∀ y z, Rt l y z → Rt (l.set m (g : Int)) y z := fun y z h => short_rt hm hp hg hpm hgm h
      refine ⟨l', x, e1, e2, e3, e4, ?_, fun y z h => e6 y z (hsh y z h)⟩
      obtain ⟨x', hx', hr'⟩ := h.rt_ex hm
      have h8 : Rt l g x' := by
        cases hr' with
        | root h9 => exact absurd h9 e
        | step h9 hn hr9 =>
          rw [hp] at h9
          have : p = _ := Int.ofNat.inj h9
          subst this
          cases hr9 with
          | root h10 =>
            rw [hg] at h10
            have : g = p := Int.ofNat.inj h10
            rw [this]
            exact .root (by rw [hg, this])
          | step h10 _ hr10 =>
            rw [hg] at h10
            have : g = _ := Int.ofNat.inj h10
            rw [this]
            exact hr10
      have := (hsh g x' h8).fun_ e5
      rw [← this]
      exact hr'
/-- Two rows that lead to the same ends. -/
theorem Uf.rt_back {l l' : List Int} {J : Nat} {r : Nat → Nat} (h : Uf l J r) (hl : ∀ y z, Rt l y z → Rt l' y z) {y z : Nat} (hy : y < l.length) (h' : Rt l' y z) : Rt l y z := by
  obtain ⟨x, _, hx⟩ := h.rt_ex hy
  have := (hl y x hx).fun_ h'
  rw [← this]
  exact hx
/-- The numbers of a pair's states. -/
def n1 (p : Pr) : Nat := (1 + p.1).toNat
def n2 (s : Int) (p : Pr) : Nat := (other s p).toNat
/-- What pairs join. -/
inductive Conn (s : Int) (T : List Pr) : Nat → Nat → Prop
  | refl (x : Nat) : Conn s T x x
  | pair {p : Pr} (h : p ∈ T) : Conn s T (n1 p) (n2 s p)
  | symm {x y : Nat} (h : Conn s T x y) : Conn s T y x
  | trans {x y z : Nat} (h : Conn s T x y) (h' : Conn s T y z) : Conn s T x z
theorem Conn.mono {s : Int} {T T' : List Pr} (hT : ∀ p ∈ T, p ∈ T') {x y : Nat} (h : Conn s T x y) : Conn s T' x y := by
  induction h with
  | refl x => exact .refl x
  | pair h => exact .pair (hT _ h)
  | symm _ ih => exact .symm ih
  | trans _ _ ih1 ih2 => exact .trans ih1 ih2
/-- A row tells just what the pairs join. -/
structure Jo (s : Int) (T : List Pr) (l : List Int) (J : Nat) (r : Nat → Nat) : Prop where
  uf : Uf l J r
  conn : ∀ x y, x < l.length → y < l.length → (Conn s T x y ↔ ∃ z, Rt l x z ∧ Rt l y z)
theorem jo0 (s : Int) (n : Nat) : Jo s [] (upTo n n) 0 fun _ => 0 := by
  refine ⟨uf0 n, fun x y hx hy => ?_⟩
  have hl : (upTo n n).length = n := by simp [upTo]
  rw [hl] at hx hy
  constructor
  · intro h
    have : x = y := by
      clear hx hy
      induction h with
      | refl => rfl
      | pair h => cases h
      | symm _ ih => exact ih.symm
      | trans _ _ ih1 ih2 => exact ih1.trans ih2
    subst this
    exact ⟨x, .root (upTo_get hx), .root (upTo_get hx)⟩
  · rintro ⟨z, h1, h2⟩
    have e1 := (Rt.root (upTo_get hx)).fun_ h1
    have e2 := (Rt.root (upTo_get hy)).fun_ h2
    rw [e1, e2]
    exact .refl z
/-- A union of two ends. -/
theorem union_rt {l : List Int} {x y : Nat} (hx : x < l.length) (hxr : l.getD x 0 = (x : Int)) (hyr : l.getD y 0 = (y : Int)) (hne : x ≠ y) {m z : Nat} (h : Rt l m z) : Rt (l.set x (y : Int)) m (if z = x then y else z) := by
  induction h with
  | @root m h =>
    by_cases e : m = x
    · rw [if_pos e, e]
      refine .step (y := y) (by rw [getD_setI hx, if_pos rfl]) (Ne.symm hne) (.root ?_)
      rw [getD_setI hx, if_neg hne]
      exact hyr
    · rw [if_neg e]
      exact .root (by rw [getD_setI hx, if_neg (Ne.symm e)]; exact h)
  | @step m m' z h hn hr ih =>
    have e : x ≠ m := fun e => by
      subst e
      rw [hxr] at h
      exact hn (Int.ofNat.inj h).symm
    exact .step (by rw [getD_setI hx, if_neg e]; exact h) hn ih
theorem num_lt {a b : Mac} {q : Pr} (h : InP a b q) : n1 q < 1 + a.next.length + b.next.length ∧ n2 a.next.length q < 1 + a.next.length + b.next.length := by
  obtain ⟨⟨h1, h2⟩, h3, h4⟩ := h
  refine ⟨by unfold n1; omega, ?_⟩
  unfold n2 other
  split <;> omega
theorem joinO_jo {a b : Mac} {T : List Pr} {l : List Int} {J f : Nat} {r : Nat → Nat} {p : Pr} (h : Jo a.next.length T l J r) (hl : l.length = 1 + a.next.length + b.next.length) (hT : ∀ q ∈ T, InP a b q) (hp : InP a b p) (hf : J < f) :
    ∃ l' y, joinO f a.next.length l p = some (l', y) ∧ l'.length = l.length ∧ (∃ J' r', Jo a.next.length (p :: T) l' J' r' ∧ J' = (if y then J + 1 else J)) ∧ (y = false ↔ Conn a.next.length T (n1 p) (n2 a.next.length p)) := by
  obtain ⟨⟨p1, p2⟩, p3, p4⟩ := hp
  unfold joinO
  obtain ⟨m, hm⟩ : ∃ m : Nat, 1 + p.1 = m := ⟨(1 + p.1).toNat, by omega⟩
  obtain ⟨m', hm'⟩ : ∃ m : Nat, other a.next.length p = m := ⟨(other a.next.length p).toNat, by unfold other; split <;> omega⟩
  have en1 : n1 p = m := by unfold n1; omega
  have en2 : n2 a.next.length p = m' := by unfold n2; omega
  have hb : m' < l.length := by
    have : other a.next.length p < (l.length : Int) := by unfold other; split <;> omega
    omega
  have hma : m < l.length := by omega
  rw [hm, hm']
  obtain ⟨l1, x, e1, e2, e3, e4, e5, e6⟩ := endO_rt f l m h.uf hma (by omega)
  obtain ⟨l2, y, d1, d2, d3, d4, d5, d6⟩ := endO_rt f l1 m' e2 (by omega) (by omega)
  rw [e1]
  dsimp only
  rw [d1]
  dsimp only
  rw [Int.toNat_natCast]
  have hx : x < l2.length := by omega
  have hall : ∀ u v, Rt l u v → Rt l2 u v := fun u v h => d6 u v (e6 u v h)
  have d5' : Rt l m' y := h.uf.rt_back e6 hb d5
  have hx2 := (hall _ _ e5).end_
  have hy2 := (hall _ _ d5').end_
  have hlen : l2.length = l.length := by omega
  have hconn : Conn a.next.length T m m' ↔ x = y := by
    rw [h.conn m m' hma hb]
    constructor
    · rintro ⟨z, h1, h2⟩
      rw [e5.fun_ h1, d5'.fun_ h2]
    · intro e
      subst e
      exact ⟨x, e5, d5'⟩
  obtain ⟨_, _, k1, _, J', r', k2, k3⟩ := joinO_some (f := f) (p := p) h.uf hl ⟨⟨p1, p2⟩, p3, p4⟩ hf
  unfold joinO at k1
  rw [hm, hm', e1] at k1
  dsimp only at k1
  rw [d1] at k1
  dsimp only at k1
  rw [Int.toNat_natCast] at k1
  simp only [Option.some.injEq, Prod.mk.injEq] at k1
  obtain ⟨rfl, rfl⟩ := k1
  refine ⟨_, _, rfl, by rw [List.length_set, hlen], ⟨J', r', ⟨k2, ?_⟩, k3⟩, ?_⟩
  · intro u v hu hv
    rw [List.length_set, hlen] at hu hv
    obtain ⟨zu, hzu, ru⟩ := h.uf.rt_ex hu
    obtain ⟨zv, hzv, rv⟩ := h.uf.rt_ex hv
    have ru2 := hall _ _ ru
    have rv2 := hall _ _ rv
    by_cases e : x = y
    · subst e
      have hset : l2.set x (x : Int) = l2 := by
        apply List.ext_getElem (by simp)
        intro i h1 h2
        rw [List.getElem_set]
        split
        · rename_i e; subst e
          simpa [hx] using hx2.symm
        · rfl
      rw [hset]
      have hTT : ∀ u v, Conn a.next.length (p :: T) u v → Conn a.next.length T u v := fun u v hc => by
        induction hc with
        | refl x => exact .refl x
        | pair h' =>
          rcases List.mem_cons.1 h' with rfl | h'
          · rw [en1, en2]; exact hconn.2 rfl
          · exact .pair h'
        | symm _ ih => exact .symm ih
        | trans _ _ ih1 ih2 => exact .trans ih1 ih2
      constructor
      · intro hc
        obtain ⟨z, h1, h2⟩ := (h.conn u v hu hv).1 (hTT _ _ hc)
        exact ⟨z, hall _ _ h1, hall _ _ h2⟩
      · rintro ⟨z, h1, h2⟩
        have q1 := ru2.fun_ h1
        have q2 := rv2.fun_ h2
        subst q1
        have : zu = zv := q2.symm
        subst this
        exact ((h.conn u v hu hv).2 ⟨zu, ru, rv⟩).mono fun _ h => List.mem_cons_of_mem _ h
    · have U := fun {m z : Nat} (h : Rt l2 m z) => union_rt hx hx2 hy2 e h
      have key : ∀ w z, w < l.length → Rt l w z → ∃ z', Rt (l2.set x (y : Int)) w z' ∧ z' = (if z = x then y else z) := fun w z _ h => ⟨_, U (hall _ _ h), rfl⟩
      have hsound : ∀ w, w < l.length → ∀ z, Rt l w z → Conn a.next.length T w z := fun w hw z hz => by
        have hzl : z < l.length := by
          obtain ⟨z', hz', hr'⟩ := h.uf.rt_ex hw
          rw [hz.fun_ hr']
          exact hz'
        exact (h.conn w z hw hzl).2 ⟨z, hz, .root hz.end_⟩
      constructor
      · intro hc
        -- ends are equal along a chain
        have gen : ∀ u v, Conn a.next.length (p :: T) u v → (u < l.length → v < l.length ∧ ∃ z, Rt (l2.set x (y : Int)) u z ∧ Rt (l2.set x (y : Int)) v z) ∧ (v < l.length → u < l.length ∧ ∃ z, Rt (l2.set x (y : Int)) u z ∧ Rt (l2.set x (y : Int)) v z) := by
          intro u v hc
          induction hc with
          | refl w =>
            have : w < l.length → w < l.length ∧ ∃ z, Rt (l2.set x (y : Int)) w z ∧ Rt (l2.set x (y : Int)) w z := fun hw => by
              obtain ⟨z, _, hz⟩ := h.uf.rt_ex hw
              exact ⟨hw, _, U (hall _ _ hz), U (hall _ _ hz)⟩
            exact ⟨this, this⟩
          | @pair q hq =>
            have hnl : n1 q < l.length ∧ n2 a.next.length q < l.length := by
              rw [hl]
              rcases List.mem_cons.1 hq with rfl | hq
              · exact num_lt ⟨⟨p1, p2⟩, p3, p4⟩
              · exact num_lt (hT q hq)
            have hz : ∃ z, Rt (l2.set x (y : Int)) (n1 q) z ∧ Rt (l2.set x (y : Int)) (n2 a.next.length q) z := by
              rcases List.mem_cons.1 hq with rfl | hq
              · rw [en1, en2]
                have u1 := U (hall _ _ e5)
                have u2 := U (hall _ _ d5')
                rw [if_pos rfl] at u1
                rw [if_neg (Ne.symm e)] at u2
                exact ⟨y, u1, u2⟩
              · obtain ⟨z, h1, h2⟩ := (h.conn _ _ hnl.1 hnl.2).1 (.pair hq)
                exact ⟨_, U (hall _ _ h1), U (hall _ _ h2)⟩
            exact ⟨fun _ => ⟨hnl.2, hz⟩, fun _ => ⟨hnl.1, hz⟩⟩
          | symm _ ih =>
            exact ⟨fun hv => by obtain ⟨h1, z, h2, h3⟩ := ih.2 hv; exact ⟨h1, z, h3, h2⟩, fun hu => by obtain ⟨h1, z, h2, h3⟩ := ih.1 hu; exact ⟨h1, z, h3, h2⟩⟩
          | trans _ _ ih1 ih2 =>
            refine ⟨fun hu => ?_, fun hv => ?_⟩
            · obtain ⟨h1, z, h2, h3⟩ := ih1.1 hu
              obtain ⟨h4, z', h5, h6⟩ := ih2.1 h1
              rw [h3.fun_ h5] at h2
              exact ⟨h4, z', h2, h6⟩
            · obtain ⟨h1, z, h2, h3⟩ := ih2.2 hv
              obtain ⟨h4, z', h5, h6⟩ := ih1.2 h1
              rw [h2.fun_ h6] at h3
              exact ⟨h4, z', h5, h3⟩
        exact ((gen u v hc).1 hu).2
      · rintro ⟨z, h1, h2⟩
        have q1 := (U ru2).fun_ h1
        have q2 := (U rv2).fun_ h2
        have cu := (hsound u hu zu ru).mono fun _ h => List.mem_cons_of_mem p h
        have cv := (hsound v hv zv rv).mono fun _ h => List.mem_cons_of_mem p h
        have cx : Conn a.next.length (p :: T) x y := by
          have c1 := (hsound m hma x e5).mono fun _ h => List.mem_cons_of_mem p h
          have c2 := (hsound m' hb y d5').mono fun _ h => List.mem_cons_of_mem p h
          have c3 : Conn a.next.length (p :: T) m m' := by
            have := Conn.pair (s := a.next.length) (T := p :: T) (p := p) List.mem_cons_self
            rwa [en1, en2] at this
          exact (c1.symm.trans c3).trans c2
        have czz : Conn a.next.length (p :: T) zu zv := by
          rw [← q1] at q2
          by_cases eu : zu = x
          · rw [if_pos eu] at q2
            by_cases ev : zv = x
            · rw [eu, ev]; exact .refl x
            · rw [if_neg ev] at q2
              rw [eu, q2]; exact cx
          · rw [if_neg eu] at q2
            by_cases ev : zv = x
            · rw [if_pos ev] at q2
              rw [ev, ← q2]; exact cx.symm
            · rw [if_neg ev] at q2
              rw [q2]; exact .refl zu
        exact (cu.trans czz).trans cv.symm
  · rw [en1, en2, hconn]
    simp only [decide_eq_false_iff_not, Decidable.not_not, ne_eq]
    exact ⟨fun h => Int.ofNat.inj h, fun h => by rw [h]⟩
end Go.Proofs.Ytiekaicbjinbaaa.A
end
section
namespace Go.Proofs.Ytiekaicbjinbaaa.A
def runP (a b : Mac) : Pr → List Int → Pr
  | p, [] => p
  | p, k :: w => runP a b (leadP a b p k) w
def runS (m : Mac) : Int → List Int → Int
  | s, [] => s
  | s, k :: w => runS m (lead m s k) w
def OkW (a : Mac) (w : List Int) : Prop := ∀ k ∈ w, 0 ≤ k ∧ k < a.letters
theorem runP_run (a b : Mac) : ∀ (w : List Int) (p : Pr), runP a b p w = (runS a p.1 w, runS b p.2 w)
  | [], _ => rfl
  | k :: w, p => runP_run a b w (leadP a b p k)
theorem runP_app (a b : Mac) : ∀ (u v : List Int) (p : Pr), runP a b p (u ++ v) = runP a b (runP a b p u) v
  | [], _, _ => rfl
  | k :: u, v, p => runP_app a b u v (leadP a b p k)
theorem runS_none (m : Mac) : ∀ w : List Int, runS m (-1) w = -1
  | [] => rfl
  | _ :: w => runS_none m w
theorem Two.run {a b : Mac} (h : Two a b) : ∀ {w : List Int} {p : Pr}, OkW a w → InP a b p → InP a b (runP a b p w)
  | [], _, _, hp => hp
  | k :: w, _, hw, hp => h.run (w := w) (fun x hx => hw x (List.mem_cons_of_mem _ hx)) (h.lead hp (hw k List.mem_cons_self).1 (hw k List.mem_cons_self).2)
theorem OkW.app {a : Mac} {u v : List Int} (hu : OkW a u) (hv : OkW a v) : OkW a (u ++ v) := fun k hk => (List.mem_append.1 hk).elim (hu k) (hv k)
theorem OkW.left {a : Mac} {u v : List Int} (h : OkW a (u ++ v)) : OkW a u := fun k hk => h k (List.mem_append.2 (.inl hk))
theorem OkW.right {a : Mac} {u v : List Int} (h : OkW a (u ++ v)) : OkW a v := fun k hk => h k (List.mem_append.2 (.inr hk))
/-! ### The order of words -/
def lexLt : List Int → List Int → Prop
  | a :: u, b :: v => a < b ∨ (a = b ∧ lexLt u v)
  | _, _ => False
def sl (u v : List Int) : Prop := u.length < v.length ∨ (u.length = v.length ∧ lexLt u v)
theorem lexLt_irr : ∀ u, ¬ lexLt u u
  | [], h => h
  | a :: u, h => by
    rcases h with h | ⟨_, h⟩
    · omega
    · exact lexLt_irr u h
theorem lexLt_trans : ∀ {u v w : List Int}, lexLt u v → lexLt v w → lexLt u w
  | [], _, _, h, _ => h.elim
  | _ :: _, [], _, h, _ => h.elim
  | _ :: _, _ :: _, [], _, h => h.elim
  | a :: u, b :: v, c :: w, h, h' => by
    rcases h with h | ⟨rfl, h⟩
    · rcases h' with h' | ⟨rfl, h'⟩
      · exact .inl (by omega)
      · exact .inl h
    · rcases h' with h' | ⟨rfl, h'⟩
      · exact .inl h'
      · exact .inr ⟨rfl, lexLt_trans h h'⟩
theorem lexLt_tri : ∀ {u v : List Int}, u.length = v.length → u = v ∨ lexLt u v ∨ lexLt v u
  | [], [], _ => .inl rfl
  | [], _ :: _, h => by simp at h
  | _ :: _, [], h => by simp at h
  | a :: u, b :: v, h => by
    rcases Int.lt_trichotomy a b with e | e | e
    · exact .inr (.inl (.inl e))
    · subst e
      rcases lexLt_tri (u := u) (v := v) (by simpa using h) with e | e | e
      · exact .inl (by rw [e])
      · exact .inr (.inl (.inr ⟨rfl, e⟩))
      · exact .inr (.inr (.inr ⟨rfl, e⟩))
    · exact .inr (.inr (.inl e))
theorem lexLt_app : ∀ {u v : List Int} (x y : List Int), lexLt u v → lexLt (u ++ x) (v ++ y)
  | [], _, _, _, h => h.elim
  | _ :: _, [], _, _, h => h.elim
  | a :: u, b :: v, x, y, h => by
    rcases h with h | ⟨e, h⟩
    · exact .inl h
    · exact .inr ⟨e, lexLt_app x y h⟩
theorem lexLt_pre : ∀ (u : List Int) {x y : List Int}, lexLt x y → lexLt (u ++ x) (u ++ y)
  | [], _, _, h => h
  | _ :: u, _, _, h => .inr ⟨rfl, lexLt_pre u h⟩
theorem sl_irr (u : List Int) : ¬ sl u u := fun h => h.elim (fun h => by omega) fun h => lexLt_irr u h.2
theorem sl_trans {u v w : List Int} (h : sl u v) (h' : sl v w) : sl u w := by
  rcases h with h | ⟨e, h⟩ <;> rcases h' with h' | ⟨e', h'⟩
  · exact .inl (by omega)
  · exact .inl (by omega)
  · exact .inl (by omega)
  · exact .inr ⟨by omega, lexLt_trans h h'⟩
theorem sl_tri (u v : List Int) : u = v ∨ sl u v ∨ sl v u := by
  rcases Nat.lt_trichotomy u.length v.length with h | h | h
  · exact .inr (.inl (.inl h))
  · rcases lexLt_tri h with e | e | e
    · exact .inl e
    · exact .inr (.inl (.inr ⟨h, e⟩))
    · exact .inr (.inr (.inr ⟨h.symm, e⟩))
  · exact .inr (.inr (.inl h))
theorem sl_app {u v : List Int} (h : sl u v) {x y : List Int} (hxy : x.length = y.length) : sl (u ++ x) (v ++ y) := by
  rcases h with h | ⟨e, h⟩
  · exact .inl (by simp; omega)
  · exact .inr ⟨by simp [e, hxy], lexLt_app x y h⟩
theorem sl_snoc (u : List Int) {j k : Int} (h : j < k) : sl (u ++ [j]) (u ++ [k]) := .inr ⟨by simp, lexLt_pre u (.inl h)⟩
theorem sl_long (u : List Int) {v : List Int} (h : v ≠ []) : sl u (u ++ v) := .inl (by
  rcases v with _ | _
  · exact absurd rfl h
  · simp)
/-- A least one of some words of one length. -/
theorem lex_least (L : Int) : ∀ (n : Nat) (S : List Int → Prop), (∃ w, w.length = n ∧ (∀ k ∈ w, 0 ≤ k) ∧ S w) → ∃ w, w.length = n ∧ S w ∧ ∀ v, v.length = n → (∀ k ∈ v, 0 ≤ k) → S v → ¬ lexLt v w
  | 0, S, ⟨w, hw, _, hS⟩ => by
    obtain rfl := List.eq_nil_of_length_eq_zero hw
    exact ⟨[], rfl, hS, fun v hv _ _ h => by
      obtain rfl := List.eq_nil_of_length_eq_zero hv
      exact h⟩
  | n + 1, S, ⟨w, hw, hk, hS⟩ => by
    have : ∃ i : Nat, ∃ w' : List Int, w'.length = n ∧ (∀ k ∈ w', 0 ≤ k) ∧ S ((i : Int) :: w') := by
      match w, hw with
      | a :: w', hw =>
        have h0 := hk a List.mem_cons_self
        exact ⟨a.toNat, w', by simpa using hw, fun k h => hk k (List.mem_cons_of_mem _ h), by rwa [Int.toNat_of_nonneg h0]⟩
    have hP : ∃ i : Nat, (∃ w' : List Int, w'.length = n ∧ (∀ k ∈ w', 0 ≤ k) ∧ S ((i : Int) :: w')) ∧ ∀ j, j < i → ¬ ∃ w' : List Int, w'.length = n ∧ (∀ k ∈ w', 0 ≤ k) ∧ S ((j : Int) :: w') := by
      obtain ⟨i, hi⟩ := this
      induction i using Nat.strongRecOn with
      | _ i ih =>
        by_cases hj : ∃ j, j < i ∧ ∃ w' : List Int, w'.length = n ∧ (∀ k ∈ w', 0 ≤ k) ∧ S ((j : Int) :: w')
        · obtain ⟨j, hj, h⟩ := hj
          exact ih j hj h
        · exact ⟨i, hi, fun j hj' h => hj ⟨j, hj', h⟩⟩
    obtain ⟨i, h1, h2⟩ := hP
    obtain ⟨w', hw', hS', hm⟩ := lex_least L n (fun w' => S ((i : Int) :: w')) h1
    refine ⟨(i : Int) :: w', by simp [hw'], hS', fun v hv hk' hSv hlt => ?_⟩
    match v, hv with
    | c :: v', hv =>
      have hc := hk' c List.mem_cons_self
      rcases hlt with hlt | ⟨rfl, hlt⟩
      · exact h2 c.toNat (by omega) ⟨v', by simpa using hv, fun k h => hk' k (List.mem_cons_of_mem _ h), by rwa [Int.toNat_of_nonneg hc]⟩
      · exact hm v' (by simpa using hv) (fun k h => hk' k (List.mem_cons_of_mem _ h)) hSv hlt
/-! ### Words that tell apart -/
def Dist (a b : Mac) (w : List Int) : Prop := OkW a w ∧ agree a b (runP a b (a.start, b.start) w) = false
def Least0 (a b : Mac) (w : List Int) : Prop := Dist a b w ∧ ∀ v, Dist a b v → ¬ sl v w
theorem least_dist {a b : Mac} (h : ∃ w, Dist a b w) : ∃ w, Least0 a b w := by
  have h1 : ∃ n, (∃ w : List Int, w.length = n ∧ Dist a b w) ∧ ∀ m, m < n → ¬ ∃ w : List Int, w.length = m ∧ Dist a b w := by
    obtain ⟨w, hw⟩ := h
    have gen : ∀ n, (∃ w : List Int, w.length = n ∧ Dist a b w) → ∃ n, (∃ w : List Int, w.length = n ∧ Dist a b w) ∧ ∀ m, m < n → ¬ ∃ w : List Int, w.length = m ∧ Dist a b w := by
      intro n
      induction n using Nat.strongRecOn with
      | _ n ih =>
        intro hn
        by_cases hj : ∃ m, m < n ∧ ∃ w : List Int, w.length = m ∧ Dist a b w
        · obtain ⟨m, hm, h⟩ := hj
          exact ih m hm h
        · exact ⟨n, hn, fun m hm h => hj ⟨m, hm, h⟩⟩
    exact gen w.length ⟨w, rfl, hw⟩
  obtain ⟨n, ⟨w, hwn, hw⟩, hmin⟩ := h1
  obtain ⟨w', h2, h3, h4⟩ := lex_least 0 n (Dist a b) ⟨w, hwn, fun k hk => (hw.1 k hk).1, hw⟩
  refine ⟨w', h3, fun v hv hsl => ?_⟩
  rcases hsl with hsl | ⟨e, hsl⟩
  · exact hmin v.length (by omega) ⟨v, rfl, hv⟩
  · exact h4 v (by omega) (fun k hk => (hv.1 k hk).1) hv hsl
/-- Whether a number ends behind a word. -/
def ev (a b : Mac) (v : List Int) (n : Nat) : Bool := if n ≤ a.next.length then ends a (runS a ((n : Int) - 1) v) else ends b (runS b ((n : Int) - 1 - a.next.length) v)
theorem ev_pair {a b : Mac} {p : Pr} (hp : InP a b p) (v : List Int) : ev a b v (n1 p) = ends a (runS a p.1 v) ∧ ev a b v (n2 a.next.length p) = ends b (runS b p.2 v) := by
  obtain ⟨⟨h1, h2⟩, h3, h4⟩ := hp
  constructor
  · unfold ev n1
    rw [if_pos (by omega), show (((1 + p.1).toNat : Nat) : Int) - 1 = p.1 by omega]
  · unfold ev n2 other
    by_cases e : p.2 = -1
    · rw [if_pos e, if_pos (by simp), e]
      rw [show (((0 : Int).toNat : Nat) : Int) - 1 = -1 by simp, runS_none, runS_none]
      rfl
    · rw [if_neg e, if_neg (by omega), show (((1 + (a.next.length : Int) + p.2).toNat : Nat) : Int) - 1 - a.next.length = p.2 by omega]
theorem Conn.ev {a b : Mac} {T : List Pr} {v : List Int} (hT : ∀ p ∈ T, InP a b p) (he : ∀ p ∈ T, agree a b (runP a b p v) = true) {x y : Nat} (h : Conn a.next.length T x y) : ev a b v x = ev a b v y := by
  induction h with
  | refl => rfl
  | @pair p h =>
    have h1 := ev_pair (hT p h) v
    have h2 := he p h
    rw [runP_run] at h2
    simp only [agree, beq_iff_eq] at h2
    rw [h1.1, h1.2, h2]
  | symm _ ih => exact ih.symm
  | trans _ _ ih1 ih2 => exact ih1.trans ih2
/-! ### What the search keeps -/
structure Tra (a b : Mac) (ts : List Tr) (W : Nat → List Int) : Prop where
  pos : 0 < ts.length
  zero : W 0 = []
  pr : ∀ i (h : i < ts.length), ts[i].p = runP a b (a.start, b.start) (W i)
  ok : ∀ i, i < ts.length → OkW a (W i)
  ag : ∀ i (h : i < ts.length), agree a b ts[i].p = true
  inc : ∀ i j, i < j → j < ts.length → sl (W i) (W j)
  bk : ∀ i (h : i < ts.length), 0 < i → ∃ m : Nat, ts[i].before = (m : Int) ∧ m < i ∧ W i = W m ++ [ts[i].letter]
/-- The word behind trail i by letter j was looked at. -/
def Exd (a b : Mac) (ts : List Tr) (W : Nat → List Int) (i : Nat) (j : Int) : Prop :=
  (∃ i', i' < ts.length ∧ W i' = W i ++ [j]) ∨ ∃ m, m ≤ ts.length ∧ (∀ i', i' < m → sl (W i') (W i ++ [j])) ∧ Conn a.next.length ((ts.take m).map Tr.p) (n1 (runP a b (a.start, b.start) (W i ++ [j]))) (n2 a.next.length (runP a b (a.start, b.start) (W i ++ [j])))
/-- No least word that tells apart, where all its beginnings were looked at. -/
theorem Tra.none {a b : Mac} (h2 : Two a b) {ts : List Tr} {W : Nat → List Int} (h : Tra a b ts W) {w0 : List Int} (hw : Least0 a b w0) (hex : ∀ i j v, i < ts.length → w0 = W i ++ [j] ++ v → Exd a b ts W i j) : False := by
  have hst : InP a b (a.start, b.start) := ⟨h2.fa.start, h2.fb.start⟩
  have gen : ∀ (n : Nat), n ≤ w0.length → ∃ i, i < ts.length ∧ W i = w0.take n := by
    intro n
    induction n with
    | zero => intro _; exact ⟨0, h.pos, by rw [h.zero]; rfl⟩
    | succ n ih =>
      intro hn
      obtain ⟨i, hi, e⟩ := ih (by omega)
      have e1 : w0.take (n + 1) = W i ++ [w0[n]] := by rw [List.take_succ_eq_append_getElem (by omega), e]
      have e2 : w0 = W i ++ [w0[n]] ++ w0.drop (n + 1) := by rw [← e1, List.take_append_drop]
      rcases hex i w0[n] _ hi e2 with ⟨i', hi', e'⟩ | ⟨m, hm, hs, hc⟩
      · exact ⟨i', hi', by rw [e', e1]⟩
      · exfalso
        -- one of the joined pairs is told apart by what is left
        have hok := hw.1.1
        rw [e2] at hok
        have hT : ∀ p ∈ (ts.take m).map Tr.p, InP a b p := fun p hp => by
          obtain ⟨t, ht, rfl⟩ := List.mem_map.1 hp
          obtain ⟨i', hi', rfl⟩ := List.getElem_of_mem ht
          have hlt : i' < ts.length := by rw [List.length_take] at hi'; omega
          rw [List.getElem_take, h.pr i' hlt]
          exact h2.run (h.ok i' hlt) hst
        have hne : ¬ ∀ p ∈ (ts.take m).map Tr.p, agree a b (runP a b p (w0.drop (n + 1))) = true := fun hall => by
          have h3 := hc.ev hT hall
          have hin : InP a b (runP a b (a.start, b.start) (W i ++ [w0[n]])) := h2.run hok.left hst
          obtain ⟨h4, h5⟩ := ev_pair hin (w0.drop (n + 1))
          rw [h4, h5] at h3
          have h6 := hw.1.2
          rw [e2, runP_app, runP_run] at h6
          unfold agree at h6
          dsimp only at h6
          rw [h3] at h6
          simp at h6
        obtain ⟨p, hp⟩ := Classical.not_forall.1 hne
        obtain ⟨hp, hpa⟩ := Classical.not_imp.1 hp
        obtain ⟨t, ht, rfl⟩ := List.mem_map.1 hp
        obtain ⟨i', hi', rfl⟩ := List.getElem_of_mem ht
        have him : i' < m := by rw [List.length_take] at hi'; omega
        have hlt : i' < ts.length := by omega
        rw [List.getElem_take, h.pr i' hlt, ← runP_app] at hpa
        refine hw.2 (W i' ++ w0.drop (n + 1)) ⟨(h.ok i' hlt).app hok.right, by simpa using hpa⟩ ?_
        have h7 := sl_app (hs i' him) (x := w0.drop (n + 1)) (y := w0.drop (n + 1)) rfl
        rwa [← e2] at h7
  obtain ⟨i, hi, e⟩ := gen w0.length (Nat.le_refl _)
  rw [List.take_length] at e
  have h1 := h.ag i hi
  rw [h.pr i hi, e, hw.1.2] at h1
  cases h1
end Go.Proofs.Ytiekaicbjinbaaa.A
end
section
namespace Go.Proofs.Ytiekaicbjinbaaa.A
theorem Sim.run {m a : Mac} {R : Int → Int → Prop} (h : Sim m a R) : ∀ (w : List Int) (x y : Int), OkW m w → R x y → R (runS m x w) (runS a y w)
  | [], _, _, _, hR => hR
  | k :: w, x, y, hw, hR => by
    obtain ⟨h0, h1⟩ := hw k List.mem_cons_self
    obtain ⟨n, rfl⟩ := Int.eq_ofNat_of_zero_le h0
    exact h.run w _ _ (fun j hj => hw j (List.mem_cons_of_mem _ hj)) (h.ld x y hR n h1)
theorem Sim.dist {a b x y : Mac} {R S : Int → Int → Prop} (ha : Sim a x R) (hb : Sim b y S) (hl : a.letters = b.letters) (w : List Int) : Dist a b w ↔ Dist x y w := by
  have e1 : OkW a w ↔ OkW x w := by unfold OkW; rw [ha.ll]
  unfold Dist
  rw [e1]
  refine and_congr_right fun hx => ?_
  have hw := e1.2 hx
  have hwb : OkW b w := fun k hk => by rw [← hl]; exact hw k hk
  have g1 := ha.en _ _ (ha.run w _ _ hw ha.st)
  have g2 := hb.en _ _ (hb.run w _ _ hwb hb.st)
  rw [runP_run, runP_run]
  unfold agree
  dsimp only
  rw [g1, g2]
theorem Sim.least {a b x y : Mac} {R S : Int → Int → Prop} (ha : Sim a x R) (hb : Sim b y S) (hl : a.letters = b.letters) (w : List Int) : Least0 a b w ↔ Least0 x y w := by
  unfold Least0
  rw [ha.dist hb hl w]
  exact and_congr_right fun _ => ⟨fun h v hv => h v ((ha.dist hb hl v).2 hv), fun h v hv => h v ((ha.dist hb hl v).1 hv)⟩
/-! ### The walk of two machines -/
def wput (ws : List Tr) (p : Pr) (bf l : Int) : List Tr := if (0 ≤ p.1 ∨ 0 ≤ p.2) ∧ p ∉ ws.map Tr.p then ws ++ [⟨p, bf, l⟩] else ws
def wrow (a b : Mac) (i : Nat) (p : Pr) : Nat → List Tr → List Tr
  | 0, ws => ws
  | k + 1, ws => wput (wrow a b i p k ws) (leadP a b p k) i k
def wlkO (a b : Mac) : Nat → Nat → List Tr → Option (List Tr)
  | f, i, ws => if h : i < ws.length then (match f with
    | 0 => none
    | n + 1 => wlkO a b n (i + 1) (wrow a b i ws[i].p a.letters.toNat ws)) else some ws
def wlk0 (a b : Mac) : List Tr := wput [] (a.start, b.start) (-1) (-1)
/-- A word's pair is nowhere, or stands in the walk no later than by the word. -/
def Seen (a b : Mac) (ws : List Tr) (W : Nat → List Int) (u : List Int) : Prop := runP a b (a.start, b.start) u = (-1, -1) ∨ ∃ j, ∃ h : j < ws.length, ws[j].p = runP a b (a.start, b.start) u ∧ (W j = u ∨ sl (W j) u)
structure WT (a b : Mac) (i k : Nat) (ws : List Tr) (W : Nat → List Int) : Prop where
  pr : ∀ j (h : j < ws.length), ws[j].p = runP a b (a.start, b.start) (W j)
  ok : ∀ j, j < ws.length → OkW a (W j)
  inc : ∀ j j', j < j' → j' < ws.length → sl (W j) (W j')
  bk : ∀ j (h : j < ws.length), (ws[j].before = -1 ∧ W j = []) ∨ ∃ m : Nat, ws[j].before = (m : Int) ∧ m < j ∧ 0 ≤ ws[j].letter ∧ W j = W m ++ [ws[j].letter] ∧ (m < i ∨ (m = i ∧ ws[j].letter < k))
  sn : Seen a b ws W []
  cl : ∀ j, j < ws.length → ∀ l : Nat, (l : Int) < a.letters → (j < i ∨ (j = i ∧ l < k)) → Seen a b ws W (W j ++ [(l : Int)])
theorem WT.older {a b : Mac} {i k : Nat} {ws : List Tr} {W : Nat → List Int} (h : WT a b i k ws W) (hi : i < ws.length) {j : Nat} (hj : j < ws.length) : sl (W j) (W i ++ [(k : Int)]) := by
  rcases h.bk j hj with ⟨_, e⟩ | ⟨m, _, _, _, e, hm | ⟨rfl, hm⟩⟩
  · rw [e]
    exact .inl (by simp)
  · rw [e]
    exact sl_app (h.inc m i hm hi) rfl
  · rw [e]
    exact sl_snoc _ hm
theorem Seen.app {a b : Mac} {ws : List Tr} {W W' : Nat → List Int} {u : List Int} (h : Seen a b ws W u) (t : Tr) (hW : ∀ j, j < ws.length → W' j = W j) : Seen a b (ws ++ [t]) W' u := by
  rcases h with h | ⟨j, hj, e, hs⟩
  · exact Or.inl h
  · exact Or.inr ⟨j, by simp; omega, by rw [List.getElem_append_left hj]; exact e, by rw [hW j hj]; exact hs⟩
theorem WT.put {a b : Mac} (h2 : Two a b) {i k : Nat} {ws : List Tr} {W : Nat → List Int} (h : WT a b i k ws W) (hi : i < ws.length) (hk : (k : Int) < a.letters) : ∃ W', WT a b i (k + 1) (wput ws (leadP a b ws[i].p k) i k) W' ∧ (∀ j, j < ws.length → W' j = W j) ∧ ∃ t, wput ws (leadP a b ws[i].p k) i k = ws ++ t := by
  have hst : InP a b (a.start, b.start) := ⟨h2.fa.start, h2.fb.start⟩
  have hok : OkW a (W i ++ [(k : Int)]) := (h.ok i hi).app fun x hx => by
    rw [List.mem_singleton] at hx
    subst hx
    exact ⟨by omega, hk⟩
  have hp : leadP a b ws[i].p k = runP a b (a.start, b.start) (W i ++ [(k : Int)]) := by
    rw [runP_app, h.pr i hi]
    rfl
  have hin : InP a b (leadP a b ws[i].p k) := by rw [hp]; exact h2.run hok hst
  have same : Seen a b ws W (W i ++ [(k : Int)]) → WT a b i (k + 1) ws W := fun hs => ⟨h.pr, h.ok, h.inc, fun j hj => by
    rcases h.bk j hj with e | ⟨m, e1, e2, e3, e4, e5⟩
    · exact Or.inl e
    · exact Or.inr ⟨m, e1, e2, e3, e4, by omega⟩, h.sn, fun j hj l hl hjl => by
    by_cases e : j = i ∧ l = k
    · obtain ⟨rfl, rfl⟩ := e
      exact hs
    · exact h.cl j hj l hl (by omega)⟩
  unfold wput
  split
  · rename_i hc
    refine ⟨fun j => if j = ws.length then W i ++ [(k : Int)] else W j, ?_, fun j hj => if_neg (by omega), _, rfl⟩
    have hW : ∀ j, j < ws.length → (fun j => if j = ws.length then W i ++ [(k : Int)] else W j) j = W j := fun j hj => if_neg (by omega)
    have hWn : (fun j => if j = ws.length then W i ++ [(k : Int)] else W j) ws.length = W i ++ [(k : Int)] := if_pos rfl
    generalize (fun j => if j = ws.length then W i ++ [(k : Int)] else W j) = W' at *
    have hlen : (ws ++ [(⟨leadP a b ws[i].p k, (i : Int), (k : Int)⟩ : Tr)]).length = ws.length + 1 := by simp
    have hnew : ∀ (hx : ws.length < (ws ++ [(⟨leadP a b ws[i].p k, (i : Int), (k : Int)⟩ : Tr)]).length), (ws ++ [(⟨leadP a b ws[i].p k, (i : Int), (k : Int)⟩ : Tr)])[ws.length] = ⟨leadP a b ws[i].p k, (i : Int), (k : Int)⟩ := fun hx => by
      rw [List.getElem_append_right (Nat.le_refl _)]
      simp
    refine ⟨fun j hj => ?_, fun j hj => ?_, fun j j' hjj hj' => ?_, fun j hj => ?_, h.sn.app _ hW, fun j hj l hl hjl => ?_⟩
    · rcases Nat.lt_or_ge j ws.length with e | e
      · rw [List.getElem_append_left e, hW j e]
        exact h.pr j e
      · obtain rfl : j = ws.length := by omega
        rw [hnew, hWn]
        exact hp
    · rcases Nat.lt_or_ge j ws.length with e | e
      · rw [hW j e]
        exact h.ok j e
      · obtain rfl : j = ws.length := by omega
        rw [hWn]
        exact hok
    · rcases Nat.lt_or_ge j' ws.length with e | e
      · rw [hW j (by omega), hW j' e]
        exact h.inc j j' hjj e
      · obtain rfl : j' = ws.length := by omega
        rw [hWn, hW j hjj]
        exact h.older hi hjj
    · rcases Nat.lt_or_ge j ws.length with e | e
      · rw [List.getElem_append_left e]
        rcases h.bk j e with ⟨g1, g2⟩ | ⟨m, e1, e2, e3, e4, e5⟩
        · exact Or.inl ⟨g1, by rw [hW j e]; exact g2⟩
        · exact Or.inr ⟨m, e1, e2, e3, by rw [hW j e, hW m (by omega)]; exact e4, by omega⟩
      · obtain rfl : j = ws.length := by omega
        rw [hnew, hWn]
        exact Or.inr ⟨i, rfl, hi, by dsimp only; omega, by rw [hW i hi], Or.inr ⟨rfl, by dsimp only; omega⟩⟩
    · have hj2 : j < ws.length := by omega
      rw [hW j hj2]
      by_cases e : j = i ∧ l = k
      · obtain ⟨rfl, rfl⟩ := e
        exact Or.inr ⟨ws.length, by simp, by rw [hnew]; exact hp, Or.inl hWn⟩
      · exact (h.cl j hj2 l hl (by omega)).app _ hW
  · rename_i hc
    refine ⟨W, same ?_, fun _ _ => rfl, [], (List.append_nil _).symm⟩
    by_cases hn : 0 ≤ (leadP a b ws[i].p k).1 ∨ 0 ≤ (leadP a b ws[i].p k).2
    · have hm : leadP a b ws[i].p k ∈ ws.map Tr.p := by
        rcases Classical.em (leadP a b ws[i].p k ∈ ws.map Tr.p) with hm | hm
        · exact hm
        · exact absurd ⟨hn, hm⟩ hc
      obtain ⟨t, ht, e⟩ := List.mem_map.1 hm
      obtain ⟨j, hj, rfl⟩ := List.getElem_of_mem ht
      exact Or.inr ⟨j, hj, by rw [e, hp], Or.inr (h.older hi hj)⟩
    · refine Or.inl ?_
      rw [← hp]
      obtain ⟨⟨g1, _⟩, ⟨g2, _⟩⟩ := hin
      refine Prod.ext ?_ ?_
      · show (leadP a b ws[i].p k).1 = -1
        omega
      · show (leadP a b ws[i].p k).2 = -1
        omega
theorem getElem_appT {ws t : List Tr} {j : Nat} (hj : j < ws.length) : (ws ++ t)[j]'(by simp; omega) = ws[j] := List.getElem_append_left hj
theorem WT.row {a b : Mac} (h2 : Two a b) {i : Nat} : ∀ (n : Nat) {ws : List Tr} {W : Nat → List Int}, WT a b i 0 ws W → (hi : i < ws.length) → (n : Int) ≤ a.letters → ∃ W', WT a b i n (wrow a b i ws[i].p n ws) W' ∧ ∃ t, wrow a b i ws[i].p n ws = ws ++ t
  | 0, ws, W, h, hi, _ => ⟨W, h, [], (List.append_nil _).symm⟩
  | n + 1, ws, W, h, hi, hn => by
    obtain ⟨W1, h1, t, e⟩ := WT.row h2 n h hi (by omega)
    unfold wrow
    rw [e] at h1 ⊢
    have hi' : i < (ws ++ t).length := by simp; omega
    obtain ⟨W2, h3, _, t', e'⟩ := h1.put h2 hi' (by omega)
    rw [List.getElem_append_left hi] at h3 e'
    exact ⟨W2, h3, t ++ t', by rw [e', List.append_assoc]⟩
theorem WT.next {a b : Mac} (h2 : Two a b) {i : Nat} {ws : List Tr} {W : Nat → List Int} (h : WT a b i 0 ws W) (hi : i < ws.length) : ∃ W', WT a b (i + 1) 0 (wrow a b i ws[i].p a.letters.toNat ws) W' ∧ ∃ t, wrow a b i ws[i].p a.letters.toNat ws = ws ++ t := by
  have hl := h2.fa.letters
  obtain ⟨W', h1, t, e⟩ := h.row h2 a.letters.toNat hi (by omega)
  refine ⟨W', ⟨h1.pr, h1.ok, h1.inc, fun j hj => ?_, h1.sn, fun j hj l hl' hjl => h1.cl j hj l hl' (by omega)⟩, t, e⟩
  rcases h1.bk j hj with e | ⟨m, e1, e2, e3, e4, e5⟩
  · exact Or.inl e
  · exact Or.inr ⟨m, e1, e2, e3, e4, by omega⟩
theorem WT.start {a b : Mac} (h2 : Two a b) : WT a b 0 0 (wlk0 a b) fun _ => [] := by
  unfold wlk0 wput
  split
  · refine ⟨fun j h => ?_, fun j _ k hk => (by cases hk), fun j j' h h' => ?_, fun j h => Or.inl ⟨?_, rfl⟩, Or.inr ⟨0, by simp, rfl, Or.inl rfl⟩, fun j _ l _ h => by omega⟩
    · obtain rfl : j = 0 := by simp at h; omega
      rfl
    · simp at h'; omega
    · obtain rfl : j = 0 := by simp at h; omega
      rfl
  · rename_i hc
    refine ⟨fun j h => absurd h (Nat.not_lt_zero j), fun j h => absurd h (Nat.not_lt_zero j), fun j j' _ h => absurd h (Nat.not_lt_zero j'), fun j h => absurd h (Nat.not_lt_zero j), ?_, fun j h => absurd h (Nat.not_lt_zero j)⟩
    refine Or.inl ?_
    have h1 := h2.fa.start.1
    have h3 := h2.fb.start.1
    have hn : ¬ (0 ≤ a.start ∨ 0 ≤ b.start) := fun h => hc ⟨h, by simp⟩
    refine Prod.ext ?_ ?_
    · show a.start = -1
      omega
    · show b.start = -1
      omega
theorem Seen.all {a b : Mac} {ws : List Tr} {W : Nat → List Int} {k : Nat} (h : WT a b ws.length k ws W) : ∀ (n : Nat) (w : List Int), w.length = n → OkW a w → Seen a b ws W w
  | 0, w, hn, _ => by
    obtain rfl := List.eq_nil_of_length_eq_zero hn
    exact h.sn
  | n + 1, w, hn, hw => by
    obtain ⟨u, l, rfl⟩ : ∃ u l, w = u ++ [l] := ⟨w.dropLast, w.getLast (by intro e; subst e; cases hn), (List.dropLast_concat_getLast _).symm⟩
    have hu := Seen.all h n u (by simpa using hn) hw.left
    obtain ⟨h0, h1⟩ := hw.right l List.mem_cons_self
    obtain ⟨l, rfl⟩ := Int.eq_ofNat_of_zero_le h0
    rcases hu with hu | ⟨j, hj, e, hs⟩
    · refine Or.inl ?_
      rw [runP_app, hu]
      simp [runP, leadP, lead]
    · have hc := h.cl j hj l h1 (Or.inl hj)
      have e2 : runP a b (a.start, b.start) (W j ++ [(l : Int)]) = runP a b (a.start, b.start) (u ++ [(l : Int)]) := by
        rw [runP_app, runP_app, ← h.pr j hj, e]
      unfold Seen at hc ⊢
      rw [e2] at hc
      rcases hc with hc | ⟨j', hj', e3, hs'⟩
      · exact Or.inl hc
      · refine Or.inr ⟨j', hj', e3, ?_⟩
        have hle : W j ++ [(l : Int)] = u ++ [(l : Int)] ∨ sl (W j ++ [(l : Int)]) (u ++ [(l : Int)]) := by
          rcases hs with hs | hs
          · exact Or.inl (by rw [hs])
          · exact Or.inr (sl_app hs rfl)
        rcases hs' with hs' | hs' <;> rcases hle with hle | hle
        · exact Or.inl (by rw [hs', hle])
        · exact Or.inr (by rw [hs']; exact hle)
        · exact Or.inr (by rw [← hle]; exact hs')
        · exact Or.inr (sl_trans hs' hle)
/-- The first pair of the walk whose ends differ has the least word. -/
theorem WT.first {a b : Mac} {ws : List Tr} {W : Nat → List Int} {k j : Nat} (h : WT a b ws.length k ws W) (hj : j < ws.length) (hd : agree a b ws[j].p = false) (hb : ∀ j' (h' : j' < ws.length), j' < j → agree a b ws[j'].p = true) : Least0 a b (W j) := by
  refine ⟨⟨h.ok j hj, by rw [← h.pr j hj]; exact hd⟩, fun v hv hlt => ?_⟩
  rcases Seen.all h v.length v rfl hv.1 with e | ⟨j', hj', e, hs⟩
  · have := hv.2
    rw [e] at this
    simp [agree, ends] at this
  · have hd' := hv.2
    rw [← e] at hd'
    have hjj : j ≤ j' := by
      rcases Nat.lt_or_ge j' j with hx | hx
      · rw [hb j' hj' hx] at hd'; cases hd'
      · exact hx
    have hle : W j = W j' ∨ sl (W j) (W j') := by
      rcases Nat.lt_or_ge j j' with hx | hx
      · exact Or.inr (h.inc j j' hx hj')
      · exact Or.inl (by rw [show j = j' by omega])
    have : W j = v ∨ sl (W j) v := by
      rcases hle with hle | hle <;> rcases hs with hs | hs
      · exact Or.inl (hle.trans hs)
      · exact Or.inr (by rw [hle]; exact hs)
      · exact Or.inr (by rw [← hs]; exact hle)
      · exact Or.inr (sl_trans hle hs)
    rcases this with hx | hx
    · rw [hx] at hlt; exact sl_irr _ hlt
    · exact sl_irr _ (sl_trans hlt hx)
theorem WT.none {a b : Mac} {ws : List Tr} {W : Nat → List Int} {k : Nat} (h : WT a b ws.length k ws W) (hb : ∀ j (h' : j < ws.length), agree a b ws[j].p = true) : ¬ ∃ w, Dist a b w := by
  rintro ⟨v, hv⟩
  rcases Seen.all h v.length v rfl hv.1 with e | ⟨j, hj, e, _⟩
  · have := hv.2
    rw [e] at this
    simp [agree, ends] at this
  · have := hv.2
    rw [← e, hb j hj] at this
    cases this
end Go.Proofs.Ytiekaicbjinbaaa.A
end
section
namespace Go.Proofs.Ytiekaicbjinbaaa.A
theorem Jo.congr {s : Int} {T T' : List Pr} {l : List Int} {J : Nat} {r : Nat → Nat} (h : Jo s T l J r) (hT : ∀ x y, Conn s T x y ↔ Conn s T' x y) : Jo s T' l J r := ⟨h.uf, fun x y hx hy => (hT x y).symm.trans (h.conn x y hx hy)⟩
/-- The words of the trails lie ahead of the one at hand. -/
structure Inv (a b : Mac) (at_ : Nat) (k : Int) (ts : List Tr) (W : Nat → List Int) : Prop where
  tra : Tra a b ts W
  lt : at_ < ts.length
  bef : ∀ i (h : i < ts.length), 0 < i → ∀ m : Nat, ts[i].before = (m : Int) → m < at_ ∨ (m = at_ ∧ ts[i].letter < k)
  ex : ∀ i j, 0 ≤ j → j < a.letters → (i < at_ ∨ (i = at_ ∧ j < k)) → Exd a b ts W i j
theorem Inv.ahead {a b : Mac} {at_ : Nat} {k : Int} {ts : List Tr} {W : Nat → List Int} (h : Inv a b at_ k ts W) {i : Nat} (hi : i < ts.length) : sl (W i) (W at_ ++ [k]) := by
  rcases Nat.lt_trichotomy i at_ with e | e | e
  · exact sl_trans (h.tra.inc i at_ e h.lt) (sl_long _ (by simp))
  · rw [e]; exact sl_long _ (by simp)
  · obtain ⟨m, h1, h2, h3⟩ := h.tra.bk i hi (by omega)
    rw [h3]
    rcases h.bef i hi (by omega) m h1 with h4 | ⟨rfl, h4⟩
    · exact sl_app (h.tra.inc m at_ h4 h.lt) rfl
    · exact sl_snoc _ h4
def addW (W : Nat → List Int) (n : Nat) (x : List Int) : Nat → List Int := fun i => if i = n then x else W i
theorem Exd.more {a b : Mac} {ts : List Tr} {W : Nat → List Int} {i : Nat} {j : Int} (h : Exd a b ts W i j) (hi : i < ts.length) (t : Tr) (x : List Int) : Exd a b (ts ++ [t]) (addW W ts.length x) i j := by
  have hw : ∀ i, i < ts.length → addW W ts.length x i = W i := fun i hi => if_neg (by omega)
  rcases h with ⟨i', h1, h2⟩ | ⟨m, h1, h2, h3⟩
  · exact .inl ⟨i', by simp; omega, by rw [hw i' h1, hw i hi]; exact h2⟩
  · refine .inr ⟨m, by simp; omega, fun i' hi' => ?_, ?_⟩
    · rw [hw i' (by omega), hw i hi]; exact h2 i' hi'
    · rw [hw i hi, List.take_append_of_le_length h1]; exact h3
theorem Inv.skip {a b : Mac} {at_ : Nat} {k : Int} {ts : List Tr} {W : Nat → List Int} (h : Inv a b at_ k ts W) (hc : Conn a.next.length (ts.map Tr.p) (n1 (runP a b (a.start, b.start) (W at_ ++ [k]))) (n2 a.next.length (runP a b (a.start, b.start) (W at_ ++ [k])))) : Inv a b at_ (k + 1) ts W := by
  refine ⟨h.tra, h.lt, fun i hi h0 m hm => ?_, fun i j h0 h1 h2 => ?_⟩
  · rcases h.bef i hi h0 m hm with h | ⟨h, h'⟩
    · exact .inl h
    · exact .inr ⟨h, by omega⟩
  · by_cases e : i = at_ ∧ j = k
    · obtain ⟨rfl, rfl⟩ := e
      exact .inr ⟨ts.length, Nat.le_refl _, fun i' hi' => h.ahead hi', by rw [List.take_length]; exact hc⟩
    · exact h.ex i j h0 h1 (by
        rcases h2 with h2 | ⟨h2, h3⟩
        · exact .inl h2
        · exact .inr ⟨h2, by
            rcases Int.lt_or_eq_of_le (show j ≤ k by omega) with h4 | h4
            · exact h4
            · exact absurd ⟨h2, h4⟩ e⟩)
/-- The base of a list of trails with one more, which need not agree. -/
structure Base (a b : Mac) (ts : List Tr) (W : Nat → List Int) : Prop where
  zero : W 0 = []
  bk : ∀ i (h : i < ts.length), 0 < i → ∃ m : Nat, ts[i].before = (m : Int) ∧ m < i ∧ W i = W m ++ [ts[i].letter]
theorem Inv.base {a b : Mac} {at_ : Nat} {k : Int} {ts : List Tr} {W : Nat → List Int} (h : Inv a b at_ k ts W) (q : Pr) : Base a b (ts ++ [⟨q, at_, k⟩]) (addW W ts.length (W at_ ++ [k])) := by
  have hw : ∀ i, i < ts.length → addW W ts.length (W at_ ++ [k]) i = W i := fun i hi => if_neg (by omega)
  refine ⟨by rw [hw 0 h.tra.pos]; exact h.tra.zero, fun i hi h0 => ?_⟩
  by_cases e : i < ts.length
  · obtain ⟨m, h1, h2, h3⟩ := h.tra.bk i e h0
    refine ⟨m, by rw [List.getElem_append_left e]; exact h1, h2, ?_⟩
    rw [hw i e, hw m (by omega), List.getElem_append_left e]
    exact h3
  · have hi' : i = ts.length := by simp at hi; omega
    subst hi'
    refine ⟨at_, by rw [List.getElem_append_right (Nat.le_refl _)]; simp, h.lt, ?_⟩
    rw [hw at_ h.lt, List.getElem_append_right (Nat.le_refl _)]
    simp [addW]
theorem Inv.push {a b : Mac} {at_ : Nat} {k : Int} {ts : List Tr} {W : Nat → List Int} (h : Inv a b at_ k ts W) (h0 : 0 ≤ k) (hk : k < a.letters) (hag : agree a b (runP a b (a.start, b.start) (W at_ ++ [k])) = true) : Inv a b at_ (k + 1) (ts ++ [⟨runP a b (a.start, b.start) (W at_ ++ [k]), at_, k⟩]) (addW W ts.length (W at_ ++ [k])) := by
  have hw : ∀ i, i < ts.length → addW W ts.length (W at_ ++ [k]) i = W i := fun i hi => if_neg (by omega)
  have hwn : addW W ts.length (W at_ ++ [k]) ts.length = W at_ ++ [k] := if_pos rfl
  have hB := h.base (runP a b (a.start, b.start) (W at_ ++ [k]))
  have cas : ∀ i, i < (ts ++ [(⟨runP a b (a.start, b.start) (W at_ ++ [k]), at_, k⟩ : Tr)]).length → i < ts.length ∨ i = ts.length := fun i hi => by simp at hi; omega
  refine ⟨⟨by simp, hB.zero, fun i hi => ?_, fun i hi => ?_, fun i hi => ?_, fun i j hij hj => ?_, hB.bk⟩, by simp; have := h.lt; omega, fun i hi hp m hm => ?_, fun i j hj0 hj1 hij => ?_⟩
  · rcases cas i hi with e | rfl
    · rw [List.getElem_append_left e, hw i e]; exact h.tra.pr i e
    · rw [List.getElem_append_right (Nat.le_refl _), hwn]; simp
  · rcases cas i hi with e | rfl
    · rw [hw i e]; exact h.tra.ok i e
    · rw [hwn]
      exact (h.tra.ok at_ h.lt).app fun x hx => by rw [List.mem_singleton.1 hx]; exact ⟨h0, hk⟩
  · rcases cas i hi with e | rfl
    · rw [List.getElem_append_left e]; exact h.tra.ag i e
    · rw [List.getElem_append_right (Nat.le_refl _)]; simpa using hag
  · rcases cas j hj with e | rfl
    · rw [hw i (by omega), hw j e]; exact h.tra.inc i j hij e
    · rw [hw i hij, hwn]; exact h.ahead hij
  · rcases cas i hi with e | rfl
    · rw [List.getElem_append_left e] at hm ⊢
      rcases h.bef i e hp m hm with h | ⟨h, h'⟩
      · exact .inl h
      · exact .inr ⟨h, by omega⟩
    · rw [List.getElem_append_right (Nat.le_refl _)] at hm ⊢
      simp at hm ⊢
      exact .inr ⟨by omega, by omega⟩
  · by_cases e : i = at_ ∧ j = k
    · obtain ⟨rfl, rfl⟩ := e
      exact .inl ⟨ts.length, by simp, by rw [hwn, hw i h.lt]⟩
    · have hi : i < ts.length := by have := h.lt; omega
      exact (h.ex i j hj0 hj1 (by
        rcases hij with h2 | ⟨h2, h3⟩
        · exact .inl h2
        · exact .inr ⟨h2, by
            rcases Int.lt_or_eq_of_le (show j ≤ k by omega) with h4 | h4
            · exact h4
            · exact absurd ⟨h2, h4⟩ e⟩)).more hi _ _
theorem Inv.found {a b : Mac} (h2 : Two a b) {at_ : Nat} {k : Int} {ts : List Tr} {W : Nat → List Int} (h : Inv a b at_ k ts W) (h0 : 0 ≤ k) (hk : k < a.letters) (hag : agree a b (runP a b (a.start, b.start) (W at_ ++ [k])) = false) : Least0 a b (W at_ ++ [k]) := by
  have hd : Dist a b (W at_ ++ [k]) := ⟨(h.tra.ok at_ h.lt).app fun x hx => by rw [List.mem_singleton.1 hx]; exact ⟨h0, hk⟩, hag⟩
  refine ⟨hd, fun v hv hsl => ?_⟩
  obtain ⟨w0, hw0⟩ := least_dist ⟨v, hv⟩
  have hsl0 : sl w0 (W at_ ++ [k]) := by
    rcases sl_tri w0 v with rfl | e | e
    · exact hsl
    · exact sl_trans e hsl
    · exact absurd e (hw0.2 v hv)
  refine h.tra.none h2 hw0 fun i j v' hi e => ?_
  have hok := hw0.1.1
  rw [e] at hok
  have hj := hok.left j (by simp)
  refine h.ex i j hj.1 hj.2 ?_
  rcases Nat.lt_or_ge i at_ with e1 | e1
  · exact .inl e1
  · by_cases hjk : i = at_ ∧ j < k
    · exact .inr hjk
    exfalso
    have hle : w0 = W i ++ [j] ∨ sl (W i ++ [j]) w0 := by
      rcases v' with _ | ⟨c, v'⟩
      · exact .inl (by rw [e, List.append_nil])
      · right
        rw [e]
        exact sl_long _ (by simp)
    · have hge : W at_ ++ [k] = W i ++ [j] ∨ sl (W at_ ++ [k]) (W i ++ [j]) := by
        rcases Nat.lt_or_eq_of_le e1 with e2 | e2
        · exact .inr (sl_app (h.tra.inc at_ i e2 hi) rfl)
        · subst e2
          rcases Int.lt_or_eq_of_le (show k ≤ j by
            rcases Int.lt_or_le j k with h | h
            · exact absurd ⟨rfl, h⟩ hjk
            · exact h) with h4 | h4
          · exact .inr (sl_snoc _ h4)
          · exact .inl (by rw [h4])
      have h5 : w0 = W at_ ++ [k] ∨ sl (W at_ ++ [k]) w0 := by
        rcases hge with g | g <;> rcases hle with g' | g'
        · exact .inl (by rw [g', g])
        · exact .inr (by rw [g]; exact g')
        · exact .inr (by rw [g']; exact g)
        · exact .inr (sl_trans g g')
      rcases h5 with h5 | h5
      · rw [h5] at hsl0; exact sl_irr _ hsl0
      · exact sl_irr _ (sl_trans hsl0 h5)
theorem back_word {a b : Mac} {ts : List Tr} {W : Nat → List Int} (h : Base a b ts W) : ∀ (f i : Nat) (acc : List Int), i < f → i < ts.length → back f ts (i : Int) acc = some (acc ++ (W i).reverse)
  | 0, _, _, hf, _ => absurd hf (by omega)
  | f + 1, i, acc, hf, hi => by
    unfold back
    by_cases e : (i : Int) ≤ 0
    · rw [if_pos e]
      have : i = 0 := by omega
      subst this
      rw [h.zero]
      simp
    · rw [if_neg e, dif_pos (by simpa using hi)]
      obtain ⟨m, h1, h2, h3⟩ := h.bk i hi (by omega)
      have e1 : ts[((i : Int)).toNat]'(by simpa using hi) = ts[i] := by simp
      rw [e1, h1, back_word h f m _ (by omega) (by omega), h3]
      simp
theorem wordO_base {a b : Mac} {ts : List Tr} {W : Nat → List Int} (h : Base a b ts W) {f : Nat} (hp : 0 < ts.length) (hf : ts.length ≤ f) : wordO f ts = some (W (ts.length - 1)) := by
  unfold wordO
  rw [show ((ts.length : Int) - 1) = ((ts.length - 1 : Nat) : Int) by omega, back_word h f (ts.length - 1) [] (by omega) (by omega)]
  simp
theorem runP_snoc (a b : Mac) (p : Pr) (u : List Int) (k : Int) : runP a b p (u ++ [k]) = leadP a b (runP a b p u) k := by rw [runP_app]; rfl
theorem conn_cons {s : Int} {T : List Pr} {p : Pr} (h : Conn s T (n1 p) (n2 s p)) (x y : Nat) : Conn s (p :: T) x y ↔ Conn s T x y := by
  constructor
  · intro hc
    induction hc with
    | refl x => exact .refl x
    | pair h' =>
      rcases List.mem_cons.1 h' with rfl | h'
      · exact h
      · exact .pair h'
    | symm _ ih => exact .symm ih
    | trans _ _ ih1 ih2 => exact .trans ih1 ih2
  · exact fun h => h.mono fun _ h => List.mem_cons_of_mem _ h
theorem conn_snoc {s : Int} {T : List Pr} {p : Pr} (x y : Nat) : Conn s (p :: T) x y ↔ Conn s (T ++ [p]) x y :=
  ⟨fun h => h.mono fun q hq => by
    rcases List.mem_cons.1 hq with rfl | hq
    · exact List.mem_append.2 (.inr List.mem_cons_self)
    · exact List.mem_append.2 (.inl hq), fun h => h.mono fun q hq => by
    rcases List.mem_append.1 hq with hq | hq
    · exact List.mem_cons_of_mem _ hq
    · rw [List.mem_singleton.1 hq]; exact List.mem_cons_self⟩
/-- What the search hands back. -/
def Res (a b : Mac) (W : Nat → List Int) (at_ : Nat) (k : Int) (q : Pr) : Prop := Least0 a b (W at_ ++ [k]) ∧ q = runP a b (a.start, b.start) (W at_ ++ [k])
theorem inner_spec {a b : Mac} (h2 : Two a b) {f at_ : Nat} {p : Pr} : ∀ (ks : List Nat) (k : Nat) (j : List Int) (ts : List Tr) (W : Nat → List Int) (J : Nat) (r : Nat → Nat), ks = (List.range a.letters.toNat).drop k → k ≤ a.letters.toNat → Inv a b at_ k ts W → p = runP a b (a.start, b.start) (W at_) → Jo a.next.length (ts.map Tr.p) j J r → j.length = 1 + a.next.length + b.next.length → j.length < f → ts.length ≤ J + 1 →
    (∃ j' ts' W' J' r', innerO f a b at_ p ks j ts = some (j', ts', none) ∧ Inv a b at_ a.letters ts' W' ∧ Jo a.next.length (ts'.map Tr.p) j' J' r' ∧ j'.length = j.length ∧ ts'.length ≤ J' + 1) ∨
    (∃ j' ts' l q W', innerO f a b at_ p ks j ts = some (j', ts', some q) ∧ Least0 a b l ∧ q = runP a b (a.start, b.start) l ∧ Base a b ts' W' ∧ 0 < ts'.length ∧ W' (ts'.length - 1) = l ∧ ts'.length ≤ j.length + 1)
  | [], k, j, ts, W, J, r, hks, hk, hI, hp, hJ, hl, hf, hT => by
    have hkl : k = a.letters.toNat := by
      have := congrArg List.length hks
      simp at this
      omega
    refine .inl ⟨j, ts, W, J, r, rfl, ?_, hJ, rfl, hT⟩
    have : ((k : Nat) : Int) = a.letters := by have := h2.fa.letters; omega
    rw [← this]
    exact hI
  | k' :: ks, k, j, ts, W, J, r, hks, hk, hI, hp, hJ, hl, hf, hT => by
    have hlt : k < a.letters.toNat := by
      rcases Nat.lt_or_ge k a.letters.toNat with h | h
      · exact h
      · rw [List.drop_of_length_le (by simpa using h)] at hks
        cases hks
    have hks2 : (List.range a.letters.toNat).drop k = k :: (List.range a.letters.toNat).drop (k + 1) := by
      rw [List.drop_eq_getElem_cons (by simpa using hlt), List.getElem_range]
    rw [hks2] at hks
    injection hks with e1 e2
    subst e1
    have h0 : (0 : Int) ≤ (k' : Int) := by omega
    have hkl : (k' : Int) < a.letters := by omega
    have hst : InP a b (a.start, b.start) := ⟨h2.fa.start, h2.fb.start⟩
    have hq : leadP a b p k' = runP a b (a.start, b.start) (W at_ ++ [(k' : Int)]) := by rw [runP_snoc, hp]
    have hin : InP a b (leadP a b p k') := by
      rw [hp]
      exact h2.lead (h2.run (hI.tra.ok at_ hI.lt) hst) h0 hkl
    have hTin : ∀ q ∈ ts.map Tr.p, InP a b q := fun q hq => by
      obtain ⟨t, ht, rfl⟩ := List.mem_map.1 hq
      obtain ⟨i, hi, rfl⟩ := List.getElem_of_mem ht
      rw [hI.tra.pr i hi]
      exact h2.run (hI.tra.ok i hi) hst
    obtain ⟨j1, y, d1, d2, ⟨J1, r1, d3, d4⟩, d5⟩ := joinO_jo (f := f) hJ hl hTin hin (by have := hJ.uf.sum; omega)
    unfold innerO
    rw [d1]
    rcases y with _ | _
    · dsimp only
      have hc := d5.1 rfl
      have hI' := hI.skip (by rw [← hq]; exact hc)
      have hJ' := d3.congr (conn_cons hc)
      have ih := inner_spec h2 (f := f) (at_ := at_) (p := p) ks (k' + 1) j1 ts W J1 r1 e2 (by omega) (by simpa using hI') hp hJ' (by omega) (by omega) (by simp at d4; omega)
      rw [d2] at ih
      exact ih
    · dsimp only
      by_cases hag : agree a b (leadP a b p k') = true
      · rw [if_pos hag]
        have hI' := hI.push h0 hkl (by rw [← hq]; exact hag)
        rw [← hq] at hI'
        have hlen : (ts ++ [(⟨leadP a b p k', at_, k'⟩ : Tr)]).length = ts.length + 1 := by simp
        have hJ' : Jo a.next.length ((ts ++ [(⟨leadP a b p k', at_, k'⟩ : Tr)]).map Tr.p) j1 J1 r1 := by
          rw [List.map_append]
          exact d3.congr fun x y => conn_snoc x y
        have ih := inner_spec h2 (f := f) (at_ := at_) (p := p) ks (k' + 1) j1 (ts ++ [⟨leadP a b p k', at_, k'⟩]) (addW W ts.length (W at_ ++ [(k' : Int)])) J1 r1 e2 (by omega) (by simpa using hI') (by rw [hp]; unfold addW; rw [if_neg (by have := hI.lt; omega)]) hJ' (by omega) (by omega) (by simp at d4; omega)
        rw [d2] at ih
        exact ih
      · rw [if_neg hag]
        have hag' : agree a b (leadP a b p k') = false := by simpa using hag
        refine .inr ⟨j1, _, W at_ ++ [(k' : Int)], _, addW W ts.length (W at_ ++ [(k' : Int)]), rfl, hI.found h2 h0 hkl (by rw [← hq]; exact hag'), hq, hI.base _, by simp, ?_, ?_⟩
        · simp [addW]
        · have := d3.uf.sum
          simp at d4
          simp
          omega
theorem outer_spec {a b : Mac} (h2 : Two a b) {f : Nat} : ∀ (fuel at_ : Nat) (j : List Int) (ts : List Tr) (W : Nat → List Int) (J : Nat) (r : Nat → Nat), Tra a b ts W → at_ ≤ ts.length → (∀ i (h : i < ts.length), 0 < i → ∀ m : Nat, ts[i].before = (m : Int) → m < at_) → (∀ i j, 0 ≤ j → j < a.letters → i < at_ → Exd a b ts W i j) → Jo a.next.length (ts.map Tr.p) j J r → j.length = 1 + a.next.length + b.next.length → j.length < f → ts.length ≤ J + 1 → j.length + 1 ≤ fuel + at_ →
    (outerO f a b fuel at_ j ts = some none ∧ ¬ ∃ w, Dist a b w) ∨ (∃ ts' l q W', outerO f a b fuel at_ j ts = some (some (ts', q)) ∧ Least0 a b l ∧ q = runP a b (a.start, b.start) l ∧ Base a b ts' W' ∧ 0 < ts'.length ∧ W' (ts'.length - 1) = l ∧ ts'.length ≤ j.length + 1)
  | fuel, at_, j, ts, W, J, r, hT, hat, hbf, hex, hJ, hl, hf, hTJ, hg => by
    unfold outerO
    by_cases hlt : at_ < ts.length
    · rw [dif_pos hlt]
      match fuel, hg with
      | 0, hg => have := hJ.uf.sum; omega
      | fuel + 1, hg =>
        dsimp only
        have hI : Inv a b at_ (0 : Nat) ts W := ⟨hT, hlt, fun i hi h0 m hm => .inl (hbf i hi h0 m hm), fun i j h0 h1 h => hex i j h0 h1 (by omega)⟩
        rcases inner_spec h2 (f := f) (at_ := at_) (p := ts[at_].p) (List.range a.letters.toNat) 0 j ts W J r (by simp) (Nat.zero_le _) hI (hT.pr at_ hlt) hJ hl hf hTJ with ⟨j', ts', W', J', r', e1, e2, e3, e4, e5⟩ | ⟨j', ts', l, q, W', e1, e2, e3, e4, e5, e6, e7⟩
        · rw [e1]
          have ih := outer_spec h2 (f := f) fuel (at_ + 1) j' ts' W' J' r' e2.tra e2.lt (fun i hi h0 m hm => by rcases e2.bef i hi h0 m hm with h | ⟨h, _⟩ <;> omega) (fun i j h0 h1 h => e2.ex i j h0 h1 (by omega)) e3 (by omega) (by omega) e5 (by omega)
          rw [e4] at ih
          exact ih
        · rw [e1]
          exact .inr ⟨ts', l, q, W', rfl, e2, e3, e4, e5, e6, e7⟩
    · rw [dif_neg hlt]
      refine .inl ⟨rfl, fun hd => ?_⟩
      obtain ⟨w0, hw0⟩ := least_dist hd
      refine hT.none h2 hw0 fun i jj v hi e => ?_
      have hok := hw0.1.1
      rw [e] at hok
      have hj := hok.left jj (by simp)
      exact hex i jj hj.1 hj.2 (by omega)
theorem diffO_spec {a b : Mac} (h2 : Two a b) {f : Nat} (hf : 3 + a.next.length + b.next.length ≤ f) : (diffO f a b = some none ∧ ¬ ∃ w, Dist a b w) ∨ ∃ l, diffO f a b = some (some (l, runP a b (a.start, b.start) l)) ∧ Least0 a b l := by
  have hst : InP a b (a.start, b.start) := ⟨h2.fa.start, h2.fb.start⟩
  unfold diffO
  by_cases hag : agree a b (a.start, b.start) = true
  · rw [if_pos hag]
    have hl : (upTo (1 + a.next.length + b.next.length) (1 + a.next.length + b.next.length)).length = 1 + a.next.length + b.next.length := by simp [upTo]
    obtain ⟨j1, y, d1, d2, ⟨J1, r1, d3, d4⟩, _⟩ := joinO_jo (f := f) (jo0 a.next.length (1 + a.next.length + b.next.length)) hl (fun _ h => by cases h) hst (by omega)
    rw [d1]
    dsimp only
    have hT : Tra a b [⟨(a.start, b.start), 0, 0⟩] fun _ => [] := by
      refine ⟨by simp, rfl, fun i hi => ?_, fun i _ k hk => by simp at hk, fun i hi => ?_, fun i j hij hj => by simp at hj; omega, fun i hi h0 => by simp at hi; omega⟩
      · have : i = 0 := by simpa using hi
        subst this
        rfl
      · have : i = 0 := by simpa using hi
        subst this
        exact hag
    rcases outer_spec h2 (f := f) f 0 j1 [⟨(a.start, b.start), 0, 0⟩] (fun _ => []) J1 r1 hT (by simp) (fun i hi h0 => by simp at hi; omega) (fun i j _ _ h => by omega) d3 (by omega) (by omega) (by simp) (by omega) with ⟨e1, e2⟩ | ⟨ts', l, q, W', e1, e2, e3, e4, e5, e6, e7⟩
    · rw [e1]
      exact .inl ⟨rfl, e2⟩
    · rw [e1]
      dsimp only
      rw [wordO_base e4 e5 (by omega), e6, e3]
      exact .inr ⟨l, rfl, e2⟩
  · rw [if_neg hag]
    refine .inr ⟨[], rfl, ⟨fun k hk => by simp at hk, by simpa [runP] using hag⟩, fun v _ h => ?_⟩
    rcases h with h | ⟨h, h'⟩
    · simp at h
    · have : v = [] := List.eq_nil_of_length_eq_zero (by simpa using h)
      subst this
      exact h'
end Go.Proofs.Ytiekaicbjinbaaa.A
end
