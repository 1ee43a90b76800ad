/- classes. least$1: what a letter leads a class to. least. The ways into a state (arrive) and the living states (livO): what they say; plain. Plain facts of pairs that a check takes: both machines accept the same words, and the search for a difference finds none. Plain facts of the joined states: what the row of next ones says is just what the pairs that were joined say. Contracts of the program's functions, with no condition beyond what each theorem states. -/
import Derived.Test.YtmoniecknimmdaaC05
import Derived.Laws.AppendOwnNone
import Derived.WalkArith
import Derived.Deep.RegionHeld3
import Derived.Test.YtmoniecknimmdaaC03
section
namespace Go.Proofs.Ytmoniecknimmdaa
open Go.RowKit
/-- An append of a row, nil or not, onto a row of the call's own; where the new row lies. -/
theorem wpList_append_src_at {P : Program} {w : World} {ops : Array Oper} {rest : List Oper} {o : Oper} {a : Act} {Q : Exit → Act → World → Prop} (hgd : o.guard = none) (s x : Operand) (t : TypeId)
    (ho : o.op = .call { callee := .builtin .append, args := #[s, x], argTypes := #[t, t] })
    (base lo : Nat) (e : TypeId) (i : TypeInfo) (z : Value) (size bytes : Nat) (ht : P.underlying t = some (.slice e)) (hi : P.info? e = some i) (hz : i.zero = some z)
    (hsize : i.size = size) (hby : i.bytes = bytes) (hzs : z.cells.size = size) (hsz : 0 < size)
    (v : Value) (n : Nat) (xs : List Value) (hs : a.eval s = v) (hown : w.ownsRow base e size v n xs)
    (vx : Value) (m : Nat) (news : List Value) (hx : a.eval x = vx) (hsrc : w.ownsRow lo e size vx m news) (h1 : ∀ u ∈ news, u.oneCell' = true)
    (h63 : n + m ≤ maxLen) (hbytes : (n + m) * bytes ≤ 140737488355328) (hbase : base ≤ w.heap.size)
    (h : ∀ v' w', w'.ownsRow base e size v' (n + m) (xs ++ news) → w.grownBy w' v.ownBlock → (v'.ownBlock = v.ownBlock ∨ v'.ownBlock = some w.heap.size) → wpList P ops Q rest (a.put o.dst v') w') : wpList P ops Q (o :: rest) a w := by
  have hl := hsrc.1
  have hc := @World.ownsRow.cells _ _ _ _ _ _ _ hsrc
  rcases hsrc.2 with ⟨rfl, hn⟩ | ⟨g, cap, cur, rfl, _⟩
  · subst hn
    have hnews : news = [] := List.length_eq_zero_iff.1 (by omega)
    subst hnews
    exact wpList_append_own_none (w := w) hgd s x t ho base e i size ht hi v n xs hs hown hx (h v w (by simpa using hown) (World.grownBy.refl w _) (.inl rfl))
  · exact wpList_append_own_at (w := w) hgd s x t ho base e i z size bytes ht hi hz hsize hby hzs hsz v n xs hs hown ⟨g, 0, none⟩ m cap news hx hl (hc rfl) h1 h63 hbytes hbase fun v' w' a1 a2 _ a4 => h v' w' a1 a2 a4
theorem OwnInts.ints {w : World} {base : Nat} {v : Value} {l : List Int} (h : OwnInts w base v l) : Ints w (fun g => v.ownBlock = some g) v l := by
  obtain ⟨A0, c, rfl⟩ := own_form h
  refine ⟨A0, c, rfl, fun k hk => ?_⟩
  obtain ⟨g, rfl, _, hc⟩ := OwnInts.at_ h hk
  refine ⟨g, 0, rfl, rfl, ?_⟩
  rw [Nat.zero_add, hc]
  simp [hk]
theorem ints_one_ (l : List Int) : ∀ u ∈ l.map (Value.int .i64), u.oneCell' = true := fun u hu => by
  obtain ⟨x, _, rfl⟩ := List.mem_map.1 hu
  rfl
theorem info_intS : (Try.prog.info? 35).map (fun i => (i.zero, i.size, i.bytes)) = some (some (.slice none 0 0), 1, 24) := by kernel_rfl
section
variable {w w' : World} {S E : Nat → Prop} {ob : Nat} {acc : List (List Int)}
/-- A source emptied. -/
theorem Grp.cut0 {vf : Nat → Value} (h : Grp srT w S ob acc.length vf (lnOf acc) (cfOf inC acc)) {q : Nat} (hq : q < acc.length) {A0 : Option Addr} {n c : Nat} (e : vf q = .slice A0 n c) (hp : 0 < n) : Srcs (w.setCell ⟨ob, q, none⟩ (.slice A0 0 c)) S ob (acc.set q []) := by
  refine ⟨updF vf q (.slice A0 0 c), ?_⟩
  rw [List.length_set, lnOf_set acc hq, cfOf_set inC acc hq]
  have ho := h.own q hq
  have hown : w.ownsRow 0 srT.e srT.sz (.slice A0 0 c) 0 [] := by
    refine ⟨by simp, ?_⟩
    rcases ho.2 with ⟨e', hn⟩ | ⟨g, cap, cur, e', h1, h2, h3, h4, h5, h6⟩
    · rw [e] at e'; injection e' with _ e2 _; omega
    · rw [e] at e'
      injection e' with e1 e2 e3
      subst e1 e3
      exact .inr ⟨g, c, cur, rfl, h1, h2, Nat.zero_le _, h4, h5, by simp⟩
  have := h.put hq (w1 := w) (v' := .slice A0 0 c) (m := 0) (xs := []) (World.grownBy.refl w _) hown (.inl (by rw [e]; cases A0 <;> rfl))
  refine Grp.mono (this.congr (fun i _ => rfl) (fun i _ => by rfl)) fun b hb hs => ?_
  rcases hs with hs | hs
  · exact hs
  · simp at hb; omega
end
namespace A
def partOf (d : Pd) (b e : Nat) : List Int := (d.row.drop b).take (e - b)
def lettersO : List Int → Pd → List (List Int) → List Int → Option (Pd × List (List Int) × List Int)
  | [], d, srcs, tl => some (d, srcs, tl)
  | x :: l, d, srcs, tl => if 0 ≤ x ∧ x < srcs.length ∧ 0 < (srcs.getD x.toNat []).length ∧ (srcs.getD x.toNat []).length ≤ 100000000 then (match divideO d (srcs.getD x.toNat []) with
    | none => none
    | some (d', fs) => if tl.length + fs.length ≤ big then lettersO l d' (srcs.set x.toNat []) (tl ++ fs) else none) else none
def classO (acc : List (List Ar)) : Nat → Pd → List (List Int) → List Int → Option Pd
  | f, d, srcs, tl => if tl.length = 0 then some d else (match f with
    | 0 => none
    | n + 1 => if 0 ≤ tl.getD (tl.length - 1) 0 then (match natO d.beg (tl.getD (tl.length - 1) 0).toNat with
      | none => none
      | some b => match natO d.fin (tl.getD (tl.length - 1) 0).toNat with
        | none => none
        | some e => if b < e ∧ e ≤ d.row.length ∧ d.row.length ≤ big then (match gathS acc (partOf d b e) (srcs, []) with
          | none => none
          | some (srcs', ls) => if ls.length ≤ big then (match lettersO ls d srcs' (tl.take (tl.length - 1)) with
            | none => none
            | some (d', srcs'', tl') => classO acc n d' srcs'' tl') else none) else none) else none)
def upto (n : Nat) : List Int := (List.range n).map fun (i : Nat) => (i : Int)
theorem upto_succ (n : Nat) : upto (n + 1) = upto n ++ [(n : Int)] := by simp [upto, List.range_succ]
theorem upto_len (n : Nat) : (upto n).length = n := by simp [upto]
def classesO (f : Nat) (m : Mac) (acc : List (List Ar)) (al : List Bool) : Option Pd := if (byEndP m al).beg.length ≤ big then classO acc f (byEndP m al) (List.replicate m.letters.toNat []) (upto (byEndP m al).beg.length) else none
end A
/-- What a run of classes keeps: the partition, the sources, and what is still to look at, each by itself. -/
def Cl (B : Nat) (wr : World) (pb ob : Nat) (d : A.Pd) (srcs : List (List Int)) (u : Value) (tl : List Int) : Prop := ∃ Sp Ss : Nat → Prop, Pt wr Sp pb d ∧ Srcs wr Ss ob srcs ∧ OwnInts wr B u tl ∧ (∀ b, Sp b → ¬ Ss b) ∧ (∀ b, Sp b ∨ Ss b → B ≤ b ∧ b < wr.heap.size) ∧ (∀ g, u.ownBlock = some g → ¬ Sp g ∧ ¬ Ss g)
section
variable {B pb ob : Nat} {wr w1 : World} {d : A.Pd} {srcs : List (List Int)} {u : Value} {tl : List Int}
theorem Cl.push (h : Cl B wr pb ob d srcs u tl) {v' : Value} {m : Nat} {tl' : List Int} (F : Frm (fun b => u.ownBlock = some b) wr w1) (ho : OwnInts w1 B v' tl') (hl : v'.ownBlock = u.ownBlock ∨ v'.ownBlock = some m) (hm : wr.heap.size ≤ m) : Cl B w1 pb ob d srcs v' tl' := by
  obtain ⟨Sp, Ss, h1, h2, h3, h4, h5, h6⟩ := h
  refine ⟨Sp, Ss, h1.frm F fun b _ hs he => (h6 b he).1 hs, h2.frm F fun b _ hs he => (h6 b he).2 hs, ho, h4, fun b hb => ⟨(h5 b hb).1, Nat.lt_of_lt_of_le (h5 b hb).2 F.1⟩, fun g hg => ?_⟩
  rcases hl with e | e
  · rw [e] at hg; exact h6 g hg
  · rw [e] at hg
    injection hg with hg
    exact ⟨fun hs => by have := (h5 g (.inl hs)).2; omega, fun hs => by have := (h5 g (.inr hs)).2; omega⟩
theorem OwnInts.take {w : World} {base c : Nat} {A0 : Option Addr} {l : List Int} (h : OwnInts w base (.slice A0 l.length c) l) {k : Nat} (hk : k ≤ l.length) (hp : 0 < l.length) : OwnInts w base (.slice A0 k c) (l.take k) := by
  have e : (l.take k).length = k := by simp; omega
  unfold OwnInts
  rw [e]
  refine ⟨by simp; omega, ?_⟩
  rcases h.2 with ⟨e', hn⟩ | ⟨g, cap, cur, e', h1, h2, h3, h4, h5, h6⟩
  · omega
  · injection e' with e1 e2 e3
    subst e1 e3
    refine .inr ⟨g, c, cur, rfl, h1, h2, by omega, h4, h5, ?_⟩
    rw [List.map_take, ← h6, List.take_take, Nat.mul_one, Nat.mul_one, Nat.min_eq_left hk]
end
/-- The same, with the letters that were gathered. -/
def Cl2 (B : Nat) (wr : World) (pb ob : Nat) (d : A.Pd) (srcs : List (List Int)) (u : Value) (tl : List Int) (vl : Value) (ls : List Int) : Prop := ∃ Sp Ss : Nat → Prop, Pt wr Sp pb d ∧ Srcs wr Ss ob srcs ∧ OwnInts wr B u tl ∧ (∀ b, Sp b → ¬ Ss b) ∧ (∀ b, Sp b ∨ Ss b → B ≤ b ∧ b < wr.heap.size) ∧ (∀ g, u.ownBlock = some g → ¬ Sp g ∧ ¬ Ss g) ∧ OwnInts wr B vl ls ∧ (∀ g, vl.ownBlock = some g → ¬ Sp g ∧ ¬ Ss g ∧ u.ownBlock ≠ some g)
section
variable {B pb ob : Nat} {wr w1 : World} {d d' : A.Pd} {srcs srcs' : List (List Int)} {u vl : Value} {tl ls : List Int} {Sp Ss : Nat → Prop}
theorem Cl2.cl (h : Cl2 B wr pb ob d srcs u tl vl ls) : Cl B wr pb ob d srcs u tl := by
  obtain ⟨Sp, Ss, h1, h2, h3, h4, h5, h6, _⟩ := h
  exact ⟨Sp, Ss, h1, h2, h3, h4, h5, h6⟩
theorem cl2_gather (h1 : Pt wr Sp pb d) (h3 : OwnInts wr B u tl) (h4 : ∀ b, Sp b → ¬ Ss b) (h5 : ∀ b, Sp b ∨ Ss b → B ≤ b ∧ b < wr.heap.size) (h6 : ∀ g, u.ownBlock = some g → ¬ Sp g ∧ ¬ Ss g) {S5 : Nat → Prop} (hO : OwnInts w1 wr.heap.size vl ls) (hS : Srcs w1 S5 ob srcs') (hb : ∀ b, S5 b → Ss b ∨ wr.heap.size ≤ b) (hU : ∀ g, vl.ownBlock = some g → ¬ S5 g) (F : Frm Ss wr w1) (hB : B ≤ wr.heap.size) : Cl2 B w1 pb ob d srcs' u tl vl ls := by
  have hsz := F.1
  refine ⟨Sp, fun b => S5 b ∧ b < w1.heap.size, h1.frm F fun b _ hs => h4 b hs, Rws.mono hS fun b hb hs => ⟨hs, hb⟩, F.row h3 (fun g hg => (h6 g hg).2) (Nat.le_refl _), fun b hs ⟨hs5, _⟩ => ?_, fun b hs => ?_, fun g hg => ⟨(h6 g hg).1, fun ⟨hs, _⟩ => ?_⟩, own_base hO hB, fun g hg => ⟨fun hs => ?_, fun ⟨hs, _⟩ => hU g hg hs, fun hu => ?_⟩⟩
  · rcases hb b hs5 with h | h
    · exact h4 b hs h
    · have := (h5 b (.inl hs)).2; omega
  · rcases hs with hs | ⟨hs, hl⟩
    · have := h5 b (.inl hs); exact ⟨this.1, by omega⟩
    · rcases hb b hs with h | h
      · have := h5 b (.inr h); exact ⟨this.1, hl⟩
      · exact ⟨by omega, hl⟩
  · rcases hb g hs with h | h
    · exact (h6 g hg).2 h
    · have := (own_lt h3 g hg).2; omega
  · have := (h5 g (.inl hs)).2; have := (own_lt hO g hg).1; omega
  · have := (own_lt h3 g hu).2; have := (own_lt hO g hg).1; omega
theorem cl2_divide (h2 : Srcs wr Ss ob srcs) (h3 : OwnInts wr B u tl) (h4 : ∀ b, Sp b → ¬ Ss b) (h5 : ∀ b, Sp b ∨ Ss b → B ≤ b ∧ b < wr.heap.size) (h6 : ∀ g, u.ownBlock = some g → ¬ Sp g ∧ ¬ Ss g) (h7 : OwnInts wr B vl ls) (h8 : ∀ g, vl.ownBlock = some g → ¬ Sp g ∧ ¬ Ss g ∧ u.ownBlock ≠ some g) (hp : Pt w1 (fun b => Sp b ∨ wr.heap.size ≤ b) pb d') (F : Frm Sp wr w1) (hB : B ≤ wr.heap.size) : Cl2 B w1 pb ob d' srcs u tl vl ls := by
  have hsz := F.1
  refine ⟨fun b => (Sp b ∨ wr.heap.size ≤ b) ∧ b < w1.heap.size, Ss, hp.mono fun b hb hs => ⟨hs, hb⟩, Rws.frm h2 F fun b _ hs hp => h4 b hp hs, F.row h3 (fun g hg => (h6 g hg).1) (Nat.le_refl _), fun b hs hss => ?_, fun b hs => ?_, fun g hg => ⟨fun ⟨hs, _⟩ => ?_, (h6 g hg).2⟩, F.row h7 (fun g hg => (h8 g hg).1) (Nat.le_refl _), fun g hg => ⟨fun ⟨hs, _⟩ => ?_, (h8 g hg).2⟩⟩
  · rcases hs.1 with h | h
    · exact h4 b h hss
    · have := (h5 b (.inr hss)).2; omega
  · rcases hs with ⟨hs, hl⟩ | hs
    · rcases hs with h | h
      · exact ⟨(h5 b (.inl h)).1, hl⟩
      · exact ⟨by omega, hl⟩
    · have := h5 b (.inr hs); exact ⟨this.1, by omega⟩
  · rcases hs with h | h
    · exact (h6 g hg).1 h
    · have := (own_lt h3 g hg).2; omega
  · rcases hs with h | h
    · exact (h8 g hg).1 h
    · have := (own_lt h7 g hg).2; omega
theorem Cl2.push (h : Cl2 B wr pb ob d srcs u tl vl ls) {v' : Value} {m : Nat} {tl' : List Int} (F : Frm (fun b => u.ownBlock = some b) wr w1) (ho : OwnInts w1 B v' tl') (hl : v'.ownBlock = u.ownBlock ∨ v'.ownBlock = some m) (hm : wr.heap.size ≤ m) : Cl2 B w1 pb ob d srcs v' tl' vl ls := by
  obtain ⟨Sp, Ss, h1, h2, h3, h4, h5, h6, h7, h8⟩ := h
  refine ⟨Sp, Ss, h1.frm F fun b _ hs he => (h6 b he).1 hs, h2.frm F fun b _ hs he => (h6 b he).2 hs, ho, h4, fun b hb => ⟨(h5 b hb).1, Nat.lt_of_lt_of_le (h5 b hb).2 F.1⟩, fun g hg => ?_, F.row h7 (fun g hg he => (h8 g hg).2.2 he) (Nat.le_refl _), fun g hg => ⟨(h8 g hg).1, (h8 g hg).2.1, fun hv => ?_⟩⟩
  · rcases hl with e | e
    · rw [e] at hg; exact h6 g hg
    · rw [e] at hg
      injection hg with hg
      exact ⟨fun hs => by have := (h5 g (.inl hs)).2; omega, fun hs => by have := (h5 g (.inr hs)).2; omega⟩
  · rcases hl with e | e
    · rw [e] at hv; exact (h8 g hg).2.2 hv
    · rw [e] at hv
      injection hv with hv
      have := (own_lt h7 g hg).2
      omega
/-- The source q emptied. -/
theorem Cl2.cut (h : Cl2 B wr pb ob d srcs u tl vl ls) {q : Nat} (hq : q < srcs.length) (hp : 0 < (srcs.getD q []).length) : ∃ g c, wr.cell? ⟨ob, q, none⟩ = some (.slice (some ⟨g, 0, none⟩) (srcs.getD q []).length c) ∧ wr.frozen? ⟨ob, q, none⟩ = false ∧ 0 < c ∧ Cl2 B (wr.setCell ⟨ob, q, none⟩ (.slice (some ⟨g, 0, none⟩) 0 c)) pb ob d (srcs.set q []) u tl vl ls ∧ Frm (fun b => B ≤ b) wr (wr.setCell ⟨ob, q, none⟩ (.slice (some ⟨g, 0, none⟩) 0 c)) := by
  obtain ⟨Sp, Ss, h1, ⟨vf, hg⟩, h3, h4, h5, h6, h7, h8⟩ := h
  obtain ⟨A0, c, e, o1, o2, o3, o4⟩ := hg.slot hq
  have hln : lnOf srcs q = (srcs.getD q []).length := rfl
  rw [hln] at e o1 o3 o4
  obtain ⟨g, rfl⟩ := o3 hp
  have F : Frm (fun b => b = ob) wr (wr.setCell ⟨ob, q, none⟩ (.slice (some ⟨g, 0, none⟩) 0 c)) := Frm.one _ _ _
  refine ⟨g, c, o1, o2, by omega, ⟨Sp, Ss, h1.frm F fun b _ hs hb => by subst hb; exact h4 b hs hg.so, hg.cut0 hq e hp, F.row h3 (fun g' hg' hb => by subst hb; exact (h6 _ hg').2 hg.so) (Nat.le_refl _), h4, fun b hb => by have := h5 b hb; simpa using this, h6, F.row h7 (fun g' hg' hb => by subst hb; exact (h8 _ hg').2.1 hg.so) (Nat.le_refl _), h8⟩, F.mono fun b _ hb => by subst hb; exact (h5 b (.inr hg.so)).1⟩
end
set_option maxRecDepth 100000 in
set_option maxHeartbeats 16000000 in
theorem classes_any {w : World} {P Sa : Nat → Prop} {v : Value} {m : A.Mac} {ga oa f : Nat} {al : List Bool} {acc : List (List A.Ar)} {d : A.Pd} (h : MachAt w P v m) (hf : A.Fits m) (hn : m.next.length ≤ 100000) (hl3 : m.letters ≤ 300) (hin : Ars w Sa oa acc) (hacc : acc.length = m.next.length) (ha : Blk w ga 4 (boolCs al)) (hal : al.length = m.next.length) (hc : A.classesO f m acc al = some d) :
    Calls Try.prog 43 #[v, .slice (some ⟨oa, 0, none⟩) m.next.length m.next.length, .slice (some ⟨ga, 0, none⟩) m.next.length m.next.length] w fun e w' => ∃ pb, e = .returned (.pointer (some ⟨pb, 0, none⟩)) ∧ Pt w' (fun b => w.heap.size ≤ b) pb d ∧ Frm (fun _ => False) w w' := by
  obtain ⟨A1, c1, A2, c2, rfl⟩ := h.form
  have HB0 : Hid (Blk (w.alloc (.cells #[.int .i64 m.letters, .int .i64 m.start, .slice A1 m.next.length c1, .slice A2 m.fin.length c2] 25)) w.heap.size 25 #[.int .i64 m.letters, .int .i64 m.start, .slice A1 m.next.length c1, .slice A2 m.fin.length c2]) := Blk.new w _ _
  have F0 : Frm (fun _ => False) w (w.alloc (.cells #[.int .i64 m.letters, .int .i64 m.start, .slice A1 m.next.length c1, .slice A2 m.fin.length c2] 25)) := (Frm.refl _ w).alloc _
  have HM := Lib.hid (h.keep0 F0)
  have HA := Lib.hid (F0.blk ha id)
  have HF0 := Lib.hid F0
  have HFI := Lib.hid hf
  have HIN : Hid (Ars w (fun b => Sa b ∧ b < w.heap.size) oa acc) := hin.mono fun b hb hs => ⟨hs, hb⟩
  have HC := Lib.hid hc
  have hlet := hf.letters
  have HSZ0 : Hid ((w.alloc (.cells #[.int .i64 m.letters, .int .i64 m.start, .slice A1 m.next.length c1, .slice A2 m.fin.length c2] 25)).heap.size = w.heap.size + 1) := show _ = _ by simp
  clear h F0 hf hin ha hc
  have x0 := HB0.out.cell 0
  have x1 := HB0.out.cell 1
  have x2 := HB0.out.cell 2
  have x3 := HB0.out.cell 3
  go_enter Try.func43, Try.ntmps43
  go_wp2_with fail
  refine (byEnd_any HM.out HFI.out hn HA.out hal).mono ?_
  rintro _ w1 ⟨pb, rfl, p1, f1⟩
  have HP1 := Lib.hid p1
  have HF1 := Lib.hid (HF0.out.trans f1)
  have HB1 := Lib.hid (f1.blk HB0.out id)
  have hw1 := f1.1
  clear p1 f1 x0 x1 x2 x3
  have x0 := HB1.out.cell 0
  obtain ⟨L, hL⟩ : ∃ L : Nat, m.letters = (L : Int) := ⟨m.letters.toNat, by omega⟩
  have hmk := run_make_row' (P := Try.prog) 22 35 (.slice none 0 0) 24 Try.underlying22 info_intS rfl .i64 .i64 L (by omega) (by omega)
  obtain ⟨W2, hW2⟩ : ∃ W2, W2 = w1.alloc (.cells (madeCells #[.slice none 0 0] L) 35) := ⟨_, rfl⟩
  have HCL : Hid (Cl (w.heap.size + 1) W2 pb w1.heap.size (A.byEndP m al) (List.replicate L []) (.slice none 0 0) []) := by
    have hs0 := HSZ0.out
    rw [hs0] at hw1
    refine ⟨fun b => w.heap.size + 1 ≤ b ∧ b < w1.heap.size, fun b => w1.heap.size ≤ b ∧ b < W2.heap.size, ?_, ?_, World.ownsRow_nil _ _ _ _, fun b h1 h2 => by omega, fun b hb => ?_, fun g hg => (by cases hg)⟩
    · rw [hW2]
      exact (HP1.out.mono fun b hb hs => ⟨by rw [← hs0]; exact hs, hb⟩).frm ((Frm.refl (fun _ => False) w1).alloc _) fun _ _ _ => id
    · have := Grp.made srT w1 L
      rw [hW2]
      exact (Grp.rws0 this).mono fun b hb hs => ⟨hs, hb⟩
    · have : W2.heap.size = w1.heap.size + 1 := by rw [hW2]; simp
      rcases hb with hb | hb <;> omega
  have HB2 : Hid (Blk W2 w.heap.size 25 #[.int .i64 m.letters, .int .i64 m.start, .slice A1 m.next.length c1, .slice A2 m.fin.length c2]) := by rw [hW2]; exact HB1.out.alloc _
  have HF2 : Hid (Frm (fun _ => False) w W2) := by rw [hW2]; exact HF1.out.alloc _
  have hc := HC.out
  unfold A.classesO at hc
  split at hc
  case isFalse => cases hc
  rename_i hbeg
  have HC2 : Hid (A.classO acc f (A.byEndP m al) (List.replicate L []) (A.upto (A.byEndP m al).beg.length) = some d) := by
    have e : m.letters.toNat = L := by omega
    rw [e] at hc
    exact hc
  generalize A.byEndP m al = d0 at *
  have HBG := Lib.hid hbeg
  have HLL := Lib.hid hL
  rw [← hL] at hmk
  clear HC hc hbeg HP1 hL
  obtain ⟨Sp0, Ss0, ⟨vf0, hv0⟩, _⟩ := HCL.out
  obtain ⟨A3, c3, _, o3, f3, _⟩ := hv0.slot (i := 3) (by decide)
  have hl3' : (d0.f 3).length = d0.beg.length := rfl
  rw [hl3', hW2] at o3
  clear hv0 f3 hl3'
  go_wp2_with fail
  rw [← hW2]
  clear hW2 hmk o3
  have hbig := HBG.out
  unfold A.big at hbig
  go_loopg [9, 25] (d0.beg.length + 1) (fun n u i wr => ∃ k : Nat, k ≤ d0.beg.length ∧ n = d0.beg.length + 1 - k ∧ i = .int .i64 (k : Int) ∧ Hid (Cl (w.heap.size + 1) wr pb w1.heap.size d0 (List.replicate L []) u (A.upto k)) ∧ Hid (Blk wr w.heap.size 25 #[.int .i64 m.letters, .int .i64 m.start, .slice A1 m.next.length c1, .slice A2 m.fin.length c2]) ∧ Hid (Frm (fun _ => False) w wr))
  case atStart => exact ⟨0, Nat.zero_le _, rfl, rfl, HCL, HB2, HF2⟩
  case round =>
    clear HCL HB2 HF2
    obtain ⟨k, hk, rfl, rfl, HCL, HB, HF⟩ := hrel
    have hown : OwnInts wr (w.heap.size + 1) u9 (A.upto k) := by obtain ⟨_, _, _, _, h, _⟩ := HCL.out; exact h
    obtain ⟨A9, c9, rfl⟩ := own_form hown
    by_cases hlt : k < d0.beg.length
    · have hlt' : (k : Int) < (d0.beg.length : Int) := by omega
      have HO := Lib.hid hown
      have HUL : Hid ((A.upto k).length = k) := A.upto_len k
      obtain ⟨i0, hi0, hz0, hz1, hz2⟩ := info_parts info_int
      clear hown
      go_wp2_with (at_builtin; refine wpList_append_own_at _ rfl _ _ 35 rfl (w.heap.size + 1) 3 i0 (.int .i64 0) 1 8 Try.underlying35 hi0 hz0 hz1 hz2 rfl (by decide) _ _ _ rfl (HO.out.alloc _) ⟨wr.heap.size, 0, none⟩ 1 1 [.int .i64 (k : Int)] rfl rfl ?y1 ?y2 ?y3 ?y4 ?y5 ?_)
      case y1 => exact cell_one_at rfl
      case y2 => simp [Value.oneCell']
      case y3 => rw [HUL.out]; unfold maxLen; omega
      case y4 => rw [HUL.out]; omega
      case y5 => have := HB.out.lt; simp; omega
      intro v' w4 hown1 hgrow _ hat
      obtain ⟨AV, cV, rfl⟩ := own_form hown1
      have f4 : Frm (fun b => (Value.slice A9 (A.upto k).length c9).ownBlock = some b) wr w4 := ((Frm.refl _ wr).alloc _).grown hgrow fun g hg _ => hg
      have ho4 : OwnInts w4 (w.heap.size + 1) (.slice AV ((A.upto k).length + 1) cV) (A.upto (k + 1)) := by rw [A.upto_succ]; exact OwnInts.grown rfl hown1
      have HCL4 : Hid (Cl (w.heap.size + 1) w4 pb w1.heap.size d0 (List.replicate L []) (.slice AV ((A.upto k).length + 1) cV) (A.upto (k + 1))) := HCL.out.push f4 ho4 hat (by simp)
      have HB4 := Lib.hid (f4.blk HB.out fun h => by have := (own_lt HO.out _ h).1; omega)
      have HF4 : Hid (Frm (fun _ => False) w w4) := Frm.mono (E := fun b => w.heap.size + 1 ≤ b) ((HF.out.mono fun _ _ h => h.elim).trans (f4.mono fun b _ h => (own_lt HO.out b h).1)) fun b hb h => by omega
      clear f4 ho4 hown1 hgrow hat
      go_wp2_with fail
      go_roundg (d0.beg.length + 1 - (k + 1))
      case measure => omega
      case rel => exact ⟨k + 1, by omega, rfl, by go_num, HCL4, HB4, HF4⟩
    · have hlt' : ¬ (k : Int) < (d0.beg.length : Int) := by omega
      obtain rfl : k = d0.beg.length := by omega
      have HTL : Hid ((A.upto d0.beg.length).length ≤ A.big) := show _ ≤ _ by rw [A.upto_len]; exact HBG.out
      have HLN : Hid ((List.replicate L ([] : List Int)).length = L) := show _ = _ by simp
      generalize A.upto d0.beg.length = tl0 at *
      generalize List.replicate L ([] : List Int) = srcs0 at *
      obtain ⟨ob, hob⟩ : ∃ ob, ob = w1.heap.size := ⟨_, rfl⟩
      rw [← hob] at HCL ⊢
      clear hown hk hlt hob
      go_wp2_with fail
      go_loopg [9] f (fun n u wr => ∃ (dk : A.Pd) (sk : List (List Int)) (tk : List Int), Hid (A.classO acc n dk sk tk = some d) ∧ Hid (tk.length ≤ A.big) ∧ Hid (sk.length = L) ∧ Hid (Cl (w.heap.size + 1) wr pb ob dk sk u tk) ∧ Hid (Blk wr w.heap.size 25 #[.int .i64 m.letters, .int .i64 m.start, .slice A1 m.next.length c1, .slice A2 m.fin.length c2]) ∧ Hid (Frm (fun _ => False) w wr))
      case atStart => exact ⟨d0, srcs0, tl0, HC2, HTL, HLN, HCL, HB, HF⟩
      case round =>
        clear HC2 HTL HLN HCL HB HF
        obtain ⟨dk, sk, tk, HC, HTL, HLN, HCL, HB, HF⟩ := hrel
        have hown : OwnInts wr (w.heap.size + 1) u9 tk := by obtain ⟨_, _, _, _, h, _⟩ := HCL.out; exact h
        obtain ⟨A9, c9, rfl⟩ := own_form hown
        have hc := HC.out
        unfold A.classO at hc
        by_cases h0 : tk.length = 0
        · rw [if_pos h0] at hc
          have HC2 := Lib.hid hc
          have h0' : ¬ ((0 : Int) < (tk.length : Int)) := by omega
          have HO := Lib.hid hown
          clear hc h0 hown
          go_wp2_with fail
          go_ret
          refine ⟨pb, rfl, ?_, HF.out⟩
          obtain ⟨Sp, Ss, h1, _, _, _, h5, _⟩ := HCL.out
          rw [← show dk = d from by injection HC2.out]
          exact h1.mono fun b _ hs => by have := (h5 b (.inl hs)).1; omega
        · rw [if_neg h0] at hc
          have h0' : (0 : Int) < (tk.length : Int) := by omega
          cases gk with
          | zero => cases hc
          | succ n =>
          dsimp only at hc
          split at hc
          case isFalse => cases hc
          rename_i hcl0
          obtain ⟨T, hT⟩ : ∃ T, T = tk.length - 1 := ⟨_, rfl⟩
          have hTl : tk.length = T + 1 := by omega
          rw [← hT] at hc hcl0
          obtain ⟨g9, rfl, hg9, k9⟩ := OwnInts.at_ (l := tk) hown (k := T) (by omega)
          have hot := hown.take (k := T) (by omega) (by omega)
          generalize hcl : tk.getD T 0 = cl at *
          obtain ⟨cn, rfl⟩ : ∃ cn : Nat, cl = (cn : Int) := ⟨cl.toNat, by omega⟩
          rw [Int.toNat_natCast] at hc
          cases hb : A.natO dk.beg cn with
          | none => rw [hb] at hc; cases hc
          | some b =>
          rw [hb] at hc
          dsimp only at hc
          cases he : A.natO dk.fin cn with
          | none => rw [he] at hc; cases hc
          | some e =>
          rw [he] at hc
          dsimp only at hc
          split at hc
          case isFalse => cases hc
          rename_i hbe
          cases hga : A.gathS acc (A.partOf dk b e) (sk, []) with
          | none => rw [hga] at hc; cases hc
          | some gr =>
          obtain ⟨sk2, ls⟩ := gr
          rw [hga] at hc
          dsimp only at hc
          split at hc
          case isFalse => cases hc
          rename_i hls
          cases hle : A.lettersO ls dk sk2 (tk.take T) with
          | none => rw [hle] at hc; cases hc
          | some lr =>
          obtain ⟨d3, sk3, tk3⟩ := lr
          rw [hle] at hc
          dsimp only at hc
          obtain ⟨Sp, Ss, ⟨vf, hv⟩, hsr, _, hds, hbd, hut⟩ := HCL.out
          obtain ⟨nb1, nb2⟩ := A.natO_some hb
          obtain ⟨ne1, ne2⟩ := A.natO_some he
          obtain ⟨hbe1, hbe2, hbe3⟩ := hbe
          obtain ⟨g3, c3, e3, o3, f3, k3, l3, _⟩ := hv.at_ (i := 3) (j := cn) (by decide) nb1
          obtain ⟨g4, c4, e4, o4, f4, k4, l4, _⟩ := hv.at_ (i := 4) (j := cn) (by decide) ne1
          obtain ⟨g0, c0, e0, o0, f0, k0, l0, _⟩ := hv.at_ (i := 0) (j := b) (by decide) (show b < dk.row.length by omega)
          obtain ⟨_, _, e0', -, -, hc0⟩ := hv.slot (i := 0) (by decide)
          rw [e0] at e0'
          injection e0' with q1 _ q3
          subst q1 q3
          rw [show (dk.f 3).getD cn 0 = (b : Int) from nb2] at k3
          rw [show (dk.f 4).getD cn 0 = (e : Int) from ne2] at k4
          have hn3 : (cn : Int) < ((dk.f 3).length : Int) := by have : cn < (dk.f 3).length := nb1; omega
          have hn4 : (cn : Int) < ((dk.f 4).length : Int) := by have : cn < (dk.f 4).length := ne1; omega
          have b1 : (b : Int) ≤ (e : Int) := by omega
          have b2 : (e : Int) ≤ (c0 : Int) := by have : e ≤ (dk.f 0).length := hbe2; omega
          have b3 : (b : Int) < (c0 : Int) := by omega
          have b5 : (e : Int) ≤ 1000000000 := by unfold A.big at hbe3; omega
          have hcb : ¬ c0 = b := by omega
          have t1 : (tk.length : Int) - 1 = (T : Int) := by omega
          have t2 : (T : Int) < (tk.length : Int) := by omega
          have t4 : tk.length ≤ c9 ∧ c9 ≤ maxLen := by
            rcases hown.2 with ⟨e', _⟩ | ⟨g', cap, cur, e', _, _, h3, h4, _⟩
            · cases e'
            · injection e' with _ _ e'; subst e'; exact ⟨h3, h4⟩
          have t3 : (T : Int) ≤ (c9 : Int) := by omega
          have t5 : 0 < c9 := by omega
          have t6 : (tk.length : Int) ≤ 1000000000 := by have h := HTL.out; unfold A.big at h; omega
          have HINTS : Hid (Ints wr Sp (.slice (some ⟨g0, b, none⟩) (e - b) (c0 - b)) (A.partOf dk b e)) := by
            have hpl : (A.partOf dk b e).length = e - b := by unfold A.partOf; rw [List.length_take, List.length_drop]; omega
            refine ⟨some ⟨g0, b, none⟩, c0 - b, by rw [hpl], fun k hk => ?_⟩
            rw [hpl] at hk
            have hk2 : b + k < dk.row.length := by omega
            obtain ⟨z1, _⟩ := hv.get (i := 0) (j := b + k) (by decide) e0 hk2
            refine ⟨g0, b, rfl, (Grp.lie hv 0 (by decide) g0 (by rw [e0]; rfl)).1, ?_⟩
            rw [z1]
            have : (dk.f 0).getD (b + k) 0 = (A.partOf dk b e)[k]'(by rw [hpl]; exact hk) := by
              unfold A.partOf
              rw [List.getElem_take, List.getElem_drop]
              show dk.row.getD (b + k) 0 = _
              simp [hk2]
            rw [this]
          have HSR := Lib.hid hsr
          have HPV := Lib.hid hv
          have HDS := Lib.hid hds
          have HBD := Lib.hid hbd
          have HUT := Lib.hid hut
          have HOT := Lib.hid hot
          have HC2 := Lib.hid hc
          have HGA := Lib.hid hga
          have HLE := Lib.hid hle
          have HLS := Lib.hid hls
          have HPLEN : Hid ((A.partOf dk b e).length ≤ 1000000000) := show _ ≤ _ by unfold A.partOf; rw [List.length_take]; omega
          generalize (dk.f 3).length = n3 at *
          generalize (dk.f 4).length = n4 at *
          generalize (dk.f 0).length = n0 at *
          clear hc hle hga hls hv hsr hds hbd hut hot hown hb he nb1 nb2 ne1 ne2 e3 e4 e0 k0 l0 l3 l4 f3 f4 f0 hcl hcl0 HC hc0 hbe2 hbe3 t4 hT
          have HGC : Hid (Calls Try.prog 58 #[.slice (some ⟨g0, b, none⟩) (e - b) (c0 - b), .slice (some ⟨oa, 0, none⟩) m.next.length m.next.length, .slice (some ⟨ob, 0, none⟩) L L] wr.drew fun r w' => ∃ u S', r = .returned u ∧ OwnInts w' wr.heap.size u ls ∧ Srcs w' S' ob sk2 ∧ (∀ b, S' b → Ss b ∨ wr.heap.size ≤ b) ∧ (∀ g, u.ownBlock = some g → ¬ S' g) ∧ sk2.length = L ∧ Frm Ss wr w') := by
            have h1 : Ars wr.drew (fun b => Sa b ∧ b < w.heap.size) oa acc := Rws.frm HIN.out HF.out.drew fun _ _ _ => id
            have h2 : Srcs wr.drew Ss ob sk := Rws.frm HSR.out ((Frm.refl (fun _ => False) wr).drew) fun _ _ _ => id
            have h3 : Ints wr.drew Sp (.slice (some ⟨g0, b, none⟩) (e - b) (c0 - b)) (A.partOf dk b e) := HINTS.out.keep ((Frm.refl (fun _ => False) wr).drew) fun _ _ => id
            have := gather_any h1 h2 h3 HDS.out (fun b hb hs => by have := (HBD.out b (.inr hs)).1; omega) HGA.out HPLEN.out
            rw [hacc, HLN.out] at this
            exact this
          go_wp2_with fail
          refine wp_region_still_last 21 23 (by kernel_rfl) rfl rfl (by kernel_rfl) (by kernel_rfl) (by kernel_rfl) (by kernel_rfl) (by kernel_rfl) (fun _ _ _ h => h) (v := .int .i64 0) (Or.inl ⟨by rfl, by (intro w; go_simp)⟩) (by kernel_rfl) ?_
          simp only [List.take_succ_cons, List.take_zero, List.drop_succ_cons, List.drop_zero]
          repeat still_step
          try refine wpStill_nil ?_
          change wpList _ _ _ _ _ wr.drew
          have HBW : Hid (w.heap.size + 1 ≤ wr.heap.size) := HB.out.lt
          go_wp2_with fail
          refine HGC.out.mono ?_
          rintro _ w5 ⟨ul, S5, rfl, hO5, hS5, hS5b, hU5, hL5, f5⟩
          obtain ⟨AL, cL, rfl⟩ := own_form hO5
          have HCL5 : Hid (Cl2 (w.heap.size + 1) w5 pb ob dk sk2 (.slice (some ⟨g9, 0, none⟩) T c9) (tk.take T) (.slice AL ls.length cL) ls) := cl2_gather ⟨vf, HPV.out⟩ HOT.out HDS.out HBD.out (fun g hg => HUT.out g hg) hO5 hS5 hS5b hU5 f5 HBW.out
          have HB5 := Lib.hid (f5.blk HB.out fun h => by have := (HBD.out _ (.inr h)).1; omega)
          have HF5 : Hid (Frm (fun _ => False) w w5) := Frm.mono (E := fun b => w.heap.size + 1 ≤ b) ((HF.out.mono fun _ _ h => h.elim).trans (f5.mono fun b _ h => (HBD.out b (.inr h)).1)) fun b hb h => by omega
          have HLE0 : Hid (A.lettersO (ls.drop 0) dk sk2 (tk.take T) = some (d3, sk3, tk3)) := HLE
          have HTT : Hid ((tk.take T).length ≤ A.big) := show _ ≤ _ by rw [List.length_take]; have := HTL.out; omega
          have hls2 : ls.length ≤ 1000000000 := HLS.out
          clear hO5 hS5 hS5b hU5 f5 o0 o3 o4 k3 k4 k9 HGC HINTS HSR HPV HDS HBD HUT HOT HCL HB HF HGA HLE HTL
          generalize tk.take T = tt at *
          have HL5 : Hid (sk2.length = L) := hL5
          clear hL5
          go_wp2_with fail
          go_loopg [9, 70] (ls.length + 1) (fun nn u i wr => ∃ (j : Nat) (dj : A.Pd) (sj : List (List Int)) (tj : List Int), j ≤ ls.length ∧ nn = ls.length + 1 - j ∧ i = .int .i64 (j : Int) ∧ Hid (A.lettersO (ls.drop j) dj sj tj = some (d3, sk3, tk3)) ∧ Hid (tj.length ≤ A.big) ∧ Hid (sj.length = L) ∧ Hid (Cl2 (w.heap.size + 1) wr pb ob dj sj u tj (.slice AL ls.length cL) ls) ∧ Hid (Blk wr w.heap.size 25 #[.int .i64 m.letters, .int .i64 m.start, .slice A1 m.next.length c1, .slice A2 m.fin.length c2]) ∧ Hid (Frm (fun _ => False) w wr))
          case atStart => exact ⟨0, dk, sk2, tt, Nat.zero_le _, rfl, rfl, HLE0, HTT, HL5, HCL5, HB5, HF5⟩
          case round =>
            clear HLE0 HTT HL5 HCL5 HB5 HF5
            obtain ⟨j, dj, sj, tj, hj, rfl, rfl, HLE, HTT, HL5, HCL, HB, HF⟩ := hrel
            have hown : OwnInts wr (w.heap.size + 1) u9 tj := by obtain ⟨_, _, _, _, h, _⟩ := HCL.out; exact h
            obtain ⟨A9, c9, rfl⟩ := own_form hown
            by_cases hltj : j < ls.length
            · have hltj' : (j : Int) < (ls.length : Int) := by omega
              obtain ⟨Sp, Ss, h1, h2, h3, h4, h5, h6, h7, h8⟩ := HCL.out
              obtain ⟨gl, rfl, _, kl⟩ := OwnInts.at_ (l := ls) h7 hltj
              have hle := HLE.out
              rw [List.drop_eq_getElem_cons hltj] at hle
              have hge : ls.getD j 0 = ls[j]'hltj := by simp [hltj]
              rw [← hge] at hle
              unfold A.lettersO at hle
              generalize ls.getD j 0 = x at *
              split at hle
              case isFalse => cases hle
              rename_i hx
              obtain ⟨hx0, hx1, hx2, hx3⟩ := hx
              obtain ⟨t, rfl⟩ : ∃ t : Nat, x = (t : Int) := ⟨x.toNat, by omega⟩
              rw [Int.toNat_natCast] at hle hx2 hx3
              have ht : t < sj.length := by omega
              have htL : (t : Int) < (L : Int) := by rw [← HL5.out]; omega
              obtain ⟨vf, hG⟩ := h2
              obtain ⟨AR, cR, eR, oR, fR, nR, _⟩ := hG.slot ht
              have hln : lnOf sj t = (sj.getD t []).length := rfl
              rw [hln] at eR oR nR
              have hri : Ints wr Ss (.slice AR (sj.getD t []).length cR) (sj.getD t []) := by
                have ho := hG.own t ht
                rw [eR, cfOf_inC, hln] at ho
                have ho2 : OwnInts wr 0 (.slice AR (sj.getD t []).length cR) (sj.getD t []) := ho
                obtain ⟨AX, cX, eX, hX⟩ := ho2.ints
                refine ⟨AX, cX, eX, fun k hk => ?_⟩
                obtain ⟨g, o, z1, z2, z3⟩ := hX k hk
                exact ⟨g, o, z1, (hG.lie t ht g (by rw [eR]; exact z2)).1, z3⟩
              have HCUT : Hid (0 < (sj.getD t []).length) := hx2
              obtain ⟨row, hrow⟩ : ∃ row, row = sj.getD t [] := ⟨_, rfl⟩
              rw [← hrow] at hle hx2 hx3 oR hri
              cases hdv : A.divideO dj row with
              | none => rw [hdv] at hle; cases hle
              | some dr =>
              obtain ⟨d4, fs⟩ := dr
              rw [hdv] at hle
              dsimp only at hle
              split at hle
              case isFalse => cases hle
              rename_i htf
              have HLE2 := Lib.hid hle
              have HTF := Lib.hid htf
              have HDV := Lib.hid hdv
              have HRI := Lib.hid hri
              have HH1 := Lib.hid h1
              have HH2 : Hid (Srcs wr Ss ob sj) := ⟨vf, hG⟩
              have HH3 := Lib.hid h3
              have HH4 := Lib.hid h4
              have HH5 := Lib.hid h5
              have HH6 := Lib.hid h6
              have HH7 := Lib.hid h7
              have HH8 := Lib.hid h8
              have HROW := Lib.hid hrow
              have HX3 := Lib.hid hx3
              have HTLT := Lib.hid ht
              clear hle htf hdv hri h1 h3 h4 h5 h6 h7 h8 hrow hG eR nR hln hge hown HCL HLE hx2 hx3 ht fR
              go_wp2_with fail
              have hdc := divide_any HH1.out HRI.out (fun b hb hs => HH4.out b hs hb) HDV.out HX3.out
              refine hdc.mono ?_
              rintro _ w6 ⟨uf, rfl, hO6, hp6, f6⟩
              have HC6 : Hid (Cl2 (w.heap.size + 1) w6 pb ob d4 sj (.slice A9 tj.length c9) tj (.slice (some ⟨gl, 0, none⟩) ls.length cL) ls) := cl2_divide HH2.out HH3.out HH4.out HH5.out (fun g hg => HH6.out g hg) HH7.out (fun g hg => HH8.out g hg) hp6 f6 HB.out.lt
              have HB6 := Lib.hid (f6.blk HB.out fun h => by have := (HH5.out _ (.inl h)).1; omega)
              have HF6 : Hid (Frm (fun _ => False) w w6) := Frm.mono (E := fun b => w.heap.size + 1 ≤ b) ((HF.out.mono fun _ _ h => h.elim).trans (f6.mono fun b _ h => (HH5.out b (.inl h)).1)) fun b hb h => by omega
              have HO6 := Lib.hid hO6
              have HU6 : Hid (OwnInts w6 (w.heap.size + 1) (.slice A9 tj.length c9) tj) := by obtain ⟨_, _, _, _, h, _⟩ := HC6.out; exact h
              obtain ⟨i0, hi0, hz0, hz1, hz2⟩ := info_parts info_int
              clear hdc hO6 hp6 f6 oR kl HH1 HH2 HH3 HH4 HH5 HH6 HH7 HH8 HRI
              go_wp2_with (at_builtin; refine wpList_append_src_at rfl _ _ 35 rfl (w.heap.size + 1) wr.heap.size 3 i0 (.int .i64 0) 1 8 Try.underlying35 hi0 hz0 hz1 hz2 rfl (by decide) _ _ _ rfl HU6.out _ _ _ rfl HO6.out (ints_one_ _) ?z1 ?z2 ?z3 ?_)
              case z1 => have h := HTF.out; unfold A.big at h; unfold maxLen; omega
              case z2 => have h := HTF.out; unfold A.big at h; omega
              case z3 => exact HB6.out.lt
              intro v' w7 hown1 hgrow hat
              obtain ⟨AV, cV, rfl⟩ := own_form hown1
              have f7 : Frm (fun b => (Value.slice A9 tj.length c9).ownBlock = some b) w6 w7 := (Frm.refl _ w6).grown hgrow fun g hg _ => hg
              have ho7 : OwnInts w7 (w.heap.size + 1) (.slice AV (tj.length + fs.length) cV) (tj ++ fs) := by
                unfold OwnInts
                rw [List.length_append, List.map_append]
                exact hown1
              have HC7 : Hid (Cl2 (w.heap.size + 1) w7 pb ob d4 sj (.slice AV (tj.length + fs.length) cV) (tj ++ fs) (.slice (some ⟨gl, 0, none⟩) ls.length cL) ls) := HC6.out.push f7 ho7 hat (Nat.le_refl _)
              have HB7 := Lib.hid (f7.blk HB6.out fun h => by have := (own_lt HU6.out _ h).1; omega)
              have HF7 : Hid (Frm (fun _ => False) w w7) := Frm.mono (E := fun b => w.heap.size + 1 ≤ b) ((HF6.out.mono fun _ _ h => h.elim).trans (f7.mono fun b _ h => (own_lt HU6.out b h).1)) fun b hb h => by omega
              obtain ⟨gr, cr, oc, fc, cp, hcut, fcut⟩ := HC7.out.cut HTLT.out HCUT.out
              rw [← HROW.out] at oc
              have HC8 := Lib.hid hcut
              have HB8 := Lib.hid (fcut.blk HB7.out (by omega))
              have HF8 : Hid (Frm (fun _ => False) w (w7.setCell ⟨ob, t, none⟩ (.slice (some ⟨gr, 0, none⟩) 0 cr))) := Frm.mono (E := fun b => w.heap.size + 1 ≤ b) ((HF7.out.mono fun _ _ h => h.elim).trans fcut) fun b hb h => by omega
              have HTF2 : Hid ((tj ++ fs).length ≤ A.big) := show _ ≤ _ by rw [List.length_append]; exact HTF.out
              have HSL : Hid ((sj.set t []).length = L) := show _ = _ by rw [List.length_set]; exact HL5.out
              have cpi : (0 : Int) ≤ (cr : Int) := by omega
              clear hown1 hgrow hat f7 ho7 hcut fcut HC6 HB6 HF6 HU6 HO6 HC7 HB7 HF7
              go_wp2_with fail
              go_roundg (ls.length + 1 - (j + 1))
              case measure => omega
              case rel => exact ⟨j + 1, d4, sj.set t [], tj ++ fs, by omega, rfl, by go_num, HLE2, HTF2, HSL, HC8, HB8, HF8⟩
            · have hltj' : ¬ (j : Int) < (ls.length : Int) := by omega
              have hle := HLE.out
              rw [List.drop_of_length_le (by omega)] at hle
              simp only [A.lettersO, Option.some.injEq, Prod.mk.injEq] at hle
              obtain ⟨rfl, rfl, rfl⟩ := hle
              have HC9 := Lib.hid HCL.out.cl
              clear HLE hown
              go_wp2_with fail
              go_roundg n
              case measure => omega
              case rel => exact ⟨dj, sj, tj, HC2, HTT, HL5, HC9, HB, HF⟩
end Go.Proofs.Ytmoniecknimmdaa
end
section
namespace Go.Proofs.Ytmoniecknimmdaa
open Go.RowKit
namespace A
/-- The class that a class's first state is led to by a letter; none where a number lies outside. -/
def nxt (m : Mac) (d : Pd) (x k : Int) : Option Int :=
  if x < 0 ∨ (d.beg.length : Int) ≤ x then none else
  if d.beg.getD x.toNat 0 < 0 ∨ (d.row.length : Int) ≤ d.beg.getD x.toNat 0 then none else
  if d.row.getD (d.beg.getD x.toNat 0).toNat 0 < 0 ∨ (m.next.length : Int) ≤ d.row.getD (d.beg.getD x.toNat 0).toNat 0 then none else
  if k < 0 ∨ ((m.next.getD (d.row.getD (d.beg.getD x.toNat 0).toNat 0).toNat []).length : Int) ≤ k then none else
  if (m.next.getD (d.row.getD (d.beg.getD x.toNat 0).toNat 0).toNat []).getD k.toNat 0 = -1 then some (-1) else
  if (m.next.getD (d.row.getD (d.beg.getD x.toNat 0).toNat 0).toNat []).getD k.toNat 0 < 0 ∨ (d.cls.length : Int) ≤ (m.next.getD (d.row.getD (d.beg.getD x.toNat 0).toNat 0).toNat []).getD k.toNat 0 then none else
  if d.cls.getD ((m.next.getD (d.row.getD (d.beg.getD x.toNat 0).toNat 0).toNat []).getD k.toNat 0).toNat 0 < -1000000 ∨ 1000000 < d.cls.getD ((m.next.getD (d.row.getD (d.beg.getD x.toNat 0).toNat 0).toNat []).getD k.toNat 0).toNat 0 then none else
  some (d.cls.getD ((m.next.getD (d.row.getD (d.beg.getD x.toNat 0).toNat 0).toNat []).getD k.toNat 0).toNat 0)
end A
theorem okI_small {x : Int} (h : -1000000 ≤ x) (h' : x ≤ 1000000) : okI x := WalkArith.wf_i64 ⟨by omega, by omega⟩
theorem Pt.drewN {w : World} {S : Nat → Prop} {pb : Nat} {d : A.Pd} (h : Pt w S pb d) (n : Nat) : Pt (w.drewN n) S pb d := by
  obtain ⟨vf, h⟩ := h
  exact ⟨vf, h.drewN n⟩
set_option maxRecDepth 100000 in
set_option maxHeartbeats 4000000 in
theorem least1_q {w : World} {P S : Nat → Prop} {m : A.Mac} {d : A.Pd} {mb cb pb : Nat} {x k y : Int} {A1 A2 : Option Addr} {c1 c2 : Nat} (h : MachAt w P (.agg #[.int .i64 m.letters, .int .i64 m.start, .slice A1 m.next.length c1, .slice A2 m.fin.length c2]) m) (hb : Blk w mb 25 #[.int .i64 m.letters, .int .i64 m.start, .slice A1 m.next.length c1, .slice A2 m.fin.length c2]) (hc : w.cell? ⟨cb, 0, none⟩ = some (.pointer (some ⟨pb, 0, none⟩))) (hp : Pt w S pb d) (hy : A.nxt m d x k = some y) :
    okI y ∧ Calls Try.prog 45 #[.int .i64 x, .int .i64 k, .pointer (some ⟨mb, 0, none⟩), .pointer (some ⟨cb, 0, none⟩)] w fun e w' => e = .returned (.int .i64 y) ∧ ∃ n, w' = w.drewN n := by
  unfold A.nxt at hy
  split at hy
  · cases hy
  rename_i hx
  obtain ⟨x, rfl⟩ : ∃ q : Nat, x = (q : Int) := ⟨x.toNat, by omega⟩
  simp only [Int.toNat_natCast] at hy
  obtain ⟨b0, hb0⟩ : ∃ b0, b0 = d.beg.getD x 0 := ⟨_, rfl⟩
  rw [← hb0] at hy
  split at hy
  · cases hy
  rename_i hbb
  obtain ⟨b, rfl⟩ : ∃ q : Nat, b0 = (q : Int) := ⟨b0.toNat, by omega⟩
  simp only [Int.toNat_natCast] at hy
  obtain ⟨s0, hs0⟩ : ∃ s0, s0 = d.row.getD b 0 := ⟨_, rfl⟩
  rw [← hs0] at hy
  split at hy
  · cases hy
  rename_i hss
  obtain ⟨s, rfl⟩ : ∃ q : Nat, s0 = (q : Int) := ⟨s0.toNat, by omega⟩
  simp only [Int.toNat_natCast] at hy
  have hsl : s < m.next.length := by omega
  obtain ⟨g, o, A3, c3, rfl, r1, r2⟩ := h.next_at hsl
  rw [show m.next.getD s [] = m.next[s] by simp [hsl]] at hy
  generalize m.next[s] = row at *
  split at hy
  · cases hy
  rename_i hkk
  obtain ⟨k, rfl⟩ : ∃ q : Nat, k = (q : Int) := ⟨k.toNat, by omega⟩
  simp only [Int.toNat_natCast] at hy
  have hkl : k < row.length := by omega
  obtain ⟨g3, o3, rfl, _, r3⟩ := r2 k hkl
  rw [show row.getD k 0 = row[k] by simp [hkl]] at hy
  generalize row[k] = t at *
  have HONE : Hid (∀ n, Calls Try.prog 46 #[.pointer (some ⟨pb, 0, none⟩), .int .i64 x] (w.drewN n) fun e w' => e = .returned (.int .i64 (s : Int)) ∧ ∃ m, w' = (w.drewN n).drewN m) := fun n => by
    have := one_q (hp.drewN n) (k := x) (b := b) (by omega) hb0.symm (by omega)
    rw [← hs0] at this
    exact this
  have x1 := hb.cell 2
  have hsl' : (s : Int) < (m.next.length : Int) := by omega
  have hkl' : (k : Int) < (row.length : Int) := by omega
  have HP := Lib.hid hp
  by_cases ht : t = -1
  · subst ht
    rw [if_pos rfl] at hy
    injection hy with hy
    subst hy
    refine ⟨okI_small (by decide) (by decide), ?_⟩
    clear hx hbb hss hkk hb0 hs0 r2 hp h hb
    go_enter Try.func45, Try.ntmps45
    go_wp2_with fail
    go_quiet ((go_at_call 46; exact Calls.quiet_of (HONE.out _)))
    go_wp2_with fail
    go_ret
    exact ⟨rfl, nq, rfl⟩
  · rw [if_neg ht] at hy
    split at hy
    · cases hy
    rename_i htt
    obtain ⟨t, rfl⟩ : ∃ q : Nat, t = (q : Int) := ⟨t.toNat, by omega⟩
    simp only [Int.toNat_natCast] at hy
    split at hy
    · cases hy
    rename_i hcc
    injection hy with hy
    have htl : t < d.cls.length := by omega
    refine ⟨okI_small (by omega) (by omega), ?_⟩
    obtain ⟨vf, hv⟩ := hp
    obtain ⟨gq, cq, e2, o2, f2, k2, l2, _⟩ := hv.at_ (i := 2) (j := t) (by decide) htl
    have htl' : (t : Int) < ((d.f 2).length : Int) := by have : t < (d.f 2).length := htl; omega
    rw [show (d.f 2).getD t 0 = y from hy] at k2
    generalize (d.f 2).length = n2 at *
    have HT := Lib.hid ht
    clear hx hbb hss hkk hb0 hs0 r2 h hb htt hcc hy htl hv e2
    go_enter Try.func45, Try.ntmps45
    go_wp2_with fail
    go_quiet ((go_at_call 46; exact Calls.quiet_of (HONE.out _)))
    go_wp2_with fail
    go_ret
    exact ⟨rfl, nq, rfl⟩
end Go.Proofs.Ytmoniecknimmdaa
end
section
namespace Go.Proofs.Ytmoniecknimmdaa
open Go.RowKit
namespace A
/-- The ways into the states are few, and come from states. -/
def waysOk (m : Mac) : Bool := decide ((arrive m).length = m.next.length) && (arrive m).all fun l => decide (l.length ≤ 30000000) && l.all fun a => decide (0 ≤ a.1) && decide (a.1 < (m.next.length : Int))
/-- Whether a found class stands for a state. -/
def endOk (m : Mac) (d : Pd) (c : Int) : Bool := decide (0 ≤ c) && decide (c < (d.beg.length : Int)) && decide (0 ≤ d.beg.getD c.toNat 0) && decide (d.beg.getD c.toNat 0 < (d.row.length : Int)) && decide (0 ≤ d.row.getD (d.beg.getD c.toNat 0).toNat 0) && decide (d.row.getD (d.beg.getD c.toNat 0).toNat 0 < (m.fin.length : Int))
def endOf (m : Mac) (d : Pd) (c : Int) : Bool := m.fin.getD (d.row.getD (d.beg.getD c.toNat 0).toNat 0).toNat false
def startOk (m : Mac) (d : Pd) : Bool := decide (m.start < (d.cls.length : Int)) && decide (-1000000 ≤ d.cls.getD m.start.toNat 0) && decide (d.cls.getD m.start.toNat 0 ≤ 1000000) && decide (d.beg.length ≤ 1000000)
def leastO (f : Nat) (m : Mac) : Option Mac :=
  if waysOk m then match livO (arrive m) f 0 m.fin (trues m.fin m.next.length) with
  | none => none
  | some al => if m.start = -1 then some ⟨m.letters, -1, [], []⟩ else if al.getD m.start.toNat false then match classesO f m (arrive m) al with
    | none => none
    | some d => if startOk m d then match searchO (nxt m d) f (d.cls.getD m.start.toNat 0) (-1) m.letters.toNat d.beg.length with
      | none => none
      | some (ts, rows) => if ts.all (endOk m d) && decide (ts.length ≤ 1000001) then some ⟨m.letters, 0, rows, ts.map (endOf m d)⟩ else none
      else none
    else some ⟨m.letters, -1, [], []⟩
  else none
theorem waysOk.len {m : Mac} (h : waysOk m = true) : (arrive m).length = m.next.length := by
  simp only [waysOk, Bool.and_eq_true, decide_eq_true_eq] at h
  exact h.1
theorem waysOk.short {m : Mac} (h : waysOk m = true) : Short (arrive m) 30000000 := fun i => by
  simp only [waysOk, Bool.and_eq_true, decide_eq_true_eq, List.all_eq_true] at h
  rcases Nat.lt_or_ge i (arrive m).length with hi | hi
  · rw [show (arrive m).getD i [] = (arrive m)[i] by simp [hi]]
    exact (h.2 _ (List.getElem_mem hi)).1
  · rw [show (arrive m).getD i [] = [] by simp [hi]]
    exact Nat.zero_le _
theorem waysOk.from_ {m : Mac} (h : waysOk m = true) : FromIn (arrive m) m.next.length := fun i a ha => by
  simp only [waysOk, Bool.and_eq_true, decide_eq_true_eq, List.all_eq_true] at h
  rcases Nat.lt_or_ge i (arrive m).length with hi | hi
  · rw [show (arrive m).getD i [] = (arrive m)[i] by simp [hi]] at ha
    exact (h.2 _ (List.getElem_mem hi)).2 a ha
  · rw [show (arrive m).getD i [] = [] by simp [hi]] at ha
    cases ha
end A
theorem cell_lt {w : World} {g i : Nat} {v : Value} (h : w.cell? ⟨g, i, none⟩ = some v) : g < w.heap.size := by
  rcases Nat.lt_or_ge g w.heap.size with hl | hl
  · exact hl
  · simp [World.cell?, Array.getElem?_eq_none hl] at h
theorem Rows2.lt {w : World} {P : Nat → Prop} {v : Value} {l : List (List Int)} (h : Rows2 w P v l) : Rows2 w (fun b => P b ∧ b < w.heap.size) v l := by
  obtain ⟨A0, c, e, h⟩ := h
  refine ⟨A0, c, e, fun k hk => ?_⟩
  obtain ⟨g, o, rv, h1, h2, h3, A1, c1, e1, h4⟩ := h k hk
  refine ⟨g, o, rv, h1, ⟨h2, cell_lt h3⟩, h3, A1, c1, e1, fun j hj => ?_⟩
  obtain ⟨g', o', a1, a2, a3⟩ := h4 j hj
  exact ⟨g', o', a1, ⟨a2, cell_lt a3⟩, a3⟩
namespace A
/-- The ends of the first k found classes. -/
def endsTo (m : Mac) (d : Pd) (ts : List Int) (k : Nat) : List Bool := (ts.take k).map (endOf m d) ++ List.replicate (ts.length - k) false
theorem endsTo_len (m : Mac) (d : Pd) (ts : List Int) {k : Nat} (hk : k ≤ ts.length) : (endsTo m d ts k).length = ts.length := by simp [endsTo]; omega
theorem endsTo_zero (m : Mac) (d : Pd) (ts : List Int) : endsTo m d ts 0 = List.replicate ts.length false := by simp [endsTo]
theorem endsTo_all (m : Mac) (d : Pd) (ts : List Int) : endsTo m d ts ts.length = ts.map (endOf m d) := by simp [endsTo]
theorem endsTo_succ (m : Mac) (d : Pd) (ts : List Int) {k : Nat} (hk : k < ts.length) : (endsTo m d ts k).set k (endOf m d (ts.getD k 0)) = endsTo m d ts (k + 1) := by
  unfold endsTo
  rw [List.set_append_right _ _ (by simp; omega), show ts.length - k = (ts.length - (k + 1)) + 1 by omega, List.replicate_succ]
  have e : k - ((ts.take k).map (endOf m d)).length = 0 := by simp; omega
  rw [e, List.set_cons_zero, List.take_add_one, List.map_append]
  simp [hk]
end A
/-- What a round of the ends keeps: all but the ends' row. -/
def Lq (wr w' : World) (eb k : Nat) : Prop := Frm (fun b => b = eb) wr w' ∧ ∃ l : List Bool, k < l.length ∧ Blk w' eb 4 (boolCs l)
theorem Lq.call {wr w1 w2 : World} {eb k : Nat} (h : Lq wr w1 eb k) (F : Frm (fun _ => False) w1 w2) : Lq wr w2 eb k := by
  obtain ⟨h1, l, h2, h3⟩ := h
  exact ⟨h1.trans (F.mono fun _ _ h => h.elim), l, h2, F.blk h3 id⟩
theorem Lq.put {wr w1 : World} {eb k : Nat} (h : Lq wr w1 eb k) (b : Bool) : Lq wr (w1.setCell ⟨eb, k, none⟩ (.bool b)) eb k := by
  obtain ⟨h1, l, h2, h3⟩ := h
  refine ⟨h1.trans ((Frm.refl (fun b => b = eb) w1).set_ (p := ⟨eb, k, none⟩) (fun _ => rfl) _), l.set k b, by simpa using h2, ?_⟩
  rw [← boolCs_set]
  exact h3.set_ k _
theorem Lq.six {wr w1 : World} {eb k g3 i3 g5 i5 g6 i6 : Nat} {v3 v5 v6 : Value} (x3 : wr.cell? ⟨g3, i3, none⟩ = some v3) (n3 : g3 ≠ eb) (x5 : wr.cell? ⟨g5, i5, none⟩ = some v5) (n5 : g5 ≠ eb) (x6 : wr.cell? ⟨g6, i6, none⟩ = some v6) (n6 : g6 ≠ eb) (h : Lq wr w1 eb k) : w1.cell? ⟨g3, i3, none⟩ = some v3 ∧ w1.cell? ⟨g5, i5, none⟩ = some v5 ∧ w1.cell? ⟨g6, i6, none⟩ = some v6 ∧ w1.cell? ⟨eb, k, none⟩ = some (held w1 ⟨eb, k, none⟩) ∧ w1.frozen? ⟨eb, k, none⟩ = false ∧ Lq wr w1 eb k := by
  have h' := h
  obtain ⟨h1, l, h2, h3⟩ := h
  have e : w1.cell? ⟨eb, k, none⟩ = some (.bool (l.getD k false)) := by rw [h3.cell k, boolCs_getD h2]
  exact ⟨h1.cell n3 x3, h1.cell n5 x5, h1.cell n6 x6, by rw [held, e]; rfl, h3.frozen k, h'⟩
def put4 (w : World) (b : Nat) (l s n e : Value) : World := (((w.setCell ⟨b, 0, none⟩ l).setCell ⟨b, 1, none⟩ s).setCell ⟨b, 2, none⟩ n).setCell ⟨b, 3, none⟩ e
theorem put4_blk {w : World} {b : Nat} {t : TypeId} {c0 c1 c2 c3 l s n e : Value} (h : Blk w b t #[c0, c1, c2, c3]) : Blk (put4 w b l s n e) b t #[l, s, n, e] := (((h.set_ 0 l).set_ 1 s).set_ 2 n).set_ 3 e
theorem put4_frm {w w2 : World} {b : Nat} {l s n e : Value} (h : Frm (fun _ => False) w w2) (hb : w.heap.size ≤ b) : Frm (fun _ => False) w (put4 w2 b l s n e) :=
  (((h.set_ (p := ⟨b, 0, none⟩) (fun h => absurd h (by simp; omega)) l).set_ (p := ⟨b, 1, none⟩) (fun h => absurd h (by simp; omega)) s).set_ (p := ⟨b, 2, none⟩) (fun h => absurd h (by simp; omega)) n).set_ (p := ⟨b, 3, none⟩) (fun h => absurd h (by simp; omega)) e
theorem put4_frm1 {w : World} {b : Nat} {l s n e : Value} : Frm (fun x => x = b) w (put4 w b l s n e) :=
  ((((Frm.refl (fun x => x = b) w).set_ (p := ⟨b, 0, none⟩) (fun _ => rfl) l).set_ (p := ⟨b, 1, none⟩) (fun _ => rfl) s).set_ (p := ⟨b, 2, none⟩) (fun _ => rfl) n).set_ (p := ⟨b, 3, none⟩) (fun _ => rfl) e
set_option maxRecDepth 100000 in
set_option maxHeartbeats 16000000 in
theorem least_any {w : World} {P : Nat → Prop} {v : Value} {m m2 : A.Mac} {f : Nat} (h : MachAt w P v m) (hf : A.Fits m) (hn : m.next.length ≤ 100000) (hl3 : m.letters ≤ 300) (hfl : f ≤ 100000) (hr : A.leastO f m = some m2) :
    Calls Try.prog 21 #[v] w fun e w' => ∃ r, e = .returned r ∧ MachAt w' (fun b => w.heap.size ≤ b) r m2 ∧ Frm (fun _ => False) w w' := by
  obtain ⟨A1, c1, A2, c2, rfl⟩ := h.form
  unfold A.leastO at hr
  split at hr
  case isFalse => cases hr
  rename_i hways
  split at hr
  · cases hr
  rename_i al hliv
  have HW := Lib.hid hways
  have HLV := Lib.hid hliv
  have HRS := Lib.hid hr
  have HFI := Lib.hid hf
  have hs1 : -1 ≤ m.start := hf.start.1
  have hs2 : m.start < (m.next.length : Int) := hf.start.2
  have HLT := Lib.hid hf.letters
  have HB0 : Hid (Blk ((w.alloc (.cells #[.int .i64 m.letters, .int .i64 m.start, .slice A1 m.next.length c1, .slice A2 m.fin.length c2] 25)).alloc (.cells #[.int .i64 0, .int .i64 0, .slice none 0 0, .slice none 0 0] 25)) w.heap.size 25 #[.int .i64 m.letters, .int .i64 m.start, .slice A1 m.next.length c1, .slice A2 m.fin.length c2]) := (Blk.new w _ _).alloc _
  have HR0 : Hid (Blk ((w.alloc (.cells #[.int .i64 m.letters, .int .i64 m.start, .slice A1 m.next.length c1, .slice A2 m.fin.length c2] 25)).alloc (.cells #[.int .i64 0, .int .i64 0, .slice none 0 0, .slice none 0 0] 25)) (w.heap.size + 1) 25 #[.int .i64 0, .int .i64 0, .slice none 0 0, .slice none 0 0]) := blk_at (by simp)
  have F0 : Frm (fun _ => False) w ((w.alloc (.cells #[.int .i64 m.letters, .int .i64 m.start, .slice A1 m.next.length c1, .slice A2 m.fin.length c2] 25)).alloc (.cells #[.int .i64 0, .int .i64 0, .slice none 0 0, .slice none 0 0] 25)) := ((Frm.refl _ w).alloc _).alloc _
  have HM := Lib.hid (h.keep0 F0)
  have HF0 := Lib.hid F0
  clear F0 hf h hways hliv hr
  go_enter Try.func21, Try.ntmps21
  go_wp2_with fail
  refine (arrivals_any HM.out HFI.out hn hl3).mono ?_
  rintro _ w1 ⟨ob, rfl, p1, f1⟩
  have HAR := Lib.hid p1
  have HB1 := Lib.hid (f1.blk HB0.out id)
  have HR1 := Lib.hid (f1.blk HR0.out id)
  have HM1 := Lib.hid (HM.out.keep0 f1)
  have HF1 := Lib.hid (HF0.out.trans f1)
  have HS0 : Hid (w.heap.size + 2 ≤ w1.heap.size) := show _ ≤ _ by have := f1.1; simpa using this
  clear p1 f1 HB0 HR0 HM HF0
  have x0 := HB1.out.cell 0
  have x1 := HB1.out.cell 1
  have x2 := HB1.out.cell 2
  have x3 := HB1.out.cell 3
  go_wp2_with fail
  refine (living_any HM1.out HFI.out hn HAR.out (A.waysOk.len HW.out) (A.waysOk.short HW.out) (A.waysOk.from_ HW.out) HLV.out hfl).mono ?_
  rintro _ w2 ⟨ga, rfl, hga, b2, hal, f2⟩
  have HAR2 := Lib.hid (Rws.frm HAR.out f2 fun _ _ _ => id)
  have HAL := Lib.hid b2
  have HALL := Lib.hid hal
  have HB2 := Lib.hid (f2.blk HB1.out id)
  have HR2 := Lib.hid (f2.blk HR1.out id)
  have HM2 := Lib.hid (HM1.out.keep0 f2)
  have HF2 := Lib.hid (HF1.out.trans f2)
  have HS2 : Hid (w.heap.size + 2 ≤ w2.heap.size) := show _ ≤ _ by have := f2.1; have := HS0.out; omega
  clear x0 x1 x2 x3 b2 f2 hga hal HAR HB1 HR1 HM1 HF1 HS0
  have hrs := HRS.out
  have x0 := HB2.out.cell 0
  have x1 := HB2.out.cell 1
  have r0 := HR2.out.cell 0
  have r1 := HR2.out.cell 1
  have r2 := HR2.out.cell 2
  have r3 := HR2.out.cell 3
  have q0 := HR2.out.frozen 0
  have q1 := HR2.out.frozen 1
  have q2 := HR2.out.frozen 2
  have q3 := HR2.out.frozen 3
  by_cases hst : m.start = -1
  · rw [if_pos hst] at hrs
    injection hrs with hrs
    subst hrs
    clear hs1 hs2
    rw [hst] at x1
    go_wp2_with fail
    refine bodyPost_ret (w := put4 w2 (w.heap.size + 1) (.int .i64 m.letters) (.int .i64 (-1)) (.slice none 0 0) (.slice none 0 0)) (v := .agg #[.int .i64 m.letters, .int .i64 (-1), .slice none 0 0, .slice none 0 0]) ?_ rfl ⟨_, rfl, ⟨_, _, rfl, ⟨none, 0, rfl, fun k hk => absurd hk (Nat.not_lt_zero _)⟩, ⟨none, 0, rfl, fun k hk => absurd hk (Nat.not_lt_zero _)⟩⟩, put4_frm HF2.out (by omega)⟩
    have h4 := put4_blk (l := .int .i64 m.letters) (s := .int .i64 (-1)) (n := .slice none 0 0) (e := .slice none 0 0) HR2.out
    generalize put4 w2 (w.heap.size + 1) (.int .i64 m.letters) (.int .i64 (-1)) (.slice none 0 0) (.slice none 0 0) = w4 at *
    have y0 := h4.cell 0
    have y1 := h4.cell 1
    have y2 := h4.cell 2
    have y3 := h4.cell 3
    simp [results, Try.results21, go_sem, y0, y1, y2, y3]
  · rw [if_neg hst] at hrs
    obtain ⟨s, hs⟩ : ∃ s : Nat, m.start = (s : Int) := ⟨m.start.toNat, by omega⟩
    rw [hs, Int.toNat_natCast] at hrs
    rw [hs] at x1 hs2
    have hal := HALL.out
    have z0 := HAL.out.cell s
    rw [boolCs_getD (by omega)] at z0
    clear hs1 hst
    cases hb : al.getD s false with
    | false =>
      rw [hb] at hrs z0
      rw [if_neg (by decide)] at hrs
      injection hrs with hrs
      subst hrs
      clear hal hb
      go_wp2_with fail
      refine bodyPost_ret (w := put4 w2 (w.heap.size + 1) (.int .i64 m.letters) (.int .i64 (-1)) (.slice none 0 0) (.slice none 0 0)) (v := .agg #[.int .i64 m.letters, .int .i64 (-1), .slice none 0 0, .slice none 0 0]) ?_ rfl ⟨_, rfl, ⟨_, _, rfl, ⟨none, 0, rfl, fun k hk => absurd hk (Nat.not_lt_zero _)⟩, ⟨none, 0, rfl, fun k hk => absurd hk (Nat.not_lt_zero _)⟩⟩, put4_frm HF2.out (by omega)⟩
      have h4 := put4_blk (l := .int .i64 m.letters) (s := .int .i64 (-1)) (n := .slice none 0 0) (e := .slice none 0 0) HR2.out
      generalize put4 w2 (w.heap.size + 1) (.int .i64 m.letters) (.int .i64 (-1)) (.slice none 0 0) (.slice none 0 0) = w4 at *
      have y0 := h4.cell 0
      have y1 := h4.cell 1
      have y2 := h4.cell 2
      have y3 := h4.cell 3
      simp [results, Try.results21, go_sem, y0, y1, y2, y3]
    | true =>
      rw [hb] at hrs z0
      rw [if_pos rfl] at hrs
      split at hrs
      · cases hrs
      rename_i d hcls
      split at hrs
      case isFalse => cases hrs
      rename_i hso
      split at hrs
      · cases hrs
      rename_i ts rows hsr
      split at hrs
      case isFalse => cases hrs
      rename_i hends
      simp only [Bool.and_eq_true, decide_eq_true_eq] at hends
      obtain ⟨hends, htl⟩ := hends
      injection hrs with hrs
      subst hrs
      have HCLS := Lib.hid hcls
      have HSO := Lib.hid hso
      have HSR := Lib.hid hsr
      have HEN := Lib.hid hends
      have HTL := Lib.hid htl
      clear htl
      have HHS := Lib.hid hs
      have x2 := HB2.out.cell 2
      have x3 := HB2.out.cell 3
      clear hcls hso hsr hends hal hb
      go_wp2_with fail
      have hcl := classes_any HM2.out HFI.out hn hl3 HAR2.out (A.waysOk.len HW.out) HAL.out HALL.out HCLS.out
      rw [HHS.out] at hcl
      refine hcl.mono ?_
      clear hcl
      rintro _ w3 ⟨pb, rfl, p3, f3⟩
      have HP3 := Lib.hid p3
      have HB3 := Lib.hid (f3.blk HB2.out id)
      have HR3 := Lib.hid (f3.blk HR2.out id)
      have HM3 := Lib.hid (HM2.out.keep0 f3)
      have HF3 := Lib.hid (HF2.out.trans f3)
      have HS3 : Hid (w2.heap.size ≤ w3.heap.size) := f3.1
      clear x0 x1 x2 x3 r0 r1 r2 r3 q0 q1 q2 q3 z0 p3 f3 HAR2 HAL HALL HB2 HR2 HM2 HF2
      go_wp2_with fail
      obtain ⟨cb, hcb⟩ : ∃ cb, cb = w3.heap.size := ⟨_, rfl⟩
      obtain ⟨L, hL⟩ : ∃ L : Nat, m.letters = (L : Int) := ⟨m.letters.toNat, by have := HLT.out; omega⟩
      obtain ⟨wb, hwb⟩ : ∃ wb, wb = w3.alloc (.cells #[.pointer (some ⟨pb, 0, none⟩)] 73) := ⟨_, rfl⟩
      have Fb : Frm (fun _ => False) w3 wb := by rw [hwb]; exact (Frm.refl _ w3).alloc _
      have k5 : wb.cell? ⟨cb, 0, none⟩ = some (.pointer (some ⟨pb, 0, none⟩)) := by rw [hwb, hcb]; exact (Blk.new w3 _ _).cell 0
      have HB4 := Lib.hid (Fb.blk HB3.out id)
      have HR4 := Lib.hid (Fb.blk HR3.out id)
      have HM4 := Lib.hid (HM3.out.keep0 Fb)
      have HP4 := Lib.hid (HP3.out.frm Fb fun _ _ _ => id)
      have HF4 := Lib.hid (HF3.out.trans Fb)
      have HS4 : Hid (w.heap.size + 2 ≤ wb.heap.size) := show _ ≤ _ by have := Fb.1; have := HS3.out; have := HS2.out; omega
      have x0 := HB4.out.cell 0
      have x1 := HB4.out.cell 1
      rw [show (#[Value.int .i64 m.letters, .int .i64 m.start, .slice A1 m.next.length c1, .slice A2 m.fin.length c2] : Array Value)[0]? = some (.int .i64 m.letters) from rfl, hL] at x0
      rw [show (#[Value.int .i64 m.letters, .int .i64 m.start, .slice A1 m.next.length c1, .slice A2 m.fin.length c2] : Array Value)[1]? = some (.int .i64 m.start) from rfl, HHS.out] at x1
      have hso := HSO.out
      simp only [A.startOk, Bool.and_eq_true, decide_eq_true_eq, HHS.out, Int.toNat_natCast] at hso
      obtain ⟨⟨⟨so1, so2⟩, so3⟩, so4⟩ := hso
      obtain ⟨vf, hv⟩ := HP4.out
      obtain ⟨g2, z2, e2, k2, _, l2, _⟩ := hv.at_ (i := 2) (j := s) (by decide) (show s < d.cls.length by omega)
      obtain ⟨A3, z3, e3, k3, _⟩ := hv.slot (i := 3) (by decide)
      rw [show (d.f 3).length = d.beg.length from rfl] at k3
      rw [show (d.f 2).length = d.cls.length from rfl] at k2
      rw [show (d.f 2).getD s 0 = d.cls.getD s 0 from rfl] at l2
      have HNX : Hid (∀ W', Frm (fun _ => False) wb W' → ∀ (x k y : Int) (W : World), A.nxt m d x k = some y → Frm (fun _ => False) W' W → okI y ∧ Calls Try.prog 45 #[.int .i64 x, .int .i64 k, .pointer (some ⟨w.heap.size, 0, none⟩), .pointer (some ⟨cb, 0, none⟩)] W fun e w' => e = .returned (.int .i64 y) ∧ Frm (fun _ => False) W w') := fun W' hW' x k y W hy hW => by
        have hF := hW'.trans hW
        obtain ⟨h1, h2⟩ := least1_q (HM4.out.keep0 hF) (hF.blk HB4.out id) (hF.cell id k5) (HP4.out.frm hF fun _ _ _ => id) hy
        exact ⟨h1, h2.mono fun e w' ⟨a, n, b⟩ => ⟨a, by rw [b]; exact (Frm.refl _ W).drewN n⟩⟩
      have HOK1 : Hid (okI (d.cls.getD s 0)) := okI_small so2 so3
      have HOK2 : Hid (okI (-1)) := okI_small (by decide) (by decide)
      have HSR2 : Hid (A.searchO (A.nxt m d) f (d.cls.getD s 0) (-1) L d.beg.length = some (ts, rows)) := by
        have := HSR.out
        rw [hL, Int.toNat_natCast] at this
        exact this
      have so1' : (s : Int) < (d.cls.length : Int) := by have := so1; omega
      have HL := Lib.hid hL
      have HSO4 : Hid (d.beg.length ≤ 1000000) := so4
      have HLL : Hid (L ≤ 300) := show _ ≤ _ by omega
      rw [← hcb, ← hwb]
      clear so1 so2 so3 so4 hv e2 e3 hwb Fb HB3 HR3 HM3 HP3 HF3 HS3 hL hcb HSR
      generalize d.cls.getD s 0 = st at *
      go_region_held3 (fun w' => w'.cell? ⟨w.heap.size, 0, none⟩ = some (.int .i64 (L : Int)) ∧ w'.cell? ⟨w.heap.size, 1, none⟩ = some (.int .i64 (s : Int)) ∧ w'.cell? ⟨cb, 0, none⟩ = some (.pointer (some ⟨pb, 0, none⟩)) ∧ w'.cell? ⟨pb, 2, none⟩ = some (.slice (some ⟨g2, 0, none⟩) d.cls.length z2) ∧ w'.cell? ⟨pb, 3, none⟩ = some (.slice A3 d.beg.length z3) ∧ w'.cell? ⟨g2, s, none⟩ = some (.int .i64 st) ∧ Frm (fun _ => False) wb w')
        (first | exact ⟨x0, x1, k5, k2, k3, l2, Frm.refl _ _⟩ | exact ⟨x0, x1, k5, k2, k3, l2, (Frm.refl _ _).drew⟩ | (go_split_ands; exact ⟨Frm.cell (by assumption) id (by assumption), Frm.cell (by assumption) id (by assumption), Frm.cell (by assumption) id (by assumption), Frm.cell (by assumption) id (by assumption), Frm.cell (by assumption) id (by assumption), Frm.cell (by assumption) id (by assumption), Frm.trans (by assumption) (by assumption)⟩))
        (first | (go_at_call 44; obtain ⟨-, -, -, -, -, -, hFx⟩ := ‹_ ∧ _ ∧ _ ∧ _ ∧ _ ∧ _ ∧ Frm (fun _ => False) wb _›; refine (searchI_any (HNX.out _ hFx) HOK1.out HOK2.out HLL.out (by omega) (by have := HSO4.out; omega) HSR2.out).mono ?_; clear hFx; rintro e w5 ⟨uT, uR, rfl, o5, r5, f5⟩))
      have F5 : Frm (fun _ => False) wb w5 := f5
      have HB5 := Lib.hid (F5.blk HB4.out id)
      have HR5 := Lib.hid (F5.blk HR4.out id)
      have HM5 := Lib.hid (HM4.out.keep0 F5)
      have HP5 := Lib.hid (HP4.out.frm F5 fun _ _ _ => id)
      have HF5 := Lib.hid (HF4.out.trans F5)
      have HS5 : Hid (w.heap.size + 2 ≤ w5.heap.size) := show _ ≤ _ by have := F5.1; have := HS4.out; omega
      have HK5 : Hid (w5.cell? ⟨cb, 0, none⟩ = some (.pointer (some ⟨pb, 0, none⟩))) := F5.cell id k5
      have HO5 : Hid (OwnInts w5 wb.heap.size uT ts) := o5
      have HRO5 : Hid (Rows2 w5 (fun b => wb.heap.size ≤ b ∧ b < w5.heap.size) uR rows) := r5.lt
      obtain ⟨AT, cT, rfl⟩ := own_form HO5.out
      clear x0 x1 k5 k2 k3 l2 o5 r5 f5 F5 HB4 HR4 HM4 HP4 HF4 HNX HOK1 HOK2 HSR2
      clear ‹_ ∧ _ ∧ _ ∧ _ ∧ _ ∧ _ ∧ Frm (fun _ => False) wb _›
      have htl := HTL.out
      have hmk := run_make_row' (P := Try.prog) 23 4 (.bool false) 1 Try.underlying23 info_bool rfl .i64 .i64 ts.length (by omega) (by omega)
      clear htl
      go_wp2_with fail
      obtain ⟨eb, heb⟩ : ∃ eb, eb = w5.heap.size := ⟨_, rfl⟩
      obtain ⟨w6, hw6⟩ : ∃ w6, w6 = w5.alloc (.cells (madeCells #[.bool false] ts.length) 4) := ⟨_, rfl⟩
      have F6 : Frm (fun b => b = eb) w5 w6 := by rw [hw6]; exact (Frm.refl _ w5).alloc _
      have HEB0 : Hid (Blk w6 eb 4 (boolCs (A.endsTo m d ts 0))) := by
        rw [hw6, heb, A.endsTo_zero, ← boolCs_made]; exact Blk.new w5 _ _
      have HF6 : Hid (Frm (fun b => b = eb) w5 w6) := F6
      have HEB : Hid (eb = w5.heap.size) := heb
      rw [← heb, ← hw6]
      clear heb hw6 F6 hmk
      go_loopg [61] (ts.length + 1) (fun n i wr => ∃ k : Nat, k ≤ ts.length ∧ n = ts.length + 1 - k ∧ i = .int .i64 (k : Int) ∧ Hid (Blk wr eb 4 (boolCs (A.endsTo m d ts k))) ∧ Hid (Frm (fun b => b = eb) w5 wr))
      case atStart => exact ⟨0, Nat.zero_le _, rfl, rfl, HEB0, HF6⟩
      case round =>
        clear HEB0 HF6
        obtain ⟨k, hk, rfl, rfl, HE, HF⟩ := hrel
        by_cases hlt : k < ts.length
        · have hlt' : (k : Int) < (ts.length : Int) := by omega
          obtain ⟨g7, rfl, hg7, l7⟩ := OwnInts.at_ (HO5.out) hlt
          have hg7' : g7 ≠ eb := by have := cell_lt l7; have := HEB.out; omega
          have l8 := HF.out.cell hg7' l7
          have hen := List.all_eq_true.1 HEN.out (ts.getD k 0) (by simp [List.getD, hlt])
          have HSET := Lib.hid (A.endsTo_succ m d ts hlt)
          simp only [A.endOk, Bool.and_eq_true, decide_eq_true_eq] at hen
          obtain ⟨⟨⟨⟨⟨n1, n2⟩, n3⟩, n4⟩, n5⟩, n6⟩ := hen
          unfold A.endOf at HSET
          generalize ts.getD k 0 = c0 at *
          obtain ⟨c, rfl⟩ : ∃ q : Nat, c0 = (q : Int) := ⟨c0.toNat, by omega⟩
          rw [Int.toNat_natCast] at n3 n4 n5 n6 HSET
          obtain ⟨b, hb⟩ : ∃ q : Nat, d.beg.getD c 0 = (q : Int) := ⟨(d.beg.getD c 0).toNat, by omega⟩
          rw [hb, Int.toNat_natCast] at n5 n6 HSET
          rw [hb] at n4
          obtain ⟨sk, hsk⟩ : ∃ q : Nat, d.row.getD b 0 = (q : Int) := ⟨(d.row.getD b 0).toNat, by omega⟩
          rw [hsk, Int.toNat_natCast] at HSET
          rw [hsk] at n6
          have hskl : sk < m.fin.length := by omega
          obtain ⟨g6, o6, rfl, l6⟩ := HM5.out.fin_at hskl
          have hg6 : g6 ≠ eb := by have := cell_lt l6; have := HEB.out; omega
          have l6' := HF.out.cell hg6 l6
          rw [show m.fin.getD sk false = m.fin[sk] by simp [hskl]] at HSET
          generalize m.fin[sk] = bo at *
          have hbx : w.heap.size ≠ eb := by have := HEB.out; have := HS5.out; omega
          have x3 := HF.out.cell hbx (HB5.out.cell 3)
          have hcb : cb ≠ eb := by have := cell_lt HK5.out; have := HEB.out; omega
          have k5 := HF.out.cell hcb HK5.out
          have HPW : Hid (Pt wr (fun b => w2.heap.size ≤ b ∧ b < w5.heap.size) pb d) := (HP5.out.mono fun b hb hs => ⟨hs, hb⟩).frm HF.out fun b _ h e => by have := HEB.out; omega
          have HONE : Hid (∀ W, Frm (fun b => b = eb) wr W → Calls Try.prog 46 #[.pointer (some ⟨pb, 0, none⟩), .int .i64 (c : Int)] W fun e w' => e = .returned (.int .i64 (sk : Int)) ∧ Frm (fun _ => False) W w') := fun W hW => by
            have := one_any (HPW.out.frm hW fun b _ h e => by have := HEB.out; omega) (k := c) (b := b) (by omega) hb (by omega)
            rw [hsk] at this
            exact this
          have hsk' : (sk : Int) < (m.fin.length : Int) := by omega
          have hel := A.endsTo_len m d ts hk
          have e1 := HE.out.cell k
          rw [boolCs_getD (by omega)] at e1
          have e2 := HE.out.frozen k
          have x3' : wr.cell? ⟨w.heap.size, 3, none⟩ = some (.slice (some ⟨g6, o6, none⟩) m.fin.length c2) := x3
          have HLX : Hid (∀ w', Lq wr w' eb k → _) := fun w' h => Lq.six x3' hbx k5 hcb l6' hg6 h
          have l0 : Lq wr wr eb k := ⟨Frm.refl _ _, _, by omega, HE.out⟩
          have HKL : Hid (k < (A.endsTo m d ts k).length) := show _ < _ by omega
          clear n1 n2 n3 n4 n5 n6 hb hsk l6 l7 hg7 hg7' hg6 hbx hcb hskl hel e1 e2 x3
          go_wp2_with fail
          go_region_held3 (fun w' => w'.cell? ⟨w.heap.size, 3, none⟩ = some (.slice (some ⟨g6, o6, none⟩) m.fin.length c2) ∧ w'.cell? ⟨cb, 0, none⟩ = some (.pointer (some ⟨pb, 0, none⟩)) ∧ w'.cell? ⟨g6, o6 + sk, none⟩ = some (.bool bo) ∧ w'.cell? ⟨eb, k, none⟩ = some (held w' ⟨eb, k, none⟩) ∧ w'.frozen? ⟨eb, k, none⟩ = false ∧ Lq wr w' eb k)
            (first | exact HLX.out _ l0 | exact HLX.out _ (l0.call (Frm.refl _ _).drew) | exact HLX.out _ (by assumption) | exact HLX.out _ (Lq.put (by assumption) _))
            (first | (go_at_call 46; obtain ⟨-, -, -, -, -, hLx⟩ := ‹_ ∧ _ ∧ _ ∧ _ ∧ _ ∧ Lq wr _ eb k›; refine (HONE.out _ hLx.1).mono ?_; rintro e w7 ⟨rfl, f7⟩; have hL7 := hLx.call f7))
          have HE7 : Hid (Blk (w7.setCell ⟨eb, k, none⟩ (.bool bo)) eb 4 (boolCs (A.endsTo m d ts (k + 1)))) := show Blk _ _ _ _ by
            have h7 : Blk w7 eb 4 (boolCs (A.endsTo m d ts k)) := Frm.blk f7 HE.out.drew id
            have := h7.set_ k (.bool bo)
            rw [boolCs_set, HSET.out] at this
            exact this
          have HF7 : Hid (Frm (fun b => b = eb) w5 (w7.setCell ⟨eb, k, none⟩ (.bool bo))) := (HF.out.trans (f7.mono fun _ _ h => h.elim)).set_ (p := ⟨eb, k, none⟩) (fun _ => rfl) _
          have hkb : (k : Int) + 1 ≤ 1000001 := by have := HTL.out; omega
          clear l0 hLx hL7 f7 HLX x3' k5 l6' l8
          clear ‹_ ∧ _ ∧ _ ∧ _ ∧ _ ∧ Lq wr _ eb k›
          go_wp2_with fail
          go_roundg (ts.length + 1 - (k + 1))
          case measure => omega
          case rel => exact ⟨k + 1, by omega, rfl, (by have := HTL.out; go_num), HE7, HF7⟩
        · have hkk : k = ts.length := by omega
          subst hkk
          have hlt' : ¬ (ts.length : Int) < (ts.length : Int) := by omega
          have hbx : w.heap.size ≠ eb := by have := HEB.out; have := HS5.out; omega
          have hrx : w.heap.size + 1 ≠ eb := by have := HEB.out; have := HS5.out; omega
          have x0 := HF.out.cell hbx (HB5.out.cell 0)
          have x0' : wr.cell? ⟨w.heap.size, 0, none⟩ = some (.int .i64 m.letters) := x0
          have HRX := Lib.hid (HF.out.blk HR5.out hrx)
          have r0 := HRX.out.cell 0
          have r1 := HRX.out.cell 1
          have r2 := HRX.out.cell 2
          have r3 := HRX.out.cell 3
          have q0 := HRX.out.frozen 0
          have q1 := HRX.out.frozen 1
          have q2 := HRX.out.frozen 2
          have q3 := HRX.out.frozen 3
          have HEE : Hid (Blk wr eb 4 (boolCs (ts.map (A.endOf m d)))) := show Blk _ _ _ _ by rw [← A.endsTo_all]; exact HE.out
          obtain ⟨AR, cR, rfl, hRR⟩ := HRO5.out
          have HRR := Lib.hid hRR
          clear x0 hlt hk HE hRR
          go_wp2_with fail
          have h4 := put4_blk (l := .int .i64 m.letters) (s := .int .i64 0) (n := .slice AR rows.length cR) (e := .slice (some ⟨eb, 0, none⟩) ts.length ts.length) HRX.out
          have h5 := put4_frm1 (w := wr) (b := w.heap.size + 1) (l := .int .i64 m.letters) (s := .int .i64 0) (n := .slice AR rows.length cR) (e := .slice (some ⟨eb, 0, none⟩) ts.length ts.length)
          refine bodyPost_ret (w := put4 wr (w.heap.size + 1) (.int .i64 m.letters) (.int .i64 0) (.slice AR rows.length cR) (.slice (some ⟨eb, 0, none⟩) ts.length ts.length)) (v := .agg #[.int .i64 m.letters, .int .i64 0, .slice AR rows.length cR, .slice (some ⟨eb, 0, none⟩) ts.length ts.length]) ?_ rfl ⟨_, rfl, ⟨_, _, rfl, ?_, ?_⟩, ?_⟩
          · generalize put4 wr (w.heap.size + 1) (.int .i64 m.letters) (.int .i64 0) (.slice AR rows.length cR) (.slice (some ⟨eb, 0, none⟩) ts.length ts.length) = w4 at *
            have y0 := h4.cell 0
            have y1 := h4.cell 1
            have y2 := h4.cell 2
            have y3 := h4.cell 3
            simp [results, Try.results21, go_sem, y0, y1, y2, y3]
          · have hk := (HRO5.out.keep HF.out fun b hb e => by have := HEB.out; omega).keep h5 fun b hb e => by have := HS4.out; omega
            obtain ⟨A9, c9, e9, h9⟩ := hk
            refine ⟨A9, c9, e9, fun k hk => ?_⟩
            obtain ⟨g, o, rv, a1, a2, a3, A8, c8, e8, h8⟩ := h9 k hk
            refine ⟨g, o, rv, a1, (by have := a2.1; have := HS4.out; omega), a3, A8, c8, e8, fun j hj => ?_⟩
            obtain ⟨g', o', b1, b2, b3⟩ := h8 j hj
            exact ⟨g', o', b1, (by have := b2.1; have := HS4.out; omega), b3⟩
          · have hb := h5.blk HEE.out (Ne.symm hrx)
            refine ⟨some ⟨eb, 0, none⟩, ts.length, by simp, fun k hk => ⟨eb, 0, rfl, (by have := HEB.out; have := HS5.out; omega), ?_⟩⟩
            rw [Nat.zero_add, hb.cell k, boolCs_getD hk]
            have hk2 : k < (ts.map (A.endOf m d)).length := hk
            congr 2
            show (ts.map (A.endOf m d)).getD k false = (ts.map (A.endOf m d))[k]
            generalize ts.map (A.endOf m d) = l at *
            simp [hk2]
          · have := (HF5.out.mono (E' := fun b => b = eb) fun _ _ h => h.elim).trans HF.out
            refine put4_frm (this.mono fun b hb e => ?_) (by omega)
            have := HEB.out
            have := HS5.out
            omega
end Go.Proofs.Ytmoniecknimmdaa
end
section
namespace Go.Proofs.Ytmoniecknimmdaa.A
theorem addAr_length (s : Int) : ∀ (row : List Int) (k : Int) (acc : List (List Ar)), (addAr s k row acc).length = acc.length
  | [], _, _ => rfl
  | x :: r, k, acc => by
    rw [addAr, addAr_length s r]
    split <;> simp
theorem addRows_length : ∀ (rows : List (List Int)) (s : Int) (acc : List (List Ar)), (addRows s rows acc).length = acc.length
  | [], _, _ => rfl
  | row :: r, s, acc => by rw [addRows, addRows_length r, addAr_length]
theorem addAr_mem (s : Int) (q : Nat) (a : Ar) : ∀ (row : List Int) (k : Int) (acc : List (List Ar)), q < acc.length → (∀ x ∈ row, -1 ≤ x ∧ x < acc.length) →
    (a ∈ (addAr s k row acc).getD q [] ↔ a ∈ acc.getD q [] ∨ ∃ j : Nat, j < row.length ∧ row.getD j 0 = q ∧ a = (s, k + j))
  | [], k, acc, hq, h => by simp [addAr]
  | x :: r, k, acc, hq, h => by
    have hx := h x (.head _)
    have hr : ∀ y ∈ r, -1 ≤ y ∧ y < acc.length := fun y hy => h y (.tail _ hy)
    rw [addAr]
    have tailEq : (∃ j : Nat, j < (x :: r).length ∧ (x :: r).getD j 0 = q ∧ a = (s, k + j)) ↔ ((x = q ∧ a = (s, k)) ∨ ∃ j : Nat, j < r.length ∧ r.getD j 0 = q ∧ a = (s, k + 1 + j)) := by
      constructor
      · rintro ⟨j, h1, h2, h3⟩
        cases j with
        | zero => exact .inl ⟨by simpa using h2, by simpa using h3⟩
        | succ j => exact .inr ⟨j, by simpa using h1, by simpa using h2, by rw [h3]; congr 1; omega⟩
      · rintro (⟨h1, h2⟩ | ⟨j, h1, h2, h3⟩)
        · exact ⟨0, by simp, by simpa using h1, by simpa using h2⟩
        · exact ⟨j + 1, by simpa using h1, by simpa using h2, by rw [h3]; congr 1; omega⟩
    rw [tailEq]
    split
    · rename_i e
      rw [addAr_mem s q a r (k + 1) acc hq hr]
      constructor
      · rintro (h1 | h1)
        · exact .inl h1
        · exact .inr (.inr h1)
      · rintro (h1 | ⟨h1, _⟩ | h1)
        · exact .inl h1
        · omega
        · exact .inr h1
    · rename_i e
      have hxn : x.toNat < acc.length := by omega
      rw [addAr_mem s q a r (k + 1) _ (by simpa using hq) (by simpa using hr)]
      have hset : a ∈ (acc.set x.toNat (acc.getD x.toNat [] ++ [(s, k)])).getD q [] ↔ a ∈ acc.getD q [] ∨ (x = q ∧ a = (s, k)) := by
        by_cases hxq : x = q
        · subst_vars
          simp [hq]
        · have : x.toNat ≠ q := by omega
          simp [this, hxq]
      rw [hset, or_assoc]
theorem addRows_mem (q : Nat) (a : Ar) : ∀ (rows : List (List Int)) (s : Int) (acc : List (List Ar)), q < acc.length → (∀ row ∈ rows, ∀ x ∈ row, -1 ≤ x ∧ x < acc.length) →
    (a ∈ (addRows s rows acc).getD q [] ↔ a ∈ acc.getD q [] ∨ ∃ i j : Nat, i < rows.length ∧ j < (rows.getD i []).length ∧ (rows.getD i []).getD j 0 = q ∧ a = (s + i, (j : Int)))
  | [], s, acc, hq, h => by simp [addRows]
  | row :: r, s, acc, hq, h => by
    rw [addRows, addRows_mem q a r (s + 1) _ (by rw [addAr_length]; exact hq) (by rw [addAr_length]; exact fun y hy => h y (.tail _ hy)), addAr_mem s q a row 0 acc hq (h row (.head _)), or_assoc]
    apply or_congr Iff.rfl
    constructor
    · rintro (⟨j, h1, h2, h3⟩ | ⟨i, j, h0, h1, h2, h3⟩)
      · exact ⟨0, j, by simp, by simpa using h1, by simpa using h2, by rw [h3]; simp⟩
      · exact ⟨i + 1, j, by simpa using h0, by simpa using h1, by simpa using h2, by rw [h3]; congr 1; omega⟩
    · rintro ⟨i, j, h0, h1, h2, h3⟩
      cases i with
      | zero => exact .inl ⟨j, by simpa using h1, by simpa using h2, by rw [h3]; simp⟩
      | succ i => exact .inr ⟨i, j, by simpa using h0, by simpa using h1, by simpa using h2, by rw [h3]; congr 1; omega⟩
theorem arrive_length (m : Mac) : (arrive m).length = m.next.length := by simp [arrive, addRows_length]
/-- The ways into a state: the states and letters that lead to it. -/
theorem arrive_mem {m : Mac} (hf : Fits m) {q : Nat} (hq : q < m.next.length) (a : Ar) : a ∈ (arrive m).getD q [] ↔ ((0 ≤ a.1 ∧ a.1 < m.next.length) ∧ (0 ≤ a.2 ∧ a.2 < m.letters)) ∧ lead m a.1 a.2 = q := by
  unfold arrive
  rw [addRows_mem q a _ 0 _ (by simpa using hq) (by
    intro row hr x hx
    have := (hf.rows row hr).2 x hx
    simpa [In] using this)]
  have e0 : (List.replicate m.next.length ([] : List Ar)).getD q [] = [] := by simp [hq]
  rw [e0]
  constructor
  · rintro (h | ⟨i, j, h0, h1, h2, h3⟩)
    · cases h
    · have hm : m.next.getD i [] ∈ m.next := by
        rw [show m.next.getD i [] = m.next[i] by simp [h0]]
        exact List.getElem_mem h0
      have hl := (hf.rows _ hm).1
      subst h3
      refine ⟨⟨⟨by simp, by simpa using h0⟩, by simp, by simp; omega⟩, ?_⟩
      rw [← h2]
      unfold lead
      rw [if_neg (by simp)]
      simp
  · rintro ⟨⟨⟨h1, h2⟩, h3, h4⟩, h5⟩
    right
    obtain ⟨s, k⟩ := a
    have h0 : s.toNat < m.next.length := by simp at h1 h2; omega
    have hm : m.next.getD s.toNat [] ∈ m.next := by
      rw [show m.next.getD s.toNat [] = m.next[s.toNat] by simp [h0]]
      exact List.getElem_mem h0
    have hl := (hf.rows _ hm).1
    refine ⟨s.toNat, k.toNat, h0, by simp at h3 h4; omega, ?_, ?_⟩
    · have h5' := h5
      unfold lead at h5'
      rw [if_neg (by simp at h1 ⊢; omega)] at h5'
      exact h5'
    · simp at h1 h3 ⊢
      constructor <;> omega
theorem addAr_short (s : Int) (q : Nat) : ∀ (row : List Int) (k : Int) (acc : List (List Ar)), ((addAr s k row acc).getD q []).length ≤ (acc.getD q []).length + row.length
  | [], k, acc => by simp [addAr]
  | x :: r, k, acc => by
    rw [addAr]
    refine Nat.le_trans (addAr_short s q r (k + 1) _) ?_
    rw [List.length_cons]
    split
    · omega
    · by_cases h : x.toNat = q ∧ x.toNat < acc.length
      · obtain ⟨h1, h2⟩ := h
        subst h1
        simp [h2]; omega
      · have : (acc.set x.toNat (acc.getD x.toNat [] ++ [(s, k)])).getD q [] = acc.getD q [] := by
          simp only [List.getD_eq_getElem?_getD, List.getElem?_set]
          split
          · rename_i e
            have : ¬ x.toNat < acc.length := fun h2 => h ⟨e, h2⟩
            subst e
            simp [this]
          · rfl
        rw [this]; omega
theorem addRows_short (q l : Nat) : ∀ (rows : List (List Int)) (s : Int) (acc : List (List Ar)), (∀ row ∈ rows, row.length ≤ l) → ((addRows s rows acc).getD q []).length ≤ (acc.getD q []).length + rows.length * l
  | [], s, acc, _ => by simp [addRows]
  | row :: r, s, acc, h => by
    rw [addRows]
    refine Nat.le_trans (addRows_short q l r (s + 1) _ fun y hy => h y (.tail _ hy)) ?_
    have h1 := addAr_short s q row 0 acc
    have h2 := h row (.head _)
    rw [List.length_cons, Nat.succ_mul]
    omega
theorem waysOk_all {m : Mac} (hf : Fits m) (hn : m.next.length ≤ 100000) (hl : m.letters ≤ 300) : waysOk m = true := by
  unfold waysOk
  simp only [Bool.and_eq_true, decide_eq_true_eq, List.all_eq_true]
  refine ⟨arrive_length m, fun l hl' => ?_⟩
  obtain ⟨q, hq, e⟩ := List.getElem_of_mem hl'
  have hq' : q < m.next.length := by rw [← arrive_length m]; exact hq
  have e1 : (arrive m).getD q [] = l := by simp [hq, e]
  refine ⟨?_, fun a ha => ?_⟩
  · rw [← e1]
    refine Nat.le_trans (addRows_short q 300 m.next 0 _ fun row hr => ?_) ?_
    · have := (hf.rows row hr).1; omega
    · simp [hq']
      omega
  · rw [← e1] at ha
    exact ((arrive_mem hf hq' a).1 ha).1.1
end Go.Proofs.Ytmoniecknimmdaa.A
end
section
namespace Go.Proofs.Ytmoniecknimmdaa.A
/-- The pairs are a relation that shows it. -/
structure Shown (a b : Mac) (l : List Pr) : Prop where
  two : Two a b
  va : valid a = 0
  vb : valid b = 0
  st : among l (a.start, b.start) = true
  ag : ∀ p, among l p = true → agree a b p = true
  ld : ∀ p, among l p = true → ∀ k : Int, 0 ≤ k → k < a.letters → among l (leadP a b p k) = true
  inn : ∀ p, among l p = true → InP a b p
theorem among_iff {l : List Pr} {p : Pr} : among l p = true ↔ p = (-1, -1) ∨ p ∈ l := by simp [among]
theorem Shown.of {a b : Mac} {l : List Pr} (h : check a b l = 0) : Shown a b l := by
  unfold check at h
  split at h
  · rename_i hf
    split at h
    · rename_i hr
      split at h
      · rename_i hs
        have hv : valid a = 0 ∧ valid b = 0 := by
          unfold fit at hf
          split at hf
          · assumption
          · cases hf
        unfold shows at hs
        rw [Bool.and_eq_true, List.all_eq_true] at hs
        obtain ⟨h1, h2⟩ := hs
        refine ⟨fit_two hf, hv.1, hv.2, h1, fun p hp => ?_, fun p hp k h0 hk => ?_, fun p hp => ?_⟩
        · rcases among_iff.1 hp with rfl | hp
          · rfl
          · have := h2 p hp
            rw [Bool.and_eq_true] at this
            exact this.1
        · rcases among_iff.1 hp with rfl | hp
          · exact among_iff.2 (.inl rfl)
          · have := h2 p hp
            rw [Bool.and_eq_true, List.all_eq_true] at this
            have := this.2 k.toNat (List.mem_range.2 (by omega))
            rwa [Int.toNat_of_nonneg h0] at this
        · rcases among_iff.1 hp with rfl | hp
          · exact ⟨⟨by decide, by dsimp only; omega⟩, by decide, by dsimp only; omega⟩
          · exact relFrom_in hr p hp
      · cases h
    · cases h
  · rename_i hf
    exact absurd h hf
theorem Shown.word {a b : Mac} {l : List Pr} (h : Shown a b l) : ∀ (w : List Int) (p : Pr), among l p = true → (match from_ a p.1 w with | none => false | some s => ends a s) = (match from_ b p.2 w with | none => false | some s => ends b s)
  | [], p, hp => by
    have := h.ag p hp
    simp only [agree, beq_iff_eq] at this
    exact this
  | k :: w, p, hp => by
    unfold from_
    rw [← h.two.ll]
    by_cases hk : 0 ≤ k ∧ k < a.letters
    · rw [if_pos hk, if_pos hk]
      exact h.word w (leadP a b p k) (h.ld p hp k hk.1 hk.2)
    · rw [if_neg hk, if_neg hk]
theorem Shown.accepts {a b : Mac} {l : List Pr} (h : Shown a b l) (w : List Int) : accepts a w = accepts b w := by
  unfold A.accepts
  rw [if_pos h.va, if_pos h.vb]
  exact h.word w (a.start, b.start) h.st
/-! ### The states that are joined -/
def roots (l : List Int) : Nat := (List.range l.length).countP fun i => decide (l.getD i 0 = (i : Int))
/-- J joins were made; r grows along the row. -/
structure Uf (l : List Int) (J : Nat) (r : Nat → Nat) : Prop where
  inn : ∀ i < l.length, 0 ≤ l.getD i 0 ∧ l.getD i 0 < l.length ∧ (l.getD i 0 ≠ i → r i < r (l.getD i 0).toNat)
  le : ∀ i, r i ≤ J
  sum : roots l + J = l.length
theorem getD_setI {l : List Int} {i j : Nat} {v d : Int} (h : i < l.length) : (l.set i v).getD j d = if i = j then v else l.getD j d := by
  simp only [List.getD_eq_getElem?_getD, List.getElem?_set, h, if_true]
  split <;> simp
theorem roots_congr {l l' : List Int} (hl : l'.length = l.length) (h : ∀ i < l.length, (l'.getD i 0 = (i : Int) ↔ l.getD i 0 = (i : Int))) : roots l' = roots l := by
  unfold roots
  rw [hl]
  apply List.countP_congr
  intro i hi
  simp only [decide_eq_true_eq]
  exact h i (List.mem_range.1 hi)
theorem Uf.short {l : List Int} {J : Nat} {r : Nat → Nat} (h : Uf l J r) {m : Nat} (hm : m < l.length) (hne : l.getD m 0 ≠ m) : Uf (l.set m (l.getD (l.getD m 0).toNat 0)) J r ∧ (∀ i, i < l.length → ((l.set m (l.getD (l.getD m 0).toNat 0)).getD i 0 = (i : Int) ↔ l.getD i 0 = (i : Int))) ∧ r m < r (l.getD (l.getD m 0).toNat 0).toNat ∧ 0 ≤ l.getD (l.getD m 0).toNat 0 ∧ l.getD (l.getD m 0).toNat 0 < l.length := by
  obtain ⟨h1, h2, h3⟩ := h.inn m hm
  have h3 := h3 hne
  obtain ⟨p, hp⟩ : ∃ p : Nat, l.getD m 0 = p := ⟨(l.getD m 0).toNat, by omega⟩
  rw [hp] at h2 h3 hne ⊢
  rw [Int.toNat_natCast] at h3 ⊢
  obtain ⟨h4, h5, h6⟩ := h.inn p (by omega)
  obtain ⟨g, hg⟩ : ∃ g : Nat, l.getD p 0 = g := ⟨(l.getD p 0).toNat, by omega⟩
  rw [hg] at h4 h5 h6 ⊢
  rw [Int.toNat_natCast] at h6 ⊢
  have h7 : r m < r g := by
    by_cases e : (g : Int) = p
    · have : g = p := by omega
      rw [this]; exact h3
    · exact Nat.lt_trans h3 (h6 e)
  have h8 : (g : Int) ≠ m := fun e => by
    have : g = m := by omega
    rw [this] at h7
    omega
  have hroot : ∀ i, i < l.length → ((l.set m (g : Int)).getD i 0 = (i : Int) ↔ l.getD i 0 = (i : Int)) := fun i hi => by
    rw [getD_setI hm]
    by_cases e : m = i
    · subst e
      rw [if_pos rfl, hp]
      exact ⟨fun h => absurd h h8, fun h => absurd h hne⟩
    · rw [if_neg e]
  refine ⟨⟨fun i hi => ?_, h.le, ?_⟩, hroot, h7, h4, h5⟩
  · rw [List.length_set] at hi ⊢
    rw [getD_setI hm]
    by_cases e : m = i
    · subst e
      rw [if_pos rfl]
      exact ⟨h4, h5, fun _ => by rw [Int.toNat_natCast]; exact h7⟩
    · rw [if_neg e]
      exact h.inn i hi
  · rw [List.length_set, roots_congr (by simp) hroot]
    exact h.sum
theorem endO_some {J : Nat} {r : Nat → Nat} : ∀ (f : Nat) (l : List Int) (m : Nat), Uf l J r → m < l.length → J < f + r m → ∃ (l' : List Int) (x : Nat), endO f l m = some (l', (x : Int)) ∧ Uf l' J r ∧ l'.length = l.length ∧ x < l.length ∧ l.getD x 0 = x ∧ ∀ i, i < l.length → (l'.getD i 0 = (i : Int) ↔ l.getD i 0 = (i : Int))
  | 0, l, m, h, hm, hf => by have := h.le m; omega
  | f + 1, l, m, h, hm, hf => by
    unfold endO
    rw [if_pos ⟨by omega, by omega⟩, Int.toNat_natCast]
    by_cases e : l.getD m 0 = m
    · rw [if_pos e]
      exact ⟨l, m, rfl, h, rfl, hm, e, fun _ _ => Iff.rfl⟩
    · rw [if_neg e]
      obtain ⟨h1, h2, _⟩ := h.inn m hm
      rw [if_pos ⟨h1, h2⟩]
      obtain ⟨h3, h4, h5, h6, h7⟩ := h.short hm e
      obtain ⟨g, hg⟩ : ∃ g : Nat, l.getD (l.getD m 0).toNat 0 = g := ⟨(l.getD (l.getD m 0).toNat 0).toNat, by omega⟩
      rw [hg] at h3 h4 h5 h7 ⊢
      rw [Int.toNat_natCast] at h5
      obtain ⟨l', x, e1, e2, e3, e4, e5, e6⟩ := endO_some f _ g h3 (by rw [List.length_set]; omega) (by omega)
      rw [List.length_set] at e3 e4 e6
      refine ⟨l', x, e1, e2, e3, e4, (h4 x e4).1 e5, fun i hi => (e6 i hi).trans (h4 i hi)⟩
theorem countP_less {p q : Nat → Bool} {x : Nat} (hp : p x = true) (hq : q x = false) (h : ∀ i, i ≠ x → p i = q i) : ∀ n, x < n → (List.range n).countP p = (List.range n).countP q + 1
  | 0, hn => absurd hn (by omega)
  | n + 1, hn => by
    rw [List.range_succ, List.countP_append, List.countP_append]
    by_cases e : n = x
    · subst e
      have : (List.range n).countP p = (List.range n).countP q := List.countP_congr fun i hi => by rw [h i (by have := List.mem_range.1 hi; omega)]
      simp [this, hp, hq]
    · have := countP_less hp hq h n (by omega)
      have h1 := h n e
      simp only [List.countP_cons, List.countP_nil, h1]
      omega
theorem joinO_some {a b : Mac} {l : List Int} {J f : Nat} {r : Nat → Nat} {p : Pr} (h : Uf l J r) (hl : l.length = 1 + a.next.length + b.next.length) (hp : InP a b p) (hf : J < f) :
    ∃ l' y, joinO f a.next.length l p = some (l', y) ∧ l'.length = l.length ∧ ∃ J' r', Uf l' J' r' ∧ J' = (if y then J + 1 else J) := by
  obtain ⟨⟨p1, p2⟩, p3, p4⟩ := hp
  unfold joinO
  obtain ⟨m, hm⟩ : ∃ m : Nat, 1 + p.1 = m := ⟨(1 + p.1).toNat, by omega⟩
  obtain ⟨m', hm'⟩ : ∃ m : Nat, other a.next.length p = m := ⟨(other a.next.length p).toNat, by unfold other; split <;> omega⟩
  have hb : m' < l.length := by
    have : other a.next.length p < (l.length : Int) := by unfold other; split <;> omega
    omega
  rw [hm, hm']
  obtain ⟨l1, x, e1, e2, e3, e4, e5, e6⟩ := endO_some f l m h (by omega) (by omega)
  obtain ⟨l2, y, d1, d2, d3, d4, d5, d6⟩ := endO_some f l1 m' e2 (by omega) (by omega)
  rw [e1]
  dsimp only
  rw [d1]
  dsimp only
  rw [Int.toNat_natCast]
  refine ⟨_, _, rfl, by rw [List.length_set, d3, e3], ?_⟩
  have hx : x < l2.length := by omega
  have hx2 : l2.getD x 0 = x := (d6 x (by omega)).2 ((e6 x e4).2 e5)
  have hy2 : l2.getD y 0 = y := (d6 y (by omega)).2 d5
  by_cases e : x = y
  · subst e
    refine ⟨J, r, ?_, by simp⟩
    have hset : ∀ i, (l2.set x (x : Int)).getD i 0 = l2.getD i 0 := fun i => by
      rw [getD_setI hx]
      by_cases e : x = i
      · rw [if_pos e, ← e, hx2]
      · rw [if_neg e]
    refine ⟨fun i hi => ?_, d2.le, ?_⟩
    · rw [List.length_set] at hi ⊢
      rw [hset]
      exact d2.inn i hi
    · rw [List.length_set, roots_congr (l := l2) (by simp) (fun i _ => by rw [hset])]
      exact d2.sum
  · have hne : (x : Int) ≠ y := by omega
    refine ⟨J + 1, fun i => if i = y then J + 1 else r i, ?_, by simp [hne]⟩
    refine ⟨fun i hi => ?_, fun i => ?_, ?_⟩
    · rw [List.length_set] at hi ⊢
      rw [getD_setI hx]
      by_cases e' : x = i
      · subst e'
        rw [if_pos rfl]
        refine ⟨by omega, by omega, fun _ => ?_⟩
        rw [Int.toNat_natCast, if_neg e, if_pos rfl]
        have := d2.le x
        omega
      · rw [if_neg e']
        obtain ⟨c1, c2, c3⟩ := d2.inn i hi
        refine ⟨c1, c2, fun hn => ?_⟩
        have c3 := c3 hn
        have hiy : i ≠ y := fun e'' => by subst e''; exact hn hy2
        rw [if_neg hiy]
        split
        · have := d2.le i; omega
        · exact c3
    · split
      · omega
      · have := d2.le i; omega
    · rw [List.length_set]
      have hs := d2.sum
      have hc : roots l2 = roots (l2.set x (y : Int)) + 1 := by
        unfold roots
        rw [List.length_set]
        refine countP_less (x := x) ?_ ?_ (fun i hi => ?_) _ hx
        · simpa using hx2
        · rw [getD_setI hx, if_pos rfl]
          simpa using fun h => hne h.symm
        · rw [getD_setI hx, if_neg (Ne.symm hi)]
      omega
theorem innerO_some {a b : Mac} {l : List Pr} (h : Shown a b l) {f : Nat} {at_ : Int} {p : Pr} (hp : among l p = true) : ∀ (ks : List Nat) (j : List Int) (ts : List Tr) (J : Nat) (r : Nat → Nat), (∀ k ∈ ks, (k : Int) < a.letters) → Uf j J r → j.length = 1 + a.next.length + b.next.length → j.length < f → (∀ t ∈ ts, among l t.p = true) →
    ∃ j' ts' J' r', innerO f a b at_ p ks j ts = some (j', ts', none) ∧ Uf j' J' r' ∧ j'.length = j.length ∧ (∀ t ∈ ts', among l t.p = true) ∧ ts'.length + J = ts.length + J'
  | [], j, ts, J, r, hk, hu, hl, hf, ht => ⟨j, ts, J, r, rfl, hu, rfl, ht, rfl⟩
  | k :: ks, j, ts, J, r, hk, hu, hl, hf, ht => by
    have hkk := hk k List.mem_cons_self
    have hq := h.ld p hp k (by omega) hkk
    obtain ⟨j1, y, e1, e2, J1, r1, e3, e4⟩ := joinO_some (f := f) hu hl (h.inn _ hq) (by have := hu.sum; omega)
    unfold innerO
    rw [e1]
    rcases y with _ | _
    · dsimp only
      obtain ⟨j', ts', J', r', d1, d2, d3, d4, d5⟩ := innerO_some h (f := f) (at_ := at_) hp ks j1 ts J1 r1 (fun k hk' => hk k (List.mem_cons_of_mem _ hk')) e3 (by omega) (by omega) ht
      exact ⟨j', ts', J', r', d1, d2, by omega, d4, by simp at e4; omega⟩
    · dsimp only
      rw [if_pos (h.ag _ hq)]
      obtain ⟨j', ts', J', r', d1, d2, d3, d4, d5⟩ := innerO_some h (f := f) (at_ := at_) hp ks j1 (ts ++ [⟨leadP a b p k, at_, k⟩]) J1 r1 (fun k hk' => hk k (List.mem_cons_of_mem _ hk')) e3 (by omega) (by omega) (fun t ht' => by
        rcases List.mem_append.1 ht' with h' | h'
        · exact ht t h'
        · rw [List.mem_singleton.1 h']; exact hq)
      refine ⟨j', ts', J', r', d1, d2, by omega, d4, ?_⟩
      simp at e4 d5
      omega
theorem outerO_none {a b : Mac} {l : List Pr} (h : Shown a b l) {f : Nat} : ∀ (fuel at_ : Nat) (j : List Int) (ts : List Tr) (J : Nat) (r : Nat → Nat), Uf j J r → j.length = 1 + a.next.length + b.next.length → j.length < f → (∀ t ∈ ts, among l t.p = true) → ts.length ≤ J + 1 → j.length + 1 ≤ fuel + at_ → outerO f a b fuel at_ j ts = some none
  | 0, at_, j, ts, J, r, hu, hl, hf, ht, hJ, hg => by
    have := hu.sum
    unfold outerO
    rw [dif_neg (by omega)]
  | fuel + 1, at_, j, ts, J, r, hu, hl, hf, ht, hJ, hg => by
    unfold outerO
    split
    · rename_i hat
      dsimp only
      obtain ⟨j', ts', J', r', e1, e2, e3, e4, e5⟩ := innerO_some h (f := f) (at_ := at_) (ht _ (List.getElem_mem hat)) (List.range a.letters.toNat) j ts J r (fun k hk => by have := List.mem_range.1 hk; omega) hu hl hf ht
      rw [e1]
      exact outerO_none h fuel (at_ + 1) j' ts' J' r' e2 (by omega) (by omega) e4 (by omega) (by omega)
    · rfl
theorem upTo_get {n i : Nat} (hi : i < n) : (upTo n n).getD i 0 = i := by
  simp [upTo, hi]
theorem uf0 (n : Nat) : Uf (upTo n n) 0 fun _ => 0 := by
  have hl : (upTo n n).length = n := by simp [upTo]
  refine ⟨fun i hi => ?_, fun _ => Nat.le_refl _, ?_⟩
  · rw [hl] at hi ⊢
    rw [upTo_get hi]
    exact ⟨by omega, by omega, fun h => absurd rfl h⟩
  · unfold roots
    rw [hl]
    have : (List.range n).countP (fun i => decide ((upTo n n).getD i 0 = (i : Int))) = (List.range n).length := List.countP_eq_length.2 fun i hi => by simpa using upTo_get (List.mem_range.1 hi)
    rw [this]
    simp
theorem Shown.diff {a b : Mac} {l : List Pr} (h : Shown a b l) {f : Nat} (hf : 3 + a.next.length + b.next.length ≤ f) : diffO f a b = some none := by
  unfold diffO
  rw [if_pos (h.ag _ h.st)]
  have hl : (upTo (1 + a.next.length + b.next.length) (1 + a.next.length + b.next.length)).length = 1 + a.next.length + b.next.length := by simp [upTo]
  obtain ⟨j, y, e1, e2, J, r, e3, e4⟩ := joinO_some (f := f) (uf0 _) hl (h.inn _ h.st) (by omega)
  rw [e1]
  dsimp only
  rw [outerO_none h f 0 j _ J r e3 (by omega) (by omega) (fun t ht => by rw [List.mem_singleton.1 ht]; exact h.st) (by simp) (by omega)]
end Go.Proofs.Ytmoniecknimmdaa.A
namespace Go.Proofs.Ytmoniecknimmdaa.A
theorem Shown.fit {a b : Mac} {l : List Pr} (h : Shown a b l) : fit a b = 0 := by
  unfold A.fit
  rw [if_pos ⟨h.va, h.vb⟩, if_pos h.two.ll]
end Go.Proofs.Ytmoniecknimmdaa.A
end
section
namespace Go.Proofs.Ytmoniecknimmdaa.A
/-- Where a number leads in the row. -/
inductive Rt (l : List Int) : Nat → Nat → Prop
  | root {x : Nat} (h : l.getD x 0 = (x : Int)) : Rt l x x
  | step {x y r : Nat} (h : l.getD x 0 = (y : Int)) (hne : y ≠ x) (hr : Rt l y r) : Rt l x r
theorem Rt.fun_ {l : List Int} {x r r' : Nat} (h : Rt l x r) (h' : Rt l x r') : r = r' := by
  induction h with
  | root h =>
    cases h' with
    | root => rfl
    | step h1 hne _ => rw [h] at h1; omega
  | step h hne _ ih =>
    cases h' with
    | root h1 => rw [h] at h1; omega
    | step h1 _ hr =>
      rw [h] at h1
      have : _ = _ := Int.ofNat.inj h1
      subst this
      exact ih hr
theorem Rt.end_ {l : List Int} {x r : Nat} (h : Rt l x r) : l.getD r 0 = (r : Int) := by
  induction h with
  | root h => exact h
  | step _ _ _ ih => exact ih
theorem Uf.rt {l : List Int} {J : Nat} {r : Nat → Nat} (h : Uf l J r) : ∀ (n m : Nat), m < l.length → J < n + r m → ∃ x, x < l.length ∧ Rt l m x
  | 0, m, hm, hf => by have := h.le m; omega
  | n + 1, m, hm, hf => by
    obtain ⟨h1, h2, h3⟩ := h.inn m hm
    obtain ⟨y, hy⟩ : ∃ y : Nat, l.getD m 0 = y := ⟨(l.getD m 0).toNat, by omega⟩
    by_cases e : y = m
    · subst e
      exact ⟨y, hm, .root hy⟩
    · have h4 := h3 (by omega)
      rw [hy, Int.toNat_natCast] at h4
      obtain ⟨x, hx, hr⟩ := h.rt n y (by omega) (by omega)
      exact ⟨x, hx, .step hy e hr⟩
theorem Uf.rt_ex {l : List Int} {J : Nat} {r : Nat → Nat} (h : Uf l J r) {m : Nat} (hm : m < l.length) : ∃ x, x < l.length ∧ Rt l m x := h.rt (J + 1) m hm (by omega)
/-- A row that is shortened leads to the same ends. -/
theorem short_rt {l : List Int} {m p g : Nat} (hm : m < l.length) (h1 : l.getD m 0 = (p : Int)) (h2 : l.getD p 0 = (g : Int)) (hne : p ≠ m) (hgm : g ≠ m) {x r : Nat} (h : Rt l x r) : Rt (l.set m (g : Int)) x r := by
  induction h with
  | @root x h =>
    by_cases e : m = x
    · subst e; rw [h1] at h; omega
    · exact .root (by rw [getD_setI hm, if_neg e]; exact h)
  | @step x y r h hn hr ih =>
    by_cases e : m = x
    · subst e
      rw [h1] at h
      have : p = y := Int.ofNat.inj h
      subst this
      -- ih : Rt l' p r
      refine .step (y := g) (by rw [getD_setI hm, if_pos rfl]) hgm ?_
      by_cases e2 : g = p
      · subst e2; exact ih
      · cases ih with
        | root h3 =>
          rw [getD_setI hm, if_neg (Ne.symm hne), h2] at h3
          omega
        | step h3 _ h4 =>
          rw [getD_setI hm, if_neg (Ne.symm hne), h2] at h3
          have : g = _ := Int.ofNat.inj h3
          subst this
          exact h4
    · exact .step (by rw [getD_setI hm, if_neg e]; exact h) hn ih
/-- The end that endO finds, and that it changes no end. -/
theorem endO_rt {J : Nat} {r : Nat → Nat} : ∀ (f : Nat) (l : List Int) (m : Nat), Uf l J r → m < l.length → J < f + r m → ∃ (l' : List Int) (x : Nat), endO f l m = some (l', (x : Int)) ∧ Uf l' J r ∧ l'.length = l.length ∧ x < l.length ∧ Rt l m x ∧ ∀ y z, Rt l y z → Rt l' y z
  | 0, l, m, h, hm, hf => by have := h.le m; omega
  | f + 1, l, m, h, hm, hf => by
    unfold endO
    rw [if_pos ⟨by omega, by omega⟩, Int.toNat_natCast]
    by_cases e : l.getD m 0 = m
    · rw [if_pos e]
      exact ⟨l, m, rfl, h, rfl, hm, .root e, fun _ _ h => h⟩
    · rw [if_neg e]
      obtain ⟨h1, h2, h2'⟩ := h.inn m hm
      rw [if_pos ⟨h1, h2⟩]
      obtain ⟨h3, h4, h5, h6, h7⟩ := h.short hm e
      obtain ⟨p, hp⟩ : ∃ p : Nat, l.getD m 0 = p := ⟨(l.getD m 0).toNat, by omega⟩
      obtain ⟨g, hg⟩ : ∃ g : Nat, l.getD (l.getD m 0).toNat 0 = g := ⟨(l.getD (l.getD m 0).toNat 0).toNat, by omega⟩
      rw [hg] at h3 h4 h5 h7 ⊢
      rw [Int.toNat_natCast] at h5
      have hpm : p ≠ m := fun e' => e (by rw [hp, e'])
      have hgm : g ≠ m := fun e' => by subst e'; omega
      rw [hp, Int.toNat_natCast] at hg
      obtain ⟨l', x, e1, e2, e3, e4, e5, e6⟩ := endO_rt f _ g h3 (by rw [List.length_set]; omega) (by omega)
      rw [List.length_set] at e3 e4
      have hsh : ∀ y z, Rt l y z → Rt (l.set m (g : Int)) y z := fun y z h => short_rt hm hp hg hpm hgm h
      refine ⟨l', x, e1, e2, e3, e4, ?_, fun y z h => e6 y z (hsh y z h)⟩
      obtain ⟨x', hx', hr'⟩ := h.rt_ex hm
      have h8 : Rt l g x' := by
        cases hr' with
        | root h9 => exact absurd h9 e
        | step h9 hn hr9 =>
          rw [hp] at h9
          have : p = _ := Int.ofNat.inj h9
          subst this
          cases hr9 with
          | root h10 =>
            rw [hg] at h10
            have : g = p := Int.ofNat.inj h10
            rw [this]
            exact .root (by rw [hg, this])
          | step h10 _ hr10 =>
            rw [hg] at h10
            have : g = _ := Int.ofNat.inj h10
            rw [this]
            exact hr10
      have := (hsh g x' h8).fun_ e5
      rw [← this]
      exact hr'
/-- Two rows that lead to the same ends. -/
theorem Uf.rt_back {l l' : List Int} {J : Nat} {r : Nat → Nat} (h : Uf l J r) (hl : ∀ y z, Rt l y z → Rt l' y z) {y z : Nat} (hy : y < l.length) (h' : Rt l' y z) : Rt l y z := by
  obtain ⟨x, _, hx⟩ := h.rt_ex hy
  have := (hl y x hx).fun_ h'
  rw [← this]
  exact hx
/-- The numbers of a pair's states. -/
def n1 (p : Pr) : Nat := (1 + p.1).toNat
def n2 (s : Int) (p : Pr) : Nat := (other s p).toNat
/-- What pairs join. -/
inductive Conn (s : Int) (T : List Pr) : Nat → Nat → Prop
  | refl (x : Nat) : Conn s T x x
  | pair {p : Pr} (h : p ∈ T) : Conn s T (n1 p) (n2 s p)
  | symm {x y : Nat} (h : Conn s T x y) : Conn s T y x
  | trans {x y z : Nat} (h : Conn s T x y) (h' : Conn s T y z) : Conn s T x z
theorem Conn.mono {s : Int} {T T' : List Pr} (hT : ∀ p ∈ T, p ∈ T') {x y : Nat} (h : Conn s T x y) : Conn s T' x y := by
  induction h with
  | refl x => exact .refl x
  | pair h => exact .pair (hT _ h)
  | symm _ ih => exact .symm ih
  | trans _ _ ih1 ih2 => exact .trans ih1 ih2
/-- A row tells just what the pairs join. -/
structure Jo (s : Int) (T : List Pr) (l : List Int) (J : Nat) (r : Nat → Nat) : Prop where
  uf : Uf l J r
  conn : ∀ x y, x < l.length → y < l.length → (Conn s T x y ↔ ∃ z, Rt l x z ∧ Rt l y z)
theorem jo0 (s : Int) (n : Nat) : Jo s [] (upTo n n) 0 fun _ => 0 := by
  refine ⟨uf0 n, fun x y hx hy => ?_⟩
  have hl : (upTo n n).length = n := by simp [upTo]
  rw [hl] at hx hy
  constructor
  · intro h
    have : x = y := by
      clear hx hy
      induction h with
      | refl => rfl
      | pair h => cases h
      | symm _ ih => exact ih.symm
      | trans _ _ ih1 ih2 => exact ih1.trans ih2
    subst this
    exact ⟨x, .root (upTo_get hx), .root (upTo_get hx)⟩
  · rintro ⟨z, h1, h2⟩
    have e1 := (Rt.root (upTo_get hx)).fun_ h1
    have e2 := (Rt.root (upTo_get hy)).fun_ h2
    rw [e1, e2]
    exact .refl z
/-- A union of two ends. -/
theorem union_rt {l : List Int} {x y : Nat} (hx : x < l.length) (hxr : l.getD x 0 = (x : Int)) (hyr : l.getD y 0 = (y : Int)) (hne : x ≠ y) {m z : Nat} (h : Rt l m z) : Rt (l.set x (y : Int)) m (if z = x then y else z) := by
  induction h with
  | @root m h =>
    by_cases e : m = x
    · rw [if_pos e, e]
      refine .step (y := y) (by rw [getD_setI hx, if_pos rfl]) (Ne.symm hne) (.root ?_)
      rw [getD_setI hx, if_neg hne]
      exact hyr
    · rw [if_neg e]
      exact .root (by rw [getD_setI hx, if_neg (Ne.symm e)]; exact h)
  | @step m m' z h hn hr ih =>
    have e : x ≠ m := fun e => by
      subst e
      rw [hxr] at h
      exact hn (Int.ofNat.inj h).symm
    exact .step (by rw [getD_setI hx, if_neg e]; exact h) hn ih
theorem num_lt {a b : Mac} {q : Pr} (h : InP a b q) : n1 q < 1 + a.next.length + b.next.length ∧ n2 a.next.length q < 1 + a.next.length + b.next.length := by
  obtain ⟨⟨h1, h2⟩, h3, h4⟩ := h
  refine ⟨by unfold n1; omega, ?_⟩
  unfold n2 other
  split <;> omega
theorem joinO_jo {a b : Mac} {T : List Pr} {l : List Int} {J f : Nat} {r : Nat → Nat} {p : Pr} (h : Jo a.next.length T l J r) (hl : l.length = 1 + a.next.length + b.next.length) (hT : ∀ q ∈ T, InP a b q) (hp : InP a b p) (hf : J < f) :
    ∃ l' y, joinO f a.next.length l p = some (l', y) ∧ l'.length = l.length ∧ (∃ J' r', Jo a.next.length (p :: T) l' J' r' ∧ J' = (if y then J + 1 else J)) ∧ (y = false ↔ Conn a.next.length T (n1 p) (n2 a.next.length p)) := by
  obtain ⟨⟨p1, p2⟩, p3, p4⟩ := hp
  unfold joinO
  obtain ⟨m, hm⟩ : ∃ m : Nat, 1 + p.1 = m := ⟨(1 + p.1).toNat, by omega⟩
  obtain ⟨m', hm'⟩ : ∃ m : Nat, other a.next.length p = m := ⟨(other a.next.length p).toNat, by unfold other; split <;> omega⟩
  have en1 : n1 p = m := by unfold n1; omega
  have en2 : n2 a.next.length p = m' := by unfold n2; omega
  have hb : m' < l.length := by
    have : other a.next.length p < (l.length : Int) := by unfold other; split <;> omega
    omega
  have hma : m < l.length := by omega
  rw [hm, hm']
  obtain ⟨l1, x, e1, e2, e3, e4, e5, e6⟩ := endO_rt f l m h.uf hma (by omega)
  obtain ⟨l2, y, d1, d2, d3, d4, d5, d6⟩ := endO_rt f l1 m' e2 (by omega) (by omega)
  rw [e1]
  dsimp only
  rw [d1]
  dsimp only
  rw [Int.toNat_natCast]
  have hx : x < l2.length := by omega
  have hall : ∀ u v, Rt l u v → Rt l2 u v := fun u v h => d6 u v (e6 u v h)
  have d5' : Rt l m' y := h.uf.rt_back e6 hb d5
  have hx2 := (hall _ _ e5).end_
  have hy2 := (hall _ _ d5').end_
  have hlen : l2.length = l.length := by omega
  have hconn : Conn a.next.length T m m' ↔ x = y := by
    rw [h.conn m m' hma hb]
    constructor
    · rintro ⟨z, h1, h2⟩
      rw [e5.fun_ h1, d5'.fun_ h2]
    · intro e
      subst e
      exact ⟨x, e5, d5'⟩
  obtain ⟨_, _, k1, _, J', r', k2, k3⟩ := joinO_some (f := f) (p := p) h.uf hl ⟨⟨p1, p2⟩, p3, p4⟩ hf
  unfold joinO at k1
  rw [hm, hm', e1] at k1
  dsimp only at k1
  rw [d1] at k1
  dsimp only at k1
  rw [Int.toNat_natCast] at k1
  simp only [Option.some.injEq, Prod.mk.injEq] at k1
  obtain ⟨rfl, rfl⟩ := k1
  refine ⟨_, _, rfl, by rw [List.length_set, hlen], ⟨J', r', ⟨k2, ?_⟩, k3⟩, ?_⟩
  · intro u v hu hv
    rw [List.length_set, hlen] at hu hv
    obtain ⟨zu, hzu, ru⟩ := h.uf.rt_ex hu
    obtain ⟨zv, hzv, rv⟩ := h.uf.rt_ex hv
    have ru2 := hall _ _ ru
    have rv2 := hall _ _ rv
    by_cases e : x = y
    · subst e
      have hset : l2.set x (x : Int) = l2 := by
        apply List.ext_getElem (by simp)
        intro i h1 h2
        rw [List.getElem_set]
        split
        · rename_i e; subst e
          simpa [hx] using hx2.symm
        · rfl
      rw [hset]
      have hTT : ∀ u v, Conn a.next.length (p :: T) u v → Conn a.next.length T u v := fun u v hc => by
        induction hc with
        | refl x => exact .refl x
        | pair h' =>
          rcases List.mem_cons.1 h' with rfl | h'
          · rw [en1, en2]; exact hconn.2 rfl
          · exact .pair h'
        | symm _ ih => exact .symm ih
        | trans _ _ ih1 ih2 => exact .trans ih1 ih2
      constructor
      · intro hc
        obtain ⟨z, h1, h2⟩ := (h.conn u v hu hv).1 (hTT _ _ hc)
        exact ⟨z, hall _ _ h1, hall _ _ h2⟩
      · rintro ⟨z, h1, h2⟩
        have q1 := ru2.fun_ h1
        have q2 := rv2.fun_ h2
        subst q1
        have : zu = zv := q2.symm
        subst this
        exact ((h.conn u v hu hv).2 ⟨zu, ru, rv⟩).mono fun _ h => List.mem_cons_of_mem _ h
    · have U := fun {m z : Nat} (h : Rt l2 m z) => union_rt hx hx2 hy2 e h
      have key : ∀ w z, w < l.length → Rt l w z → ∃ z', Rt (l2.set x (y : Int)) w z' ∧ z' = (if z = x then y else z) := fun w z _ h => ⟨_, U (hall _ _ h), rfl⟩
      have hsound : ∀ w, w < l.length → ∀ z, Rt l w z → Conn a.next.length T w z := fun w hw z hz => by
        have hzl : z < l.length := by
          obtain ⟨z', hz', hr'⟩ := h.uf.rt_ex hw
          rw [hz.fun_ hr']
          exact hz'
        exact (h.conn w z hw hzl).2 ⟨z, hz, .root hz.end_⟩
      constructor
      · intro hc
        -- ends are equal along a chain
        have gen : ∀ u v, Conn a.next.length (p :: T) u v → (u < l.length → v < l.length ∧ ∃ z, Rt (l2.set x (y : Int)) u z ∧ Rt (l2.set x (y : Int)) v z) ∧ (v < l.length → u < l.length ∧ ∃ z, Rt (l2.set x (y : Int)) u z ∧ Rt (l2.set x (y : Int)) v z) := by
          intro u v hc
          induction hc with
          | refl w =>
            have : w < l.length → w < l.length ∧ ∃ z, Rt (l2.set x (y : Int)) w z ∧ Rt (l2.set x (y : Int)) w z := fun hw => by
              obtain ⟨z, _, hz⟩ := h.uf.rt_ex hw
              exact ⟨hw, _, U (hall _ _ hz), U (hall _ _ hz)⟩
            exact ⟨this, this⟩
          | @pair q hq =>
            have hnl : n1 q < l.length ∧ n2 a.next.length q < l.length := by
              rw [hl]
              rcases List.mem_cons.1 hq with rfl | hq
              · exact num_lt ⟨⟨p1, p2⟩, p3, p4⟩
              · exact num_lt (hT q hq)
            have hz : ∃ z, Rt (l2.set x (y : Int)) (n1 q) z ∧ Rt (l2.set x (y : Int)) (n2 a.next.length q) z := by
              rcases List.mem_cons.1 hq with rfl | hq
              · rw [en1, en2]
                have u1 := U (hall _ _ e5)
                have u2 := U (hall _ _ d5')
                rw [if_pos rfl] at u1
                rw [if_neg (Ne.symm e)] at u2
                exact ⟨y, u1, u2⟩
              · obtain ⟨z, h1, h2⟩ := (h.conn _ _ hnl.1 hnl.2).1 (.pair hq)
                exact ⟨_, U (hall _ _ h1), U (hall _ _ h2)⟩
            exact ⟨fun _ => ⟨hnl.2, hz⟩, fun _ => ⟨hnl.1, hz⟩⟩
          | symm _ ih =>
            exact ⟨fun hv => by obtain ⟨h1, z, h2, h3⟩ := ih.2 hv; exact ⟨h1, z, h3, h2⟩, fun hu => by obtain ⟨h1, z, h2, h3⟩ := ih.1 hu; exact ⟨h1, z, h3, h2⟩⟩
          | trans _ _ ih1 ih2 =>
            refine ⟨fun hu => ?_, fun hv => ?_⟩
            · obtain ⟨h1, z, h2, h3⟩ := ih1.1 hu
              obtain ⟨h4, z', h5, h6⟩ := ih2.1 h1
              rw [h3.fun_ h5] at h2
              exact ⟨h4, z', h2, h6⟩
            · obtain ⟨h1, z, h2, h3⟩ := ih2.2 hv
              obtain ⟨h4, z', h5, h6⟩ := ih1.2 h1
              rw [h2.fun_ h6] at h3
              exact ⟨h4, z', h5, h3⟩
        exact ((gen u v hc).1 hu).2
      · rintro ⟨z, h1, h2⟩
        have q1 := (U ru2).fun_ h1
        have q2 := (U rv2).fun_ h2
        have cu := (hsound u hu zu ru).mono fun _ h => List.mem_cons_of_mem p h
        have cv := (hsound v hv zv rv).mono fun _ h => List.mem_cons_of_mem p h
        have cx : Conn a.next.length (p :: T) x y := by
          have c1 := (hsound m hma x e5).mono fun _ h => List.mem_cons_of_mem p h
          have c2 := (hsound m' hb y d5').mono fun _ h => List.mem_cons_of_mem p h
          have c3 : Conn a.next.length (p :: T) m m' := by
            have := Conn.pair (s := a.next.length) (T := p :: T) (p := p) List.mem_cons_self
            rwa [en1, en2] at this
          exact (c1.symm.trans c3).trans c2
        have czz : Conn a.next.length (p :: T) zu zv := by
          rw [← q1] at q2
          by_cases eu : zu = x
          · rw [if_pos eu] at q2
            by_cases ev : zv = x
            · rw [eu, ev]; exact .refl x
            · rw [if_neg ev] at q2
              rw [eu, q2]; exact cx
          · rw [if_neg eu] at q2
            by_cases ev : zv = x
            · rw [if_pos ev] at q2
              rw [ev, ← q2]; exact cx.symm
            · rw [if_neg ev] at q2
              rw [q2]; exact .refl zu
        exact (cu.trans czz).trans cv.symm
  · rw [en1, en2, hconn]
    simp only [decide_eq_false_iff_not, Decidable.not_not, ne_eq]
    exact ⟨fun h => Int.ofNat.inj h, fun h => by rw [h]⟩
end Go.Proofs.Ytmoniecknimmdaa.A
end
