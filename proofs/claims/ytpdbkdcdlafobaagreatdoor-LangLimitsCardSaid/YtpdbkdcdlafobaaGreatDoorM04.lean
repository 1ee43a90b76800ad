/- Contracts of the small functions of package lang: letters, digits, names, types. Contracts of validName, validResult, validType, partLength of package lang. Words for memory: blocks known whole, what a call may change. Contracts of the parser's parts: partLength, next, take, want, name. The contract of row: the text of a row of steps in blocks. Contracts of the program's functions, with no condition beyond what each theorem states. -/
import Derived.Test.YtpdbkdcdlafobaaGreatDoorProg
import Derived.Test.YtpdbkdcdlafobaaGreatDoorM01
import Derived.WalkKit
import Derived.WalkSpells
import Derived.WalkLawsBesides
import Derived.Deep.QuietTactic
import Derived.BigQuiet
import Derived.Lib.Hide
import Derived.Lib.Strings
import Derived.Below
import Derived.Laws.OwnMore
import Derived.Deep.AppendLies
import Derived.Deep.Draws
import Derived.Laws.Rows
import Derived.Test.YtpdbkdcdlafobaaGreatDoorShelf
import Derived.Laws.Concat
section
namespace Go.Proofs.YtpdbkdcdlafobaaGreatDoor
open Go.RowKit
abbrev bs (s : ByteArray) : List UInt8 := s.data.toList
theorem toList_bs (s : ByteArray) : s.toList = bs s := ByteArray.toList_eq s
theorem size_bs (s : ByteArray) : (bs s).length = s.size := by simp [bs]
theorem get_bs (s : ByteArray) (k : Nat) (h : k < s.size) : (bs s)[k]'(by rw [size_bs]; exact h) = s[k] := rfl
theorem ret_int {k : IntKind} {a b : Int} (h : a = b) : Ending.returned (.int k a) = .returned (.int k b) := by rw [h]
theorem ret_bool {a b : Bool} (h : a = b) : Ending.returned (.bool a) = .returned (.bool b) := by rw [h]
theorem letter_of (c : UInt8) : L.letter c = decide (97 ≤ (c.toNat : Int) ∧ (c.toNat : Int) ≤ 122) := by
  unfold L.letter
  rw [Bool.eq_iff_iff]; simp [UInt8.le_iff_toNat_le]; omega

set_option maxHeartbeats 400000 in
theorem countLetters_any (s : ByteArray) (w : World) (hs : s.size ≤ maxLen) : Calls Tryz.prog 90 #[.string s] w fun e w' => e = .returned (.int .i64 (L.letters (bs s))) ∧ w = w' := by
  unfold maxLen at hs
  go_enter Tryz.func90, Tryz.ntmps90
  go_wp2
  go_loop [3] (fun i => ∃ k : Nat, k ≤ s.size ∧ k ≤ L.letters (bs s) ∧ i = .int .i64 k) (fun i => s.size - (intOf i).toNat)
  case atStart => exact ⟨0, Nat.zero_le _, Nat.zero_le _, rfl⟩
  case round =>
    obtain ⟨k, hk, hl, rfl⟩ := hrel
    by_cases hlt : k < s.size
    · have hlt' : k < (bs s).length := by rw [size_bs]; exact hlt
      have H1 := @L.letters_stop (bs s) k hl hlt'
      have H2 := @L.letters_step (bs s) k hl hlt'
      rw [get_bs s k hlt, letter_of] at H1 H2
      simp only [decide_eq_false_iff_not, decide_eq_true_eq] at H1 H2
      have K1 := Lib.hid H1
      have K2 := Lib.hid H2
      clear H1 H2
      go_wp2
      · go_round
        case rel => exact ⟨k + 1, by omega, K2.out ⟨by assumption, by assumption⟩, by go_num⟩
        case measure => simp [intOf]; omega
      all_goals
        go_ret
        exact ⟨ret_int (by rw [K1.out (by omega)]), rfl⟩
    · go_wp2
      go_ret
      have := L.letters_le (bs s)
      have := size_bs s
      exact ⟨ret_int (by omega), rfl⟩

set_option maxHeartbeats 400000 in
theorem must_true (w : World) : Calls Tryz.prog 66 #[.bool true] w fun e w' => e = .returned (.tuple #[]) ∧ w = w' := by
  go_enter Tryz.func66, Tryz.ntmps66
  go_wp2
  go_end0
  exact ⟨rfl, rfl⟩
theorem must_false (w : World) : Calls Tryz.prog 66 #[.bool false] w fun e w' => e = .panicked [{ v := .iface 186 (.agg #[]), recovered := false }] ∧ w = w' := by
  go_enter Tryz.func66, Tryz.ntmps66
  go_wp2
  exact ⟨rfl, rfl, rfl⟩
theorem digit_one (s : ByteArray) (h : s.size = 1) : L.digit (bs s) = (decide ((48 : UInt8) ≤ s[0]) && decide (s[0] < (52 : UInt8))) := by
  have h1 := size_bs s
  match hl : bs s, h1 with
  | [c], _ =>
    have : s[0] = c := by rw [← get_bs s 0 (by omega)]; simp [hl]
    simp [L.digit, this]
  | [], h1 => simp at h1; omega
  | _ :: _ :: _, h1 => simp at h1; omega
theorem digit_not (s : ByteArray) (h : s.size ≠ 1) : L.digit (bs s) = false := by
  have h1 := size_bs s
  match hl : bs s, h1 with
  | [c], h1 => simp at h1; omega
  | [], h1 => rfl
  | _ :: _ :: _, h1 => rfl
theorem isDigit_any (s : ByteArray) (w : World) : Calls Tryz.prog 91 #[.string s] w fun e w' => e = .returned (.bool (L.digit (bs s))) ∧ w = w' := by
  have H1 := Lib.hid (digit_one s)
  have H2 := Lib.hid (digit_not s)
  go_enter Tryz.func91, Tryz.ntmps91
  go_wp2
  all_goals go_ret
  · rename_i h1 h2
    refine ⟨ret_bool ?_, rfl⟩
    rw [H1.out (by omega)]
    simp only [UInt8.le_iff_toNat_le, UInt8.lt_iff_toNat_lt, UInt8.toNat_ofNat, decide_eq_true (show 48 ≤ s[0].toNat by omega)]
    rw [Bool.true_and]
    exact decide_eq_decide.2 (by omega)
  · refine ⟨ret_bool ?_, rfl⟩
    rw [H1.out (by omega)]
    simp only [UInt8.le_iff_toNat_le, UInt8.toNat_ofNat]
    rw [decide_eq_false (by omega), Bool.false_and]
  · exact ⟨ret_bool (H2.out (by omega)).symm, rfl⟩
end Go.Proofs.YtpdbkdcdlafobaaGreatDoor
end
section
namespace Go.Proofs.YtpdbkdcdlafobaaGreatDoor
open Go.RowKit

theorem validResult_any (t : Int) (w : World) : Calls Tryz.prog 97 #[.int .i64 t] w fun e w' => e = .returned (.bool (decide (t = 0 ∨ t = 1))) ∧ w = w' := by
  go_enter Tryz.func97, Tryz.ntmps97
  go_wp2
  all_goals go_ret
  all_goals exact ⟨ret_bool (by rw [Bool.eq_iff_iff]; simp; try omega), rfl⟩
theorem validType_any (t : Int) (w : World) : Calls Tryz.prog 98 #[.int .i64 t] w fun e w' => e = .returned (.bool (decide (t = 0 ∨ t = 1 ∨ t = 2))) ∧ w = w' := by
  go_enter Tryz.func98, Tryz.ntmps98
  go_wp2_with (go_at_call 97; refine (validResult_any _ _).mono ?_; rintro e w' ⟨rfl, rfl⟩)
  all_goals go_ret
  all_goals exact ⟨ret_bool (by rw [Bool.eq_iff_iff]; simp; try omega), rfl⟩
theorem name_word {l : L.Bytes} (h : l ∈ L.words) : L.name l = false := by
  unfold L.name; rw [List.contains_iff_mem.2 h]; simp
theorem name_no {l : L.Bytes} (h : l.length < 1 ∨ 8 < l.length ∨ L.letters l ≠ l.length) : L.name l = false := by
  unfold L.name; simp only [Bool.and_eq_false_iff, decide_eq_false_iff_not, beq_eq_false_iff_ne]; omega
theorem name_yes {l : L.Bytes} (h1 : 1 ≤ l.length) (h2 : l.length ≤ 8) (h3 : L.letters l = l.length) (h4 : L.words.contains l = false) : L.name l = true := by
  unfold L.name; simp only [h4, h3, h1, h2, decide_true, BEq.rfl, Bool.not_false, Bool.and_self]
set_option maxHeartbeats 400000 in
theorem validName_any (s : ByteArray) (w : World) (hs : s.size ≤ maxLen) : Calls Tryz.prog 95 #[.string s] w fun e w' => e = .returned (.bool (L.name (bs s))) ∧ w = w' := by
  go_enter Tryz.func95, Tryz.ntmps95
  go_wp2_with (go_at_call 90; refine (countLetters_any _ _ hs).mono ?_; rintro e w' ⟨rfl, rfl⟩)
  all_goals go_ret
  all_goals refine ⟨ret_bool ?_, rfl⟩
  all_goals try simp only [toList_bs, beq_iff_eq, beq_eq_false_iff_ne, bne_iff_ne, ne_eq] at *
  all_goals (have hz := size_bs s)
  all_goals first | contradiction | (exact (name_word (by rw [‹bs s = _›]; decide)).symm) | skip
  all_goals first | exact (name_no (by omega)).symm | skip
  have h := ‹(1 ≤ (s.size : Int) ∧ _) ∧ _›.2
  simp only [bne_eq_false_iff_eq] at h
  exact (name_yes (by omega) (by omega) (by omega) (by simp [L.words, *])).symm
end Go.Proofs.YtpdbkdcdlafobaaGreatDoor
end
section
namespace Go.Proofs.YtpdbkdcdlafobaaGreatDoor
open Go.RowKit
/-- Block g is just the cells cs of element type t, none frozen. -/
def Blk (w : World) (g : Nat) (t : TypeId) (cs : Array Value) : Prop := w.heap[g]? = some (.cells cs t (0, 0))
section
variable {w w' : World} {g : Nat} {t : TypeId} {cs : Array Value}
theorem Blk.lt (h : Blk w g t cs) : g < w.heap.size := by
  rcases Nat.lt_or_ge g w.heap.size with hlt | hge
  · exact hlt
  · unfold Blk at h; rw [Array.getElem?_eq_none hge] at h; cases h
theorem Blk.cell (h : Blk w g t cs) (i : Nat) : w.cell? ⟨g, i, none⟩ = cs[i]? := cell_of_row w g i cs t (0, 0) h
theorem Blk.frozen (h : Blk w g t cs) (i : Nat) : w.frozen? ⟨g, i, none⟩ = false := by
  unfold Blk at h
  simp [World.frozen?, h]
theorem Blk.new (w : World) (t : TypeId) (cs : Array Value) : Blk (w.alloc (.cells cs t)) w.heap.size t cs := heap_alloc_new w _
theorem Blk.drew (h : Blk w g t cs) : Blk w.drew g t cs := h
theorem Blk.drewN (h : Blk w g t cs) (n : Nat) : Blk (w.drewN n) g t cs := h
theorem Blk.alloc (h : Blk w g t cs) (o : Obj) : Blk (w.alloc o) g t cs := (Below.heap_alloc w o g h.lt).trans h
theorem Blk.set_ (h : Blk w g t cs) (i : Nat) (u : Value) : Blk (w.setCell ⟨g, i, none⟩ u) g t (cs.setIfInBounds i u) := by
  unfold Blk at h ⊢
  simp [World.setCell, Array.getElem?_modify, h]
theorem Blk.below {B : Nat} (h : Blk w g t cs) (hb : Below B w w') (hg : g < B) : Blk w' g t cs := (hb.block g hg).trans h
theorem Blk.grown {row : Option Nat} (h : Blk w g t cs) (hb : w.grownBy w' row) (hg : some g ≠ row) : Blk w' g t cs := (hb.block g h.lt hg).trans h
theorem Blk.far (h : Blk w g t cs) {p : Addr} (hp : g ≠ p.block) (u : Value) : Blk (w.setCell p u) g t cs := (Below.heap_setCell w p u g hp).trans h
end
/-- What a call may change: new blocks, and the blocks of E. -/
structure FrmC (E : Nat → Prop) (h h' : Array Obj) (io : Prop) : Prop where
  f1 : h.size ≤ h'.size
  f2 : ∀ b, b < h.size → ¬ E b → h'[b]? = h[b]?
  f3 : io
def Frm (E : Nat → Prop) (w w' : World) : Prop := FrmC E w.heap w'.heap (w'.os = w.os ∧ w'.output = w.output)
section
variable {E E' : Nat → Prop} {w w' w'' : World} {g : Nat} {t : TypeId} {cs : Array Value}
theorem Frm.refl (E : Nat → Prop) (w : World) : Frm E w w := ⟨Nat.le_refl _, fun _ _ _ => rfl, rfl, rfl⟩
theorem Frm.trans (h : Frm E w w') (h' : Frm E w' w'') : Frm E w w'' :=
  ⟨Nat.le_trans h.1 h'.1, fun b hb he => (h'.2 b (Nat.lt_of_lt_of_le hb h.1) he).trans (h.2 b hb he), h'.3.1.trans h.3.1, h'.3.2.trans h.3.2⟩
theorem Frm.mono (h : Frm E w w') (hE : ∀ b, b < w.heap.size → E b → E' b) : Frm E' w w' := ⟨h.1, fun b hb he => h.2 b hb fun h => he (hE b hb h), h.3⟩
theorem Frm.alloc (h : Frm E w w') (o : Obj) : Frm E w (w'.alloc o) :=
  ⟨Nat.le_trans h.1 (by simp), fun b hb he => (Below.heap_alloc w' o b (Nat.lt_of_lt_of_le hb h.1)).trans (h.2 b hb he), h.3⟩
theorem Frm.drew (h : Frm E w w') : Frm E w w'.drew := h
theorem Frm.drewN (h : Frm E w w') (n : Nat) : Frm E w (w'.drewN n) := h
theorem Frm.set_ (h : Frm E w w') {p : Addr} (hp : p.block < w.heap.size → E p.block) (u : Value) : Frm E w (w'.setCell p u) :=
  ⟨Nat.le_trans h.1 (by simp), fun b hb he => (Below.heap_setCell w' p u b (fun e => he (by subst e; exact hp hb))).trans (h.2 b hb he), h.3⟩
theorem Frm.below {B : Nat} (h : Frm E w w') (hb : Below B w' w'') (hB : w.heap.size ≤ B) : Frm E w w'' :=
  ⟨Nat.le_trans h.1 hb.size, fun b hlt he => (hb.block b (by omega)).trans (h.2 b hlt he), hb.os.trans h.3.1, hb.output.trans h.3.2⟩
theorem Frm.grown {row : Option Nat} (h : Frm E w w') (hg : w'.grownBy w'' row) (hr : ∀ g, row = some g → g < w.heap.size → E g) : Frm E w w'' :=
  ⟨Nat.le_trans h.1 hg.size, fun b hlt he => (hg.block b (Nat.lt_of_lt_of_le hlt h.1) (fun e => he (hr b e.symm hlt))).trans (h.2 b hlt he), hg.os.trans h.3.1, hg.output.trans h.3.2⟩
theorem Frm.own {v : Value} {n size : Nat} {e : TypeId} {xs : List Value} (h : Frm E w w') (ho : w'.ownsRow w.heap.size e size v n xs) (hg : w'.grownBy w'' v.ownBlock) : Frm E w w'' :=
  h.grown hg fun g hg hlt => absurd (ho.lt g hg).1 (by omega)
theorem lt_of_cell {a : Addr} {v : Value} (h : w.cell? a = some v) : a.block < w.heap.size := by
  rcases Nat.lt_or_ge a.block w.heap.size with hlt | hge
  · exact hlt
  · unfold World.cell? at h; rw [Array.getElem?_eq_none hge] at h; cases h
theorem Frm.cell {a : Addr} {v : Value} (h : Frm E w w') (he : ¬ E a.block) (hc : w.cell? a = some v) : w'.cell? a = some v := by
  rw [← hc]; unfold World.cell?; rw [h.2 _ (lt_of_cell hc) he]
theorem Frm.heap {o : Obj} (h : Frm E w w') (he : ¬ E g) (hg : w.heap[g]? = some o) : w'.heap[g]? = some o := by
  rw [← hg]; exact h.2 g (by rcases Nat.lt_or_ge g w.heap.size with h | h; exact h; rw [Array.getElem?_eq_none h] at hg; cases hg) he
theorem Frm.row {E : Nat → Prop} {base base' : Nat} {e : TypeId} {size n : Nat} {v : Value} {xs : List Value} (h : Frm E w w') (ho : w.ownsRow base e size v n xs) (he : ∀ g, v.ownBlock = some g → ¬ E g) (hb : base' ≤ base) : w'.ownsRow base' e size v n xs := by
  refine ⟨ho.1, ?_⟩
  rcases ho.2 with hn | ⟨g, cap, cur, rfl, h1, h2, h3⟩
  · exact .inl hn
  · exact .inr ⟨g, cap, cur, rfl, Nat.le_trans hb h1, h.heap (he g rfl) h2, h3⟩
theorem Frm.blk (h : Frm E w w') (hg : Blk w g t cs) (he : ¬ E g) : Blk w' g t cs := (h.2 g hg.lt he).trans hg
end
/-- Blocks of element type e stay as they are. -/
def Keeps (e : TypeId) (w w' : World) : Prop := ∀ (g : Nat) (cur : Array Value), w.heap[g]? = some (Obj.cells cur e (0, 0)) → w'.heap[g]? = w.heap[g]?
section
variable {e e' : TypeId} {w w' w'' : World} {E : Nat → Prop}
theorem lt_of_heap {g : Nat} {o : Obj} (h : w.heap[g]? = some o) : g < w.heap.size := by
  rcases Nat.lt_or_ge g w.heap.size with hlt | hge
  · exact hlt
  · rw [Array.getElem?_eq_none hge] at h; cases h
theorem Keeps.refl (e : TypeId) (w : World) : Keeps e w w := fun _ _ _ => rfl
theorem Keeps.trans (h : Keeps e w w') (h' : Keeps e w' w'') : Keeps e w w'' := fun g cur hg => (h' g cur ((h g cur hg).trans hg)).trans (h g cur hg)
theorem Frm.keeps (h : Frm E w w') (he : ∀ g cur, E g → w.heap[g]? ≠ some (Obj.cells cur e (0, 0))) : Keeps e w w' := fun g cur hg => h.2 g (lt_of_heap hg) fun hE => he g cur hE hg
theorem Frm.keeps1 {g : Nat} {cs : Array Value} (h : Frm (· = g) w w') (hb : Blk w g e' cs) (hne : e' ≠ e) : Keeps e w w' := h.keeps fun g' cur hg' hc => by
  subst hg'
  unfold Blk at hb
  rw [hb] at hc
  injection hc with hc
  injection hc with _ ht
  exact hne ht
theorem Frm.keeps0 (h : Frm (fun _ => False) w w') : Keeps e w w' := h.keeps fun _ _ h => h.elim
theorem Keeps.alloc (h : Keeps e w w') (o : Obj) : Keeps e w (w'.alloc o) := h.trans ((Frm.refl (fun _ => False) w').alloc o).keeps0
theorem Keeps.set_ {g t : Nat} {cs : Array Value} (h : Keeps e w w') (hb : Blk w' g t cs) (hne : t ≠ e) (i : Nat) (u : Value) : Keeps e w (w'.setCell ⟨g, i, none⟩ u) :=
  h.trans (((Frm.refl (· = g) w').set_ (fun _ => rfl) u).keeps1 hb hne)
theorem Keeps.grown {base size n : Nat} {v : Value} {xs : List Value} (h : Keeps e w w') (ho : w'.ownsRow base e' size v n xs) (hne : e' ≠ e) (hg : w'.grownBy w'' v.ownBlock) : Keeps e w w'' := by
  refine h.trans fun g cur hc => hg.block g (lt_of_heap hc) fun he => ?_
  rcases ho.2 with ⟨rfl, _⟩ | ⟨g', cap, cur', rfl, _, hh, _⟩
  · simp [Value.ownBlock] at he
  · have : g = g' := by simpa [Value.ownBlock] using he
    subst this
    rw [hc] at hh
    injection hh with hh
    injection hh with _ ht
    exact hne ht.symm
theorem Keeps.row {base size n : Nat} {v : Value} {xs : List Value} (h : Keeps e w w') (ho : w.ownsRow base e size v n xs) : w'.ownsRow base e size v n xs := by
  refine ⟨ho.1, ?_⟩
  rcases ho.2 with hn | ⟨g, cap, cur, rfl, h1, h2, h3⟩
  · exact .inl hn
  · exact .inr ⟨g, cap, cur, rfl, h1, (h g cur h2).trans h2, h3⟩
end
theorem own_base {w : World} {base base' size n : Nat} {e : TypeId} {v : Value} {xs : List Value} (ho : w.ownsRow base e size v n xs) (h : base' ≤ base) : w.ownsRow base' e size v n xs :=
  ⟨ho.1, ho.2.imp id fun ⟨g, cap, cur, h1, h2, h3⟩ => ⟨g, cap, cur, h1, Nat.le_trans h h2, h3⟩⟩
end Go.Proofs.YtpdbkdcdlafobaaGreatDoor
end
section
namespace Go.Proofs.YtpdbkdcdlafobaaGreatDoor
open Go.RowKit
def str (l : L.Bytes) : ByteArray := ⟨l.toArray⟩
@[simp] theorem bs_str (l : L.Bytes) : bs (str l) = l := by simp [bs, str]
@[simp] theorem str_bs (s : ByteArray) : str (bs s) = s := by simp [bs, str]
@[simp] theorem size_str (l : L.Bytes) : (str l).size = l.length := by simp [← size_bs]
@[simp] theorem toList_str (l : L.Bytes) : (str l).toList = l := by rw [toList_bs, bs_str]
theorem extract_str (l : L.Bytes) (a b : Nat) : (str l).extract a b = str ((l.drop a).take (b - a)) := by
  rw [← str_bs ((str l).extract a b)]; congr 1
  rw [bs, Lib.extract_data]; rfl
theorem indexByte_ge (l : List UInt8) (c : UInt8) : Lib.indexByte l c = -1 ∧ l.contains c = false ∨ 0 ≤ Lib.indexByte l c ∧ l.contains c = true := by
  induction l with
  | nil => exact .inl ⟨rfl, rfl⟩
  | cons b l ih =>
    unfold Lib.indexByte
    by_cases hb : b = c
    · subst hb; right; simp
    · have e : (b == c) = false := by simpa using hb
      have e' : (c == b) = false := by simpa using fun h => hb h.symm
      simp only [e, List.contains_cons, e', Bool.false_or]
      rcases ih with ⟨h1, h2⟩ | ⟨h1, h2⟩
      · left; simp [h1]; simpa using h2
      · right
        have : (Lib.indexByte l c == -1) = false := by simp; omega
        simp only [this]; exact ⟨by simp; omega, h2⟩
theorem indexByte_contains (l : List UInt8) (c : UInt8) : decide (0 ≤ Lib.indexByte l c) = l.contains c := by
  rcases indexByte_ge l c with ⟨h1, h2⟩ | ⟨h1, h2⟩ <;> rw [h2] <;> simp <;> omega
theorem take2 (l : L.Bytes) : ((str l).extract 0 (min 2 (l.length : Int)).toNat).toList = l.take 2 := by
  rw [extract_str, toList_str, List.drop_zero, Nat.sub_zero]
  rcases Nat.lt_or_ge l.length 2 with h | h
  · rw [List.take_of_length_le (by omega), List.take_of_length_le (by omega)]
  · congr 1; omega
/-- What partLength comes to: the length, or the panic. -/
def LenPost (r : Option Nat) (w : World) (e : Ending) (w' : World) : Prop :=
  w = w' ∧ e = match r with | some k => .returned (.int .i64 k) | none => .panicked [{ v := .iface 186 (.agg #[]), recovered := false }]
theorem partLen_letters {l : L.Bytes} (h : 0 < L.letters l) : L.partLen l = some (L.letters l) := by unfold L.partLen; rw [if_pos (by simp [h])]
theorem partLen_two {l : L.Bytes} (h : L.letters l = 0) (h2 : L.two l = true) (hne : l.isEmpty = false) : L.partLen l = some 2 := by
  unfold L.partLen; rw [if_neg (by simp [h, hne]), if_pos h2]
theorem partLen_one {c : UInt8} {t : L.Bytes} (h : L.letters (c :: t) = 0) (h2 : L.two (c :: t) = false) : L.partLen (c :: t) = if L.one (c :: t) then some 1 else none := by
  unfold L.partLen; rw [if_neg (by simp [h]), if_neg (by simp [h2])]
set_option maxHeartbeats 400000 in
theorem partLength_letters (l : L.Bytes) (w : World) (hs : l.length ≤ 4000) (h0 : 0 < L.letters l) : Calls Tryz.prog 63 #[.string (str l)] w (LenPost (L.partLen l) w) := by
  have hm : (str l).size ≤ maxLen := by rw [size_str]; unfold maxLen; omega
  have HP := Lib.hid (partLen_letters h0)
  go_enter Tryz.func63, Tryz.ntmps63
  go_wp2_with (go_at_call 90; refine (countLetters_any _ _ hm).mono ?_; rintro e w' ⟨rfl, rfl⟩)
  go_ret
  exact ⟨rfl, by rw [HP.out]; rfl⟩
theorem partLength_nil (w : World) : Calls Tryz.prog 63 #[.string (str [])] w (LenPost (L.partLen []) w) := by
  have hm : (str []).size ≤ maxLen := by rw [size_str]; unfold maxLen; simp
  have hz : L.letters (bs (str [])) = 0 := by simp [L.letters]
  go_enter Tryz.func63, Tryz.ntmps63
  go_wp2_with (go_at_call 90; refine (countLetters_any _ _ hm).mono ?_; rintro e w' ⟨rfl, rfl⟩)
  go_ret
  exact ⟨rfl, rfl⟩
set_option maxHeartbeats 400000 in
theorem partLength_two (l : L.Bytes) (w : World) (hs : l.length ≤ 4000) (h0 : L.letters l = 0) (hne : l.isEmpty = false) (h2 : L.two l = true) : Calls Tryz.prog 63 #[.string (str l)] w (LenPost (L.partLen l) w) := by
  have hm : (str l).size ≤ maxLen := by rw [size_str]; unfold maxLen; omega
  have HP := Lib.hid (partLen_two h0 h2 hne)
  have ht := take2 l
  have hz : L.letters (bs (str l)) = 0 := by rw [bs_str]; exact h0
  unfold L.two at h2
  rw [Bool.or_eq_true, Bool.or_eq_true] at h2
  rcases h2 with (h2 | h2) | h2
  all_goals
    have h3 := eq_of_beq h2
    clear h2
    rw [h3] at ht
    clear h3
    go_enter Tryz.func63, Tryz.ntmps63
    go_wp2_with (go_at_call 90; refine (countLetters_any _ _ hm).mono ?_; rintro e w' ⟨rfl, rfl⟩)
    go_ret
    exact ⟨rfl, by rw [HP.out]; rfl⟩
set_option maxHeartbeats 400000 in
theorem partLength_one (c : UInt8) (t : L.Bytes) (w : World) (hs : t.length < 4000) (h0 : L.letters (c :: t) = 0) (h2 : L.two (c :: t) = false) : Calls Tryz.prog 63 #[.string (str (c :: t))] w (LenPost (L.partLen (c :: t)) w) := by
  have hm : (str (c :: t)).size ≤ maxLen := by rw [size_str]; simp; unfold maxLen; omega
  have HP := Lib.hid (partLen_one h0 h2)
  have ht := take2 (c :: t)
  have hz : L.letters (bs (str (c :: t))) = 0 := by rw [bs_str]; exact h0
  have e1 : ((c :: t).length : Int) = (t.length : Int) + 1 := by simp
  rw [e1] at ht
  unfold L.two at h2
  simp only [Bool.or_eq_false_iff] at h2
  obtain ⟨⟨h21, h22⟩, h23⟩ := h2
  rw [← ht] at h21 h22 h23
  clear ht e1
  have h1 : (str (c :: t)).extract 0 1 = ⟨#[c]⟩ := by rw [extract_str]; rfl
  have hd : L.digit (bs ⟨#[c]⟩) = (decide ((48 : UInt8) ≤ c) && decide (c < (52 : UInt8))) := rfl
  have hi : decide (0 ≤ Lib.indexByte [58, 61, 44, 59, 60, 43, 45, 42, 40, 41, 123, 125, 91, 93] c) = L.marks.contains c := indexByte_contains _ c
  have ho : L.one (c :: t) = (L.digit (bs ⟨#[c]⟩) || L.marks.contains c) := by rw [hd]; rfl
  rw [ho, ← hi] at HP
  clear ho hd hi
  cases hd : L.digit (bs ⟨#[c]⟩)
  · cases hi : decide (0 ≤ Lib.indexByte [58, 61, 44, 59, 60, 43, 45, 42, 40, 41, 123, 125, 91, 93] c)
    all_goals
      rw [hd, hi] at HP
      go_enter Tryz.func63, Tryz.ntmps63
      go_wp2_with first | (go_at_call 90; refine (countLetters_any _ _ hm).mono ?_; rintro e w' ⟨rfl, rfl⟩) | (go_at_call 91; refine (isDigit_any _ _).mono ?_; rintro e w' ⟨rfl, rfl⟩) | (go_at_call 92; refine (Tryz.strings_Contains_one _ _ _).mono ?_; rintro e w' ⟨rfl, rfl⟩)
    · go_wp2_with (go_at_call 66; refine (must_false _).mono ?_; rintro e w' ⟨rfl, rfl⟩)
      exact ⟨rfl, rfl, by rw [HP.out]; rfl⟩
    · go_wp2_with (go_at_call 66; refine (must_true _).mono ?_; rintro e w' ⟨rfl, rfl⟩)
      go_ret
      exact ⟨rfl, by rw [HP.out]; rfl⟩
  · rw [hd] at HP
    go_enter Tryz.func63, Tryz.ntmps63
    go_wp2_with first | (go_at_call 90; refine (countLetters_any _ _ hm).mono ?_; rintro e w' ⟨rfl, rfl⟩) | (go_at_call 91; refine (isDigit_any _ _).mono ?_; rintro e w' ⟨rfl, rfl⟩) | (go_at_call 66; refine (must_true _).mono ?_; rintro e w' ⟨rfl, rfl⟩)
    go_ret
    exact ⟨rfl, by rw [HP.out]; rfl⟩
theorem partLength_any (l : L.Bytes) (w : World) (hs : l.length ≤ 4000) : Calls Tryz.prog 63 #[.string (str l)] w (LenPost (L.partLen l) w) := by
  rcases Nat.eq_zero_or_pos (L.letters l) with h0 | h0
  · match l, h0 with
    | [], _ => exact partLength_nil w
    | c :: t, h0 =>
      cases h2 : L.two (c :: t)
      · exact partLength_one c t w (by simpa [Nat.lt_iff_add_one_le] using hs) h0 h2
      · exact partLength_two _ w hs h0 rfl h2
  · exact partLength_letters l w hs h0
end Go.Proofs.YtpdbkdcdlafobaaGreatDoor
end
section
namespace Go.Proofs.YtpdbkdcdlafobaaGreatDoor
open Go.RowKit
theorem str_add (a b : L.Bytes) : str a ++ str b = str (a ++ b) := by
  unfold str
  rw [ByteArray.mk_append_mk]
theorem run_cat {a b : L.Bytes} (h : a.length + b.length ≤ 1000000) (w : World) : (Op.stringOp .add (str a) (str b)).run Tryz.prog w = .ok (.string (str (a ++ b))) w := by
  rw [run_string_add_sum w _ _ (by rw [size_str, size_str]; omega), str_add]
def preB : L.Bytes := [124, 45, 32, 99, 111, 109, 32, 58, 32]
def whB : L.Bytes := [119, 104, 105, 108, 101, 32, 49, 32, 123, 32]
def skB : L.Bytes := [115, 107, 105, 112]
def clB : L.Bytes := [32, 125]
theorem run_wh {a : L.Bytes} (h : a.length ≤ 900000) (w : World) : (Op.stringOp .add (str a) ⟨#[119, 104, 105, 108, 101, 32, 49, 32, 123, 32]⟩).run Tryz.prog w = .ok (.string (str (a ++ whB))) w := run_cat (b := whB) (by simp [whB]; omega) w
theorem run_sc {a : L.Bytes} (h : a.length ≤ 900000) (w : World) : (Op.stringOp .add (str a) ⟨#[59]⟩).run Tryz.prog w = .ok (.string (str (a ++ [59]))) w := run_cat (b := [59]) (by simp; omega) w
theorem run_sk {a : L.Bytes} (h : a.length ≤ 900000) (w : World) : (Op.stringOp .add (str a) ⟨#[115, 107, 105, 112]⟩).run Tryz.prog w = .ok (.string (str (a ++ skB))) w := run_cat (b := skB) (by simp [skB]; omega) w
theorem run_cl {a : L.Bytes} (h : a.length ≤ 900000) (w : World) : (Op.stringOp .add (str a) ⟨#[32, 125]⟩).run Tryz.prog w = .ok (.string (str (a ++ clB))) w := run_cat (b := clB) (by simp [clB]; omega) w
set_option maxRecDepth 100000 in
set_option maxHeartbeats 2000000 in
theorem row_nat (s d : Nat) (hs : s ≤ 1000) (hd : d ≤ 1000) (w : World) : Calls Tryz.prog 6 #[.int .i64 (s : Int), .int .i64 (d : Int)] w fun e w' => e = .returned (.string (str (L.rowT s d))) ∧ w = w' := by
  have HB : ∀ k, k ≤ d → (preB ++ L.rep whB k).length ≤ 20000 := fun k hk => by rw [List.length_append, L.rep_len]; simp [preB, whB]; omega
  have HC : ∀ k, k ≤ s → ((preB ++ L.rep whB d) ++ L.skips k).length ≤ 40000 := fun k hk => by have := HB d (Nat.le_refl _); have := L.skips_len k; rw [List.length_append]; omega
  have HD : ∀ k, k ≤ d → (((preB ++ L.rep whB d) ++ L.skips s) ++ L.rep clB k).length ≤ 60000 := fun k hk => by
    have h := HC s (Nat.le_refl _)
    have hc : clB.length = 2 := rfl
    rw [List.length_append, L.rep_len, hc]; omega
  have HB := Lib.hid HB
  have HC := Lib.hid HC
  have HD := Lib.hid HD
  go_enter Tryz.func6, Tryz.ntmps6
  go_wp2_with fail
  go_loopg [5, 6] (d + 1) (fun n o i wr => ∃ k : Nat, k ≤ d ∧ n = d + 1 - k ∧ o = .string (str (preB ++ L.rep whB k)) ∧ i = .int .i64 (k : Int) ∧ wr = w)
  case atStart => exact ⟨0, Nat.zero_le _, rfl, rfl, rfl, rfl⟩
  case round =>
    obtain ⟨k, hk, rfl, rfl, rfl, rfl⟩ := hrel
    by_cases hlt : k < d
    · have r1 := run_wh (show (preB ++ L.rep whB k).length ≤ 900000 from Nat.le_trans (HB.out k hk) (by omega)) wr
      have hlt' : (k : Int) < (d : Int) := by omega
      go_wp2_with fail
      go_roundg (d + 1 - (k + 1))
      case measure => omega
      case rel => exact ⟨k + 1, by omega, rfl, by simp [L.rep], by go_num, rfl⟩
    · have hlt' : ¬ (k : Int) < (d : Int) := by omega
      have ek : k = d := by omega
      subst ek
      go_wp2_with fail
      go_loopg [5, 7] (s + 1) (fun n o i wr' => ∃ j : Nat, j ≤ s ∧ n = s + 1 - j ∧ o = .string (str ((preB ++ L.rep whB k) ++ L.skips j)) ∧ i = .int .i64 (j : Int) ∧ wr' = wr)
      case atStart => exact ⟨0, Nat.zero_le _, rfl, by simp [L.skips], rfl, rfl⟩
      case round =>
        obtain ⟨j, hj, rfl, rfl, rfl, rfl⟩ := hrel
        by_cases hlt : j < s
        · have hltj : (j : Int) < (s : Int) := by omega
          have hb0 := HC.out j hj
          have HS : Hid (((preB ++ L.rep whB k) ++ L.skips j) ++ ((if j = 0 then [] else [59]) ++ skB) = (preB ++ L.rep whB k) ++ L.skips (j + 1)) := show _ = _ by rw [L.skips, List.append_assoc]; rfl
          generalize (preB ++ L.rep whB k) ++ L.skips j = A at *
          by_cases h0 : j = 0
          · subst h0
            have r1 := fun W => run_sk (show A.length ≤ 900000 from Nat.le_trans hb0 (by omega)) W
            clear hb0
            go_wp2_with fail
            go_roundg (s + 1 - (0 + 1))
            case measure => omega
            case rel => exact ⟨0 + 1, by omega, rfl, congrArg (fun x => Value.string (str x)) (by have h := HS.out; simpa using h), by go_num, rfl⟩
          · have r1 := fun W => run_sc (show A.length ≤ 900000 from Nat.le_trans hb0 (by omega)) W
            have r2 := fun W => run_sk (a := A ++ [59]) (by simp; omega) W
            have hj0 : (0 : Int) < (j : Int) := by omega
            clear hb0
            go_wp2_with fail
            go_roundg (s + 1 - (j + 1))
            case measure => omega
            case rel => exact ⟨j + 1, by omega, rfl, congrArg (fun x => Value.string (str x)) (by have h := HS.out; simpa [h0] using h), by go_num, rfl⟩
        · have hltj : ¬ (j : Int) < (s : Int) := by omega
          have ej : j = s := by omega
          subst ej
          go_wp2_with fail
          go_loopg [5, 8] (k + 1) (fun n o i wr2 => ∃ m : Nat, m ≤ k ∧ n = k + 1 - m ∧ o = .string (str (((preB ++ L.rep whB k) ++ L.skips j) ++ L.rep clB m)) ∧ i = .int .i64 (m : Int) ∧ wr2 = wr)
          case atStart => exact ⟨0, Nat.zero_le _, rfl, by simp [L.rep], rfl, rfl⟩
          case round =>
            obtain ⟨m, hm, rfl, rfl, rfl, rfl⟩ := hrel
            by_cases hlt : m < k
            · have r1 := fun W => run_cl (w := W) (show (((preB ++ L.rep whB k) ++ L.skips j) ++ L.rep clB m).length ≤ 900000 from Nat.le_trans (HD.out m hm) (by omega))
              have hltm : (m : Int) < (k : Int) := by omega
              have HS : Hid ((((preB ++ L.rep whB k) ++ L.skips j) ++ L.rep clB m) ++ clB = ((preB ++ L.rep whB k) ++ L.skips j) ++ L.rep clB (m + 1)) := show _ = _ by rw [L.rep, List.append_assoc ((preB ++ L.rep whB k) ++ L.skips j)]
              generalize ((preB ++ L.rep whB k) ++ L.skips j) ++ L.rep clB m = A at *
              go_wp2_with fail
              go_roundg (k + 1 - (m + 1))
              case measure => omega
              case rel => exact ⟨m + 1, by omega, rfl, congrArg (fun x => Value.string (str x)) (by have h := HS.out; simpa using h), by go_num, rfl⟩
            · have hltm : ¬ (m : Int) < (k : Int) := by omega
              have em : m = k := by omega
              subst em
              go_wp2_with fail
              go_ret
              exact ⟨congrArg (fun x => Ending.returned (.string (str x))) (show preB ++ (L.rep whB m ++ (L.skips j ++ L.rep clB m)) = L.rowT j m by simp [L.rowT, preB, whB, clB]), rfl⟩
end Go.Proofs.YtpdbkdcdlafobaaGreatDoor
end
