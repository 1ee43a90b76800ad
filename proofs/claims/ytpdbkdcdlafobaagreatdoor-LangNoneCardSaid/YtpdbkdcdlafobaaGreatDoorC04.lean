/- Contracts of the small functions of package lang: letters, digits, names, types. Contracts of validName, validResult, validType, partLength of package lang. Words for memory: blocks known whole, what a call may change. Contracts of the parser's parts: partLength, next, take, want, name. Contracts of the parser's steps: next, take, want, name. Contracts of the program's functions, with no condition beyond what each theorem states. -/
import Derived.Test.YtpdbkdcdlafobaaGreatDoorProg
import Derived.Test.YtpdbkdcdlafobaaGreatDoorC01
import Derived.WalkKit
import Derived.WalkSpells
import Derived.WalkLawsBesides
import Derived.Deep.QuietTactic
import Derived.BigQuiet
import Derived.Lib.Hide
import Derived.Lib.Strings
import Derived.Below
import Derived.Laws.OwnMore
import Derived.Deep.AppendLies
import Derived.Deep.Draws
import Derived.Laws.Rows
import Derived.Test.YtpdbkdcdlafobaaGreatDoorShelf
import Derived.Shelf.Strings.SlTrimAscii
section
namespace Go.Proofs.YtpdbkdcdlafobaaGreatDoor
open Go.RowKit
abbrev bs (s : ByteArray) : List UInt8 := s.data.toList
theorem toList_bs (s : ByteArray) : s.toList = bs s := ByteArray.toList_eq s
theorem size_bs (s : ByteArray) : (bs s).length = s.size := by simp [bs]
theorem get_bs (s : ByteArray) (k : Nat) (h : k < s.size) : (bs s)[k]'(by rw [size_bs]; exact h) = s[k] := rfl
theorem ret_int {k : IntKind} {a b : Int} (h : a = b) : Ending.returned (.int k a) = .returned (.int k b) := by rw [h]
theorem ret_bool {a b : Bool} (h : a = b) : Ending.returned (.bool a) = .returned (.bool b) := by rw [h]
theorem letter_of (c : UInt8) : L.letter c = decide (97 ≤ (c.toNat : Int) ∧ (c.toNat : Int) ≤ 122) := by
  unfold L.letter
  rw [Bool.eq_iff_iff]; simp [UInt8.le_iff_toNat_le]; omega

set_option maxHeartbeats 400000 in
theorem countLetters_any (s : ByteArray) (w : World) (hs : s.size ≤ maxLen) : Calls Tryz.prog 90 #[.string s] w fun e w' => e = .returned (.int .i64 (L.letters (bs s))) ∧ w = w' := by
  unfold maxLen at hs
  go_enter Tryz.func90, Tryz.ntmps90
  go_wp2
  go_loop [3] (fun i => ∃ k : Nat, k ≤ s.size ∧ k ≤ L.letters (bs s) ∧ i = .int .i64 k) (fun i => s.size - (intOf i).toNat)
  case atStart => exact ⟨0, Nat.zero_le _, Nat.zero_le _, rfl⟩
  case round =>
    obtain ⟨k, hk, hl, rfl⟩ := hrel
    by_cases hlt : k < s.size
    · have hlt' : k < (bs s).length := by rw [size_bs]; exact hlt
      have H1 := @L.letters_stop (bs s) k hl hlt'
      have H2 := @L.letters_step (bs s) k hl hlt'
      rw [get_bs s k hlt, letter_of] at H1 H2
      simp only [decide_eq_false_iff_not, decide_eq_true_eq] at H1 H2
      have K1 := Lib.hid H1
      have K2 := Lib.hid H2
      clear H1 H2
      go_wp2
      · go_round
        case rel => exact ⟨k + 1, by omega, K2.out ⟨by assumption, by assumption⟩, by go_num⟩
        case measure => simp [intOf]; omega
      all_goals
        go_ret
        exact ⟨ret_int (by rw [K1.out (by omega)]), rfl⟩
    · go_wp2
      go_ret
      have := L.letters_le (bs s)
      have := size_bs s
      exact ⟨ret_int (by omega), rfl⟩

set_option maxHeartbeats 400000 in
theorem must_true (w : World) : Calls Tryz.prog 66 #[.bool true] w fun e w' => e = .returned (.tuple #[]) ∧ w = w' := by
  go_enter Tryz.func66, Tryz.ntmps66
  go_wp2
  go_end0
  exact ⟨rfl, rfl⟩
theorem must_false (w : World) : Calls Tryz.prog 66 #[.bool false] w fun e w' => e = .panicked [{ v := .iface 186 (.agg #[]), recovered := false }] ∧ w = w' := by
  go_enter Tryz.func66, Tryz.ntmps66
  go_wp2
  exact ⟨rfl, rfl, rfl⟩
theorem digit_one (s : ByteArray) (h : s.size = 1) : L.digit (bs s) = (decide ((48 : UInt8) ≤ s[0]) && decide (s[0] < (52 : UInt8))) := by
  have h1 := size_bs s
  match hl : bs s, h1 with
  | [c], _ =>
    have : s[0] = c := by rw [← get_bs s 0 (by omega)]; simp [hl]
    simp [L.digit, this]
  | [], h1 => simp at h1; omega
  | _ :: _ :: _, h1 => simp at h1; omega
theorem digit_not (s : ByteArray) (h : s.size ≠ 1) : L.digit (bs s) = false := by
  have h1 := size_bs s
  match hl : bs s, h1 with
  | [c], h1 => simp at h1; omega
  | [], h1 => rfl
  | _ :: _ :: _, h1 => rfl
theorem isDigit_any (s : ByteArray) (w : World) : Calls Tryz.prog 91 #[.string s] w fun e w' => e = .returned (.bool (L.digit (bs s))) ∧ w = w' := by
  have H1 := Lib.hid (digit_one s)
  have H2 := Lib.hid (digit_not s)
  go_enter Tryz.func91, Tryz.ntmps91
  go_wp2
  all_goals go_ret
  · rename_i h1 h2
    refine ⟨ret_bool ?_, rfl⟩
    rw [H1.out (by omega)]
    simp only [UInt8.le_iff_toNat_le, UInt8.lt_iff_toNat_lt, UInt8.toNat_ofNat, decide_eq_true (show 48 ≤ s[0].toNat by omega)]
    rw [Bool.true_and]
    exact decide_eq_decide.2 (by omega)
  · refine ⟨ret_bool ?_, rfl⟩
    rw [H1.out (by omega)]
    simp only [UInt8.le_iff_toNat_le, UInt8.toNat_ofNat]
    rw [decide_eq_false (by omega), Bool.false_and]
  · exact ⟨ret_bool (H2.out (by omega)).symm, rfl⟩
end Go.Proofs.YtpdbkdcdlafobaaGreatDoor
end
section
namespace Go.Proofs.YtpdbkdcdlafobaaGreatDoor
open Go.RowKit

theorem validResult_any (t : Int) (w : World) : Calls Tryz.prog 97 #[.int .i64 t] w fun e w' => e = .returned (.bool (decide (t = 0 ∨ t = 1))) ∧ w = w' := by
  go_enter Tryz.func97, Tryz.ntmps97
  go_wp2
  all_goals go_ret
  all_goals exact ⟨ret_bool (by rw [Bool.eq_iff_iff]; simp; try omega), rfl⟩
theorem validType_any (t : Int) (w : World) : Calls Tryz.prog 98 #[.int .i64 t] w fun e w' => e = .returned (.bool (decide (t = 0 ∨ t = 1 ∨ t = 2))) ∧ w = w' := by
  go_enter Tryz.func98, Tryz.ntmps98
  go_wp2_with (go_at_call 97; refine (validResult_any _ _).mono ?_; rintro e w' ⟨rfl, rfl⟩)
  all_goals go_ret
  all_goals exact ⟨ret_bool (by rw [Bool.eq_iff_iff]; simp; try omega), rfl⟩
theorem name_word {l : L.Bytes} (h : l ∈ L.words) : L.name l = false := by
  unfold L.name; rw [List.contains_iff_mem.2 h]; simp
theorem name_no {l : L.Bytes} (h : l.length < 1 ∨ 8 < l.length ∨ L.letters l ≠ l.length) : L.name l = false := by
  unfold L.name; simp only [Bool.and_eq_false_iff, decide_eq_false_iff_not, beq_eq_false_iff_ne]; omega
theorem name_yes {l : L.Bytes} (h1 : 1 ≤ l.length) (h2 : l.length ≤ 8) (h3 : L.letters l = l.length) (h4 : L.words.contains l = false) : L.name l = true := by
  unfold L.name; simp only [h4, h3, h1, h2, decide_true, BEq.rfl, Bool.not_false, Bool.and_self]
set_option maxHeartbeats 400000 in
theorem validName_any (s : ByteArray) (w : World) (hs : s.size ≤ maxLen) : Calls Tryz.prog 95 #[.string s] w fun e w' => e = .returned (.bool (L.name (bs s))) ∧ w = w' := by
  go_enter Tryz.func95, Tryz.ntmps95
  go_wp2_with (go_at_call 90; refine (countLetters_any _ _ hs).mono ?_; rintro e w' ⟨rfl, rfl⟩)
  all_goals go_ret
  all_goals refine ⟨ret_bool ?_, rfl⟩
  all_goals try simp only [toList_bs, beq_iff_eq, beq_eq_false_iff_ne, bne_iff_ne, ne_eq] at *
  all_goals (have hz := size_bs s)
  all_goals first | contradiction | (exact (name_word (by rw [‹bs s = _›]; decide)).symm) | skip
  all_goals first | exact (name_no (by omega)).symm | skip
  have h := ‹(1 ≤ (s.size : Int) ∧ _) ∧ _›.2
  simp only [bne_eq_false_iff_eq] at h
  exact (name_yes (by omega) (by omega) (by omega) (by simp [L.words, *])).symm
end Go.Proofs.YtpdbkdcdlafobaaGreatDoor
end
section
namespace Go.Proofs.YtpdbkdcdlafobaaGreatDoor
open Go.RowKit
/-- Block g is just the cells cs of element type t, none frozen. -/
def Blk (w : World) (g : Nat) (t : TypeId) (cs : Array Value) : Prop := w.heap[g]? = some (.cells cs t (0, 0))
section
variable {w w' : World} {g : Nat} {t : TypeId} {cs : Array Value}
theorem Blk.lt (h : Blk w g t cs) : g < w.heap.size := by
  rcases Nat.lt_or_ge g w.heap.size with hlt | hge
  · exact hlt
  · unfold Blk at h; rw [Array.getElem?_eq_none hge] at h; cases h
theorem Blk.cell (h : Blk w g t cs) (i : Nat) : w.cell? ⟨g, i, none⟩ = cs[i]? := cell_of_row w g i cs t (0, 0) h
theorem Blk.frozen (h : Blk w g t cs) (i : Nat) : w.frozen? ⟨g, i, none⟩ = false := by
  unfold Blk at h
  simp [World.frozen?, h]
theorem Blk.new (w : World) (t : TypeId) (cs : Array Value) : Blk (w.alloc (.cells cs t)) w.heap.size t cs := heap_alloc_new w _
theorem Blk.drew (h : Blk w g t cs) : Blk w.drew g t cs := h
theorem Blk.drewN (h : Blk w g t cs) (n : Nat) : Blk (w.drewN n) g t cs := h
theorem Blk.alloc (h : Blk w g t cs) (o : Obj) : Blk (w.alloc o) g t cs := (Below.heap_alloc w o g h.lt).trans h
theorem Blk.set_ (h : Blk w g t cs) (i : Nat) (u : Value) : Blk (w.setCell ⟨g, i, none⟩ u) g t (cs.setIfInBounds i u) := by
  unfold Blk at h ⊢
  simp [World.setCell, Array.getElem?_modify, h]
theorem Blk.below {B : Nat} (h : Blk w g t cs) (hb : Below B w w') (hg : g < B) : Blk w' g t cs := (hb.block g hg).trans h
theorem Blk.grown {row : Option Nat} (h : Blk w g t cs) (hb : w.grownBy w' row) (hg : some g ≠ row) : Blk w' g t cs := (hb.block g h.lt hg).trans h
theorem Blk.far (h : Blk w g t cs) {p : Addr} (hp : g ≠ p.block) (u : Value) : Blk (w.setCell p u) g t cs := (Below.heap_setCell w p u g hp).trans h
end
/-- What a call may change: new blocks, and the blocks of E. -/
structure FrmC (E : Nat → Prop) (h h' : Array Obj) (io : Prop) : Prop where
  f1 : h.size ≤ h'.size
  f2 : ∀ b, b < h.size → ¬ E b → h'[b]? = h[b]?
  f3 : io
def Frm (E : Nat → Prop) (w w' : World) : Prop := FrmC E w.heap w'.heap (w'.os = w.os ∧ w'.output = w.output)
section
variable {E E' : Nat → Prop} {w w' w'' : World} {g : Nat} {t : TypeId} {cs : Array Value}
theorem Frm.refl (E : Nat → Prop) (w : World) : Frm E w w := ⟨Nat.le_refl _, fun _ _ _ => rfl, rfl, rfl⟩
theorem Frm.trans (h : Frm E w w') (h' : Frm E w' w'') : Frm E w w'' :=
  ⟨Nat.le_trans h.1 h'.1, fun b hb he => (h'.2 b (Nat.lt_of_lt_of_le hb h.1) he).trans (h.2 b hb he), h'.3.1.trans h.3.1, h'.3.2.trans h.3.2⟩
theorem Frm.mono (h : Frm E w w') (hE : ∀ b, b < w.heap.size → E b → E' b) : Frm E' w w' := ⟨h.1, fun b hb he => h.2 b hb fun h => he (hE b hb h), h.3⟩
theorem Frm.alloc (h : Frm E w w') (o : Obj) : Frm E w (w'.alloc o) :=
  ⟨Nat.le_trans h.1 (by simp), fun b hb he => (Below.heap_alloc w' o b (Nat.lt_of_lt_of_le hb h.1)).trans (h.2 b hb he), h.3⟩
theorem Frm.drew (h : Frm E w w') : Frm E w w'.drew := h
theorem Frm.drewN (h : Frm E w w') (n : Nat) : Frm E w (w'.drewN n) := h
theorem Frm.set_ (h : Frm E w w') {p : Addr} (hp : p.block < w.heap.size → E p.block) (u : Value) : Frm E w (w'.setCell p u) :=
  ⟨Nat.le_trans h.1 (by simp), fun b hb he => (Below.heap_setCell w' p u b (fun e => he (by subst e; exact hp hb))).trans (h.2 b hb he), h.3⟩
theorem Frm.below {B : Nat} (h : Frm E w w') (hb : Below B w' w'') (hB : w.heap.size ≤ B) : Frm E w w'' :=
  ⟨Nat.le_trans h.1 hb.size, fun b hlt he => (hb.block b (by omega)).trans (h.2 b hlt he), hb.os.trans h.3.1, hb.output.trans h.3.2⟩
theorem Frm.grown {row : Option Nat} (h : Frm E w w') (hg : w'.grownBy w'' row) (hr : ∀ g, row = some g → g < w.heap.size → E g) : Frm E w w'' :=
  ⟨Nat.le_trans h.1 hg.size, fun b hlt he => (hg.block b (Nat.lt_of_lt_of_le hlt h.1) (fun e => he (hr b e.symm hlt))).trans (h.2 b hlt he), hg.os.trans h.3.1, hg.output.trans h.3.2⟩
theorem Frm.own {v : Value} {n size : Nat} {e : TypeId} {xs : List Value} (h : Frm E w w') (ho : w'.ownsRow w.heap.size e size v n xs) (hg : w'.grownBy w'' v.ownBlock) : Frm E w w'' :=
  h.grown hg fun g hg hlt => absurd (ho.lt g hg).1 (by omega)
theorem lt_of_cell {a : Addr} {v : Value} (h : w.cell? a = some v) : a.block < w.heap.size := by
  rcases Nat.lt_or_ge a.block w.heap.size with hlt | hge
  · exact hlt
  · unfold World.cell? at h; rw [Array.getElem?_eq_none hge] at h; cases h
theorem Frm.cell {a : Addr} {v : Value} (h : Frm E w w') (he : ¬ E a.block) (hc : w.cell? a = some v) : w'.cell? a = some v := by
  rw [← hc]; unfold World.cell?; rw [h.2 _ (lt_of_cell hc) he]
theorem Frm.heap {o : Obj} (h : Frm E w w') (he : ¬ E g) (hg : w.heap[g]? = some o) : w'.heap[g]? = some o := by
  rw [← hg]; exact h.2 g (by rcases Nat.lt_or_ge g w.heap.size with h | h; exact h; rw [Array.getElem?_eq_none h] at hg; cases hg) he
theorem Frm.row {E : Nat → Prop} {base base' : Nat} {e : TypeId} {size n : Nat} {v : Value} {xs : List Value} (h : Frm E w w') (ho : w.ownsRow base e size v n xs) (he : ∀ g, v.ownBlock = some g → ¬ E g) (hb : base' ≤ base) : w'.ownsRow base' e size v n xs := by
  refine ⟨ho.1, ?_⟩
  rcases ho.2 with hn | ⟨g, cap, cur, rfl, h1, h2, h3⟩
  · exact .inl hn
  · exact .inr ⟨g, cap, cur, rfl, Nat.le_trans hb h1, h.heap (he g rfl) h2, h3⟩
theorem Frm.blk (h : Frm E w w') (hg : Blk w g t cs) (he : ¬ E g) : Blk w' g t cs := (h.2 g hg.lt he).trans hg
end
/-- Blocks of element type e stay as they are. -/
def Keeps (e : TypeId) (w w' : World) : Prop := ∀ (g : Nat) (cur : Array Value), w.heap[g]? = some (Obj.cells cur e (0, 0)) → w'.heap[g]? = w.heap[g]?
section
variable {e e' : TypeId} {w w' w'' : World} {E : Nat → Prop}
theorem lt_of_heap {g : Nat} {o : Obj} (h : w.heap[g]? = some o) : g < w.heap.size := by
  rcases Nat.lt_or_ge g w.heap.size with hlt | hge
  · exact hlt
  · rw [Array.getElem?_eq_none hge] at h; cases h
theorem Keeps.refl (e : TypeId) (w : World) : Keeps e w w := fun _ _ _ => rfl
theorem Keeps.trans (h : Keeps e w w') (h' : Keeps e w' w'') : Keeps e w w'' := fun g cur hg => (h' g cur ((h g cur hg).trans hg)).trans (h g cur hg)
theorem Frm.keeps (h : Frm E w w') (he : ∀ g cur, E g → w.heap[g]? ≠ some (Obj.cells cur e (0, 0))) : Keeps e w w' := fun g cur hg => h.2 g (lt_of_heap hg) fun hE => he g cur hE hg
theorem Frm.keeps1 {g : Nat} {cs : Array Value} (h : Frm (· = g) w w') (hb : Blk w g e' cs) (hne : e' ≠ e) : Keeps e w w' := h.keeps fun g' cur hg' hc => by
  subst hg'
  unfold Blk at hb
  rw [hb] at hc
  injection hc with hc
  injection hc with _ ht
  exact hne ht
theorem Frm.keeps0 (h : Frm (fun _ => False) w w') : Keeps e w w' := h.keeps fun _ _ h => h.elim
theorem Keeps.alloc (h : Keeps e w w') (o : Obj) : Keeps e w (w'.alloc o) := h.trans ((Frm.refl (fun _ => False) w').alloc o).keeps0
theorem Keeps.set_ {g t : Nat} {cs : Array Value} (h : Keeps e w w') (hb : Blk w' g t cs) (hne : t ≠ e) (i : Nat) (u : Value) : Keeps e w (w'.setCell ⟨g, i, none⟩ u) :=
  h.trans (((Frm.refl (· = g) w').set_ (fun _ => rfl) u).keeps1 hb hne)
theorem Keeps.grown {base size n : Nat} {v : Value} {xs : List Value} (h : Keeps e w w') (ho : w'.ownsRow base e' size v n xs) (hne : e' ≠ e) (hg : w'.grownBy w'' v.ownBlock) : Keeps e w w'' := by
  refine h.trans fun g cur hc => hg.block g (lt_of_heap hc) fun he => ?_
  rcases ho.2 with ⟨rfl, _⟩ | ⟨g', cap, cur', rfl, _, hh, _⟩
  · simp [Value.ownBlock] at he
  · have : g = g' := by simpa [Value.ownBlock] using he
    subst this
    rw [hc] at hh
    injection hh with hh
    injection hh with _ ht
    exact hne ht.symm
theorem Keeps.row {base size n : Nat} {v : Value} {xs : List Value} (h : Keeps e w w') (ho : w.ownsRow base e size v n xs) : w'.ownsRow base e size v n xs := by
  refine ⟨ho.1, ?_⟩
  rcases ho.2 with hn | ⟨g, cap, cur, rfl, h1, h2, h3⟩
  · exact .inl hn
  · exact .inr ⟨g, cap, cur, rfl, h1, (h g cur h2).trans h2, h3⟩
end
theorem own_base {w : World} {base base' size n : Nat} {e : TypeId} {v : Value} {xs : List Value} (ho : w.ownsRow base e size v n xs) (h : base' ≤ base) : w.ownsRow base' e size v n xs :=
  ⟨ho.1, ho.2.imp id fun ⟨g, cap, cur, h1, h2, h3⟩ => ⟨g, cap, cur, h1, Nat.le_trans h h2, h3⟩⟩
end Go.Proofs.YtpdbkdcdlafobaaGreatDoor
end
section
namespace Go.Proofs.YtpdbkdcdlafobaaGreatDoor
open Go.RowKit
def str (l : L.Bytes) : ByteArray := ⟨l.toArray⟩
@[simp] theorem bs_str (l : L.Bytes) : bs (str l) = l := by simp [bs, str]
@[simp] theorem str_bs (s : ByteArray) : str (bs s) = s := by simp [bs, str]
@[simp] theorem size_str (l : L.Bytes) : (str l).size = l.length := by simp [← size_bs]
@[simp] theorem toList_str (l : L.Bytes) : (str l).toList = l := by rw [toList_bs, bs_str]
theorem extract_str (l : L.Bytes) (a b : Nat) : (str l).extract a b = str ((l.drop a).take (b - a)) := by
  rw [← str_bs ((str l).extract a b)]; congr 1
  rw [bs, Lib.extract_data]; rfl
theorem indexByte_ge (l : List UInt8) (c : UInt8) : Lib.indexByte l c = -1 ∧ l.contains c = false ∨ 0 ≤ Lib.indexByte l c ∧ l.contains c = true := by
  induction l with
  | nil => exact .inl ⟨rfl, rfl⟩
  | cons b l ih =>
    unfold Lib.indexByte
    by_cases hb : b = c
    · subst hb; right; simp
    · have e : (b == c) = false := by simpa using hb
      have e' : (c == b) = false := by simpa using fun h => hb h.symm
      simp only [e, List.contains_cons, e', Bool.false_or]
      rcases ih with ⟨h1, h2⟩ | ⟨h1, h2⟩
      · left; simp [h1]; simpa using h2
      · right
        have : (Lib.indexByte l c == -1) = false := by simp; omega
        simp only [this]; exact ⟨by simp; omega, h2⟩
theorem indexByte_contains (l : List UInt8) (c : UInt8) : decide (0 ≤ Lib.indexByte l c) = l.contains c := by
  rcases indexByte_ge l c with ⟨h1, h2⟩ | ⟨h1, h2⟩ <;> rw [h2] <;> simp <;> omega
theorem take2 (l : L.Bytes) : ((str l).extract 0 (min 2 (l.length : Int)).toNat).toList = l.take 2 := by
  rw [extract_str, toList_str, List.drop_zero, Nat.sub_zero]
  rcases Nat.lt_or_ge l.length 2 with h | h
  · rw [List.take_of_length_le (by omega), List.take_of_length_le (by omega)]
  · congr 1; omega
/-- What partLength comes to: the length, or the panic. -/
def LenPost (r : Option Nat) (w : World) (e : Ending) (w' : World) : Prop :=
  w = w' ∧ e = match r with | some k => .returned (.int .i64 k) | none => .panicked [{ v := .iface 186 (.agg #[]), recovered := false }]
theorem partLen_letters {l : L.Bytes} (h : 0 < L.letters l) : L.partLen l = some (L.letters l) := by unfold L.partLen; rw [if_pos (by simp [h])]
theorem partLen_two {l : L.Bytes} (h : L.letters l = 0) (h2 : L.two l = true) (hne : l.isEmpty = false) : L.partLen l = some 2 := by
  unfold L.partLen; rw [if_neg (by simp [h, hne]), if_pos h2]
theorem partLen_one {c : UInt8} {t : L.Bytes} (h : L.letters (c :: t) = 0) (h2 : L.two (c :: t) = false) : L.partLen (c :: t) = if L.one (c :: t) then some 1 else none := by
  unfold L.partLen; rw [if_neg (by simp [h]), if_neg (by simp [h2])]
set_option maxHeartbeats 400000 in
theorem partLength_letters (l : L.Bytes) (w : World) (hs : l.length ≤ 4000) (h0 : 0 < L.letters l) : Calls Tryz.prog 63 #[.string (str l)] w (LenPost (L.partLen l) w) := by
  have hm : (str l).size ≤ maxLen := by rw [size_str]; unfold maxLen; omega
  have HP := Lib.hid (partLen_letters h0)
  go_enter Tryz.func63, Tryz.ntmps63
  go_wp2_with (go_at_call 90; refine (countLetters_any _ _ hm).mono ?_; rintro e w' ⟨rfl, rfl⟩)
  go_ret
  exact ⟨rfl, by rw [HP.out]; rfl⟩
theorem partLength_nil (w : World) : Calls Tryz.prog 63 #[.string (str [])] w (LenPost (L.partLen []) w) := by
  have hm : (str []).size ≤ maxLen := by rw [size_str]; unfold maxLen; simp
  have hz : L.letters (bs (str [])) = 0 := by simp [L.letters]
  go_enter Tryz.func63, Tryz.ntmps63
  go_wp2_with (go_at_call 90; refine (countLetters_any _ _ hm).mono ?_; rintro e w' ⟨rfl, rfl⟩)
  go_ret
  exact ⟨rfl, rfl⟩
set_option maxHeartbeats 400000 in
theorem partLength_two (l : L.Bytes) (w : World) (hs : l.length ≤ 4000) (h0 : L.letters l = 0) (hne : l.isEmpty = false) (h2 : L.two l = true) : Calls Tryz.prog 63 #[.string (str l)] w (LenPost (L.partLen l) w) := by
  have hm : (str l).size ≤ maxLen := by rw [size_str]; unfold maxLen; omega
  have HP := Lib.hid (partLen_two h0 h2 hne)
  have ht := take2 l
  have hz : L.letters (bs (str l)) = 0 := by rw [bs_str]; exact h0
  unfold L.two at h2
  rw [Bool.or_eq_true, Bool.or_eq_true] at h2
  rcases h2 with (h2 | h2) | h2
  all_goals
    have h3 := eq_of_beq h2
    clear h2
    rw [h3] at ht
    clear h3
    go_enter Tryz.func63, Tryz.ntmps63
    go_wp2_with (go_at_call 90; refine (countLetters_any _ _ hm).mono ?_; rintro e w' ⟨rfl, rfl⟩)
    go_ret
    exact ⟨rfl, by rw [HP.out]; rfl⟩
set_option maxHeartbeats 400000 in
theorem partLength_one (c : UInt8) (t : L.Bytes) (w : World) (hs : t.length < 4000) (h0 : L.letters (c :: t) = 0) (h2 : L.two (c :: t) = false) : Calls Tryz.prog 63 #[.string (str (c :: t))] w (LenPost (L.partLen (c :: t)) w) := by
  have hm : (str (c :: t)).size ≤ maxLen := by rw [size_str]; simp; unfold maxLen; omega
  have HP := Lib.hid (partLen_one h0 h2)
  have ht := take2 (c :: t)
  have hz : L.letters (bs (str (c :: t))) = 0 := by rw [bs_str]; exact h0
  have e1 : ((c :: t).length : Int) = (t.length : Int) + 1 := by simp
  rw [e1] at ht
  unfold L.two at h2
  simp only [Bool.or_eq_false_iff] at h2
  obtain ⟨⟨h21, h22⟩, h23⟩ := h2
  rw [← ht] at h21 h22 h23
  clear ht e1
  have h1 : (str (c :: t)).extract 0 1 = ⟨#[c]⟩ := by rw [extract_str]; rfl
  have hd : L.digit (bs ⟨#[c]⟩) = (decide ((48 : UInt8) ≤ c) && decide (c < (52 : UInt8))) := rfl
  have hi : decide (0 ≤ Lib.indexByte [58, 61, 44, 59, 60, 43, 45, 42, 40, 41, 123, 125, 91, 93] c) = L.marks.contains c := indexByte_contains _ c
  have ho : L.one (c :: t) = (L.digit (bs ⟨#[c]⟩) || L.marks.contains c) := by rw [hd]; rfl
  rw [ho, ← hi] at HP
  clear ho hd hi
  cases hd : L.digit (bs ⟨#[c]⟩)
  · cases hi : decide (0 ≤ Lib.indexByte [58, 61, 44, 59, 60, 43, 45, 42, 40, 41, 123, 125, 91, 93] c)
    all_goals
      rw [hd, hi] at HP
      go_enter Tryz.func63, Tryz.ntmps63
      go_wp2_with first | (go_at_call 90; refine (countLetters_any _ _ hm).mono ?_; rintro e w' ⟨rfl, rfl⟩) | (go_at_call 91; refine (isDigit_any _ _).mono ?_; rintro e w' ⟨rfl, rfl⟩) | (go_at_call 92; refine (Tryz.strings_Contains_one _ _ _).mono ?_; rintro e w' ⟨rfl, rfl⟩)
    · go_wp2_with (go_at_call 66; refine (must_false _).mono ?_; rintro e w' ⟨rfl, rfl⟩)
      exact ⟨rfl, rfl, by rw [HP.out]; rfl⟩
    · go_wp2_with (go_at_call 66; refine (must_true _).mono ?_; rintro e w' ⟨rfl, rfl⟩)
      go_ret
      exact ⟨rfl, by rw [HP.out]; rfl⟩
  · rw [hd] at HP
    go_enter Tryz.func63, Tryz.ntmps63
    go_wp2_with first | (go_at_call 90; refine (countLetters_any _ _ hm).mono ?_; rintro e w' ⟨rfl, rfl⟩) | (go_at_call 91; refine (isDigit_any _ _).mono ?_; rintro e w' ⟨rfl, rfl⟩) | (go_at_call 66; refine (must_true _).mono ?_; rintro e w' ⟨rfl, rfl⟩)
    go_ret
    exact ⟨rfl, by rw [HP.out]; rfl⟩
theorem partLength_any (l : L.Bytes) (w : World) (hs : l.length ≤ 4000) : Calls Tryz.prog 63 #[.string (str l)] w (LenPost (L.partLen l) w) := by
  rcases Nat.eq_zero_or_pos (L.letters l) with h0 | h0
  · match l, h0 with
    | [], _ => exact partLength_nil w
    | c :: t, h0 =>
      cases h2 : L.two (c :: t)
      · exact partLength_one c t w (by simpa [Nat.lt_iff_add_one_le] using hs) h0 h2
      · exact partLength_two _ w hs h0 rfl h2
  · exact partLength_letters l w hs h0
end Go.Proofs.YtpdbkdcdlafobaaGreatDoor
end
section
namespace Go.Proofs.YtpdbkdcdlafobaaGreatDoor
open Go.RowKit
theorem trimLeft_any (l : L.Bytes) (w : World) : Calls Tryz.prog 62 #[.string (str l), .string ⟨#[32, 9, 10]⟩] w fun e w' => e = .returned (.string (str (l.dropWhile L.blank))) ∧ Below w.heap.size w w' := by
  have h := Go.Proofs.Any.strings_TrimLeft_laid Tryz.lays161 (by kernel_rfl) (str l) ⟨#[32, 9, 10]⟩ w (by decide) (Go.Proofs.ascii_of_all (by decide))
  refine Calls.mono h fun e w' ⟨he, hb⟩ => ⟨?_, hb⟩
  rw [he]
  congr 2
  simp only [Lib.trimLeftS]
  rw [show (str l).data.toList = l from bs_str l]
  have e : (fun c => ([32, 9, 10] : List UInt8).contains c) = L.blank := by
    funext c
    simp only [List.contains_cons, List.contains_nil, Bool.or_false, L.blank, Bool.or_assoc]
  exact congrArg (fun f => (⟨(List.dropWhile f l).toArray⟩ : ByteArray)) e
def malformed : List PanicEntry := [{ v := .iface 186 (.agg #[]), recovered := false }]
/-- The parser at block pb stands at s. -/
def PS (w : World) (pb : Nat) (s : L.St) : Prop := Blk w pb 88 #[.string (str s.part), .string (str s.rest)] ∧ s.part.length ≤ 4000 ∧ s.rest.length ≤ 4000
/-- What a call of the parser comes to: what was read, and where it stands then, or the panic. -/
def PPost {α : Type} (ok : α → Value → World → Prop) (pb : Nat) (r : Option (α × L.St)) (w : World) (e : Ending) (w' : World) : Prop :=
  Frm (· = pb) w w' ∧ match r with
  | some (x, s) => ∃ v, e = .returned v ∧ ok x v w' ∧ PS w' pb s
  | none => e = .panicked malformed
theorem PPost.cases {α : Type} {ok : α → Value → World → Prop} {pb : Nat} {r : Option (α × L.St)} {w w' : World} {e : Ending} (h : PPost ok pb r w e w') :
    (r = none ∧ e = .panicked malformed ∧ Frm (· = pb) w w') ∨ (∃ x s v, r = some (x, s) ∧ e = .returned v ∧ ok x v w' ∧ PS w' pb s ∧ Frm (· = pb) w w') := by
  obtain ⟨hf, h⟩ := h
  match r, h with
  | none, h => exact .inl ⟨rfl, h, hf⟩
  | some (x, s), ⟨v, he, ho, hp⟩ => exact .inr ⟨x, s, v, rfl, he, ho, hp, hf⟩
theorem PPost.bad {α : Type} {ok : α → Value → World → Prop} {pb : Nat} {r : Option (α × L.St)} {w w' : World} (hf : Frm (· = pb) w w') (h : r = none) : PPost ok pb r w (.panicked malformed) w' := by
  subst h; exact ⟨hf, rfl⟩
theorem PPost.good {α : Type} {ok : α → Value → World → Prop} {pb : Nat} {r : Option (α × L.St)} {w w' : World} {v : Value} {x : α} {s : L.St} (hf : Frm (· = pb) w w') (h : r = some (x, s)) (ho : ok x v w') (hp : PS w' pb s) : PPost ok pb r w (.returned v) w' := by
  subst h; exact ⟨hf, v, rfl, ho, hp⟩
/-- A call of the parser within a walk: what it read is hidden from the walk. -/
theorem PPost.call {α : Type} {ok : α → Value → World → Prop} {pb : Nat} {r : Option (α × L.St)} {w : World} {f : FuncId} {args : Array Value} {Φ : Ending → World → Prop}
    (hC : Calls Tryz.prog f args w (PPost ok pb r w)) (bad : ∀ w', r = none → Frm (· = pb) w w' → Φ (.panicked malformed) w')
    (good : ∀ x s v w', Hid (r = some (x, s)) → ok x v w' → PS w' pb s → Frm (· = pb) w w' → Φ (.returned v) w') : Calls Tryz.prog f args w Φ := by
  refine hC.mono fun e w' hp => ?_
  rcases hp.cases with ⟨hn, rfl, hf⟩ | ⟨x, s, v, hn, rfl, ho, hq, hf⟩
  · exact bad w' hn hf
  · exact good x s v w' (Lib.hid hn) ho hq hf
def okU : Unit → Value → World → Prop := fun _ v _ => v = .tuple #[]
def okB : Bool → Value → World → Prop := fun b v _ => v = .bool b
def okS : L.Bytes → Value → World → Prop := fun l v _ => v = .string (str l)
def okI : Int → Value → World → Prop := fun i v _ => v = .int .i64 i
set_option maxHeartbeats 400000 in
theorem next_any (pb : Nat) (s : L.St) (w : World) (h : PS w pb s) : Calls Tryz.prog 36 #[.pointer (some ⟨pb, 0, none⟩)] w (PPost okU pb (L.next s) w) := by
  obtain ⟨p, r⟩ := s
  obtain ⟨h, _, hs⟩ := h
  dsimp only at h hs
  have h1 := h.cell 1
  have hf1 := h.frozen 1
  have hf0 := h.frozen 0
  go_enter Tryz.func36, Tryz.ntmps36
  go_wp2_with fail
  refine (trimLeft_any _ _).mono ?_
  rintro e w1 ⟨rfl, hb1⟩
  have q1 := Blk.below h hb1 h.lt
  have c1 := q1.cell 1
  have c0 := q1.cell 0
  have f1 := q1.frozen 1
  have f0 := q1.frozen 0
  have hl : (r.dropWhile L.blank).length ≤ 4000 := Nat.le_trans (List.Sublist.length_le (List.dropWhile_sublist _)) hs
  have F1 := Lib.hid ((Frm.refl (· = pb) w).below hb1 (Nat.le_refl _))
  have Q1 := Lib.hid (Blk.set_ q1 1 (.string (str (r.dropWhile L.blank))))
  clear h1 hf1 hf0 hs hb1
  go_wp2_with fail
  refine (partLength_any _ _ hl).mono ?_
  rintro e w2 ⟨rfl, rfl⟩
  cases hk : L.partLen (r.dropWhile L.blank) with
  | none => exact ⟨rfl, .bad (F1.out.set_ (fun _ => rfl) _) (by simp [L.next, hk])⟩
  | some k =>
    have hle := L.partLen_le hk
    have hn : L.next ⟨p, r⟩ = some ((), ⟨(r.dropWhile L.blank).take k, (r.dropWhile L.blank).drop k⟩) := by simp [L.next, hk]
    have HN := Lib.hid hn
    clear hn
    go_wp2
    go_end0
    refine .good (((F1.out.set_ (fun _ => rfl) _).set_ (fun _ => rfl) _).set_ (fun _ => rfl) _) HN.out rfl ⟨?_, ?_, ?_⟩
    · have e1 : (str (r.dropWhile L.blank)).extract 0 k = str ((r.dropWhile L.blank).take k) := by rw [extract_str, List.drop_zero, Nat.sub_zero]
      have e2 : (str (r.dropWhile L.blank)).extract k (r.dropWhile L.blank).length = str ((r.dropWhile L.blank).drop k) := by
        rw [extract_str, List.take_of_length_le (by simp)]
      rw [e1, e2]
      exact (Q1.out.set_ 0 (.string (str ((r.dropWhile L.blank).take k)))).set_ 1 (.string (str ((r.dropWhile L.blank).drop k)))
    · simp; omega
    · simp; omega
set_option maxHeartbeats 400000 in
theorem take_any (q : L.Bytes) (pb : Nat) (s : L.St) (w : World) (h : PS w pb s) : Calls Tryz.prog 65 #[.pointer (some ⟨pb, 0, none⟩), .string (str q)] w (PPost okB pb (L.take q s) w) := by
  obtain ⟨p, r⟩ := s
  have h0 := h.1.cell 0
  by_cases hp : p = q
  · have hpq : (p == q) = true := by simpa using hp
    by_cases hq : q = []
    · subst hq; subst hp
      go_enter Tryz.func65, Tryz.ntmps65
      go_wp2_with fail
      go_ret
      exact .good (Frm.refl _ _) (by simp [L.take]) rfl h
    · have hq' : (!List.isEmpty q) = true := by simpa using hq
      have HT : Hid (L.take q ⟨p, r⟩ = (L.next.bind fun _ => .ret true) ⟨p, r⟩) := by simp [Hid, L.take, hp, hq]
      clear hp hq
      go_enter Tryz.func65, Tryz.ntmps65
      go_wp2_with fail
      refine (next_any _ _ _ h).mono ?_
      intro e w1 hp
      rcases hp.cases with ⟨hn, rfl, hf⟩ | ⟨x, s1, v, hn, rfl, rfl, hq, hf⟩
      · exact ⟨rfl, .bad hf (by rw [HT.out]; simp only [L.Rd.bind, hn])⟩
      · have HN := Lib.hid hn
        clear hn
        go_wp2_with fail
        go_ret
        exact .good hf (by rw [HT.out]; simp only [L.Rd.bind, HN.out]; rfl) rfl hq
  · have hpq : (p == q) = false := by simpa using hp
    have HT : Hid (L.take q ⟨p, r⟩ = some (false, ⟨p, r⟩)) := by simp [Hid, L.take, hp]
    clear hp
    go_enter Tryz.func65, Tryz.ntmps65
    go_wp2_with fail
    go_ret
    exact .good (Frm.refl _ _) HT.out rfl h
set_option maxHeartbeats 400000 in
theorem want_any (q : L.Bytes) (pb : Nat) (s : L.St) (w : World) (h : PS w pb s) : Calls Tryz.prog 38 #[.pointer (some ⟨pb, 0, none⟩), .string (str q)] w (PPost okU pb (L.want q s) w) := by
  go_enter Tryz.func38, Tryz.ntmps38
  go_wp2_with fail
  refine (take_any _ _ _ _ h).mono ?_
  intro e w1 hp
  rcases hp.cases with ⟨hn, rfl, hf⟩ | ⟨x, s1, v, hn, rfl, rfl, hq, hf⟩
  · exact ⟨rfl, .bad hf (by simp only [L.want, L.Rd.bind, hn])⟩
  · have HN := Lib.hid hn
    clear hn
    cases x
    · go_wp2_with (go_at_call 66; refine (must_false _).mono ?_; rintro e w' ⟨rfl, rfl⟩)
      exact ⟨rfl, .bad hf (by simp only [L.want, L.Rd.bind, HN.out]; rfl)⟩
    · go_wp2_with (go_at_call 66; refine (must_true _).mono ?_; rintro e w' ⟨rfl, rfl⟩)
      go_end0
      exact .good hf (by simp only [L.want, L.Rd.bind, HN.out]; rfl) rfl hq
set_option maxHeartbeats 400000 in
theorem name_any (pb : Nat) (s : L.St) (w : World) (h : PS w pb s) : Calls Tryz.prog 93 #[.pointer (some ⟨pb, 0, none⟩)] w (PPost okS pb (L.getName s) w) := by
  have h0 := h.1.cell 0
  have hm : (str s.part).size ≤ maxLen := by rw [size_str]; have := h.2.1; unfold maxLen; omega
  have HG : Hid (L.getName s = if L.name s.part then (L.next.bind fun _ => .ret s.part) s else none) := rfl
  go_enter Tryz.func93, Tryz.ntmps93
  go_wp2_with fail
  refine (validName_any _ _ hm).mono ?_
  rintro e w1 ⟨rfl, rfl⟩
  rw [bs_str]
  cases hn : L.name s.part
  · rw [hn] at HG
    go_wp2_with (go_at_call 66; refine (must_false _).mono ?_; rintro e w' ⟨rfl, rfl⟩)
    exact ⟨rfl, .bad (Frm.refl _ _) HG.out⟩
  · rw [hn] at HG
    clear hn
    go_wp2_with (go_at_call 66; refine (must_true _).mono ?_; rintro e w' ⟨rfl, rfl⟩)
    refine (next_any _ _ _ h).mono ?_
    intro e w1 hp
    rcases hp.cases with ⟨hn, rfl, hf⟩ | ⟨x, s1, v, hn, rfl, rfl, hq, hf⟩
    · exact ⟨rfl, .bad hf (by rw [HG.out]; simp only [L.Rd.bind, hn]; rfl)⟩
    · have HN := Lib.hid hn
      clear hn
      go_wp2_with fail
      go_ret
      exact .good hf (by rw [HG.out]; simp only [L.Rd.bind, HN.out]; rfl) rfl hq
end Go.Proofs.YtpdbkdcdlafobaaGreatDoor
end
