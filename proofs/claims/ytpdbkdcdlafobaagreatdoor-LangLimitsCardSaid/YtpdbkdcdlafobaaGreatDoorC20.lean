/- The writer's add, the words of types and operators; blocks and rows of terms. The writer at rows, blocks and calls. The writer at calls. Contracts of the program's functions, with no condition beyond what each theorem states. -/
import Derived.Test.YtpdbkdcdlafobaaGreatDoorC19
section
namespace Go.Proofs.YtpdbkdcdlafobaaGreatDoor
open Go.RowKit
/-- What a call of the writer comes to: what it holds then. -/
def WPost (b : Nat) (l : L.Bytes) (w : World) (e : Ending) (w' : World) : Prop := e = .returned (.tuple #[]) ∧ WrAt w' b l ∧ Kw b w w'
theorem flat_take {l : List L.Bytes} {k : Nat} (hk : k < l.length) : (l.take (k + 1)).flatten = (l.take k).flatten ++ l[k] := by
  rw [List.take_succ_eq_append_getElem hk, List.flatten_append]; simp only [List.flatten_cons, List.flatten_nil, List.append_nil]
theorem flat_le (l : List L.Bytes) (k : Nat) : (l.take k).flatten.length ≤ l.flatten.length := by
  have : l.flatten = (l.take k).flatten ++ (l.drop k).flatten := by rw [← List.flatten_append, List.take_append_drop]
  rw [this, List.length_append]; omega
set_option maxRecDepth 100000 in
set_option maxHeartbeats 1000000 in
theorem add_any {w : World} {b : Nat} {l : L.Bytes} {sl : Value} {ps : List L.Bytes} (h : WrAt w b l) (hp : Strs w sl ps) (hlen : l.length + ps.flatten.length ≤ 1000000000) (hn : ps.length ≤ 1000000) :
    Calls Tryz.prog 56 #[.pointer (some ⟨b, 0, none⟩), sl] w (WPost b (l ++ ps.flatten) w) := by
  obtain ⟨Ad, c, rfl, -⟩ := own_cells hp
  have HP := Lib.hid hp
  have HW := Lib.hid h
  clear hp h
  go_enter Tryz.func56, Tryz.ntmps56
  go_wp2_with fail
  go_loopg [8] (ps.length + 1) (fun n i wr => ∃ k : Nat, k ≤ ps.length ∧ n = ps.length + 1 - k ∧ i = .int .i64 k ∧ Hid (WrAt wr b (l ++ (ps.take k).flatten)) ∧ Hid (Kw b w wr))
  case atStart => exact ⟨0, Nat.zero_le _, rfl, rfl, show WrAt _ _ _ by simpa using HW.out, Kw.refl _⟩
  case round =>
    obtain ⟨k, hk, rfl, rfl, HWk, HK⟩ := hrel
    by_cases hlt : k < ps.length
    · obtain ⟨Ad', c', hsl, hcs⟩ := own_cells ((HK.out.2 9 (by decide) (by decide)).row HP.out)
      injection hsl with e1 _ e2
      subst e1 e2
      obtain ⟨g, rfl, hcu⟩ := hcs k (.string (str ps[k])) (by simp [strs, hlt])
      have HT := Lib.hid (flat_take hlt)
      have hb1 := flat_le ps (k + 1)
      rw [flat_take hlt, List.length_append] at hb1
      clear hcs
      generalize ps[k] = s at *
      go_wp2_with fail
      refine (writeString_any HWk.out s (by rw [List.length_append]; omega)).mono ?_
      rintro _ w2 ⟨⟨q, rfl⟩, h2, k2⟩
      have HW2 := Lib.hid h2
      have HK2 := Lib.hid (HK.out.trans k2)
      clear h2 k2 hcu
      go_wp2_with fail
      go_roundg (ps.length + 1 - (k + 1))
      case measure => omega
      case rel => exact ⟨k + 1, by omega, rfl, by go_num, show WrAt _ _ _ by rw [HT.out, ← List.append_assoc]; exact HW2.out, HK2.out⟩
    · have ek : k = ps.length := by omega
      subst ek
      rw [List.take_length] at HWk
      go_wp2_with fail
      go_end0
      exact ⟨rfl, HWk.out, HK.out⟩
theorem add_lit {w : World} {b : Nat} {l : L.Bytes} (h : WrAt w b l) (ps : List L.Bytes) {n : Nat} (hn : w.heap.size = n) (hlen : l.length + ps.flatten.length ≤ 1000000000) (hp : ps.length ≤ 3) :
    Calls Tryz.prog 56 #[.pointer (some ⟨b, 0, none⟩), .slice (some ⟨n, 0, none⟩) ps.length ps.length] (w.alloc (.cells (strs ps).toArray 9)) (WPost b (l ++ ps.flatten) w) := by
  subst hn
  have F := (Frm.refl (fun _ => False) w).alloc (.cells (strs ps).toArray 9)
  refine (add_any (h.frm F) (own_new w 9 0 (strs ps) ps.length (by simp [strs]) (by unfold maxLen; omega) (Nat.zero_le _)) hlen (by omega)).mono ?_
  rintro e w' ⟨rfl, h1, h2⟩
  exact ⟨rfl, h1, (Kw.frm F).trans h2⟩
theorem typeWord_any (t : Int) (w : World) : Calls Tryz.prog 58 #[.int .i64 t] w fun e w' => e = .returned (.string (str (L.typeWord t))) ∧ w = w' := by
  by_cases h0 : t = 0
  · subst h0
    go_enter Tryz.func58, Tryz.ntmps58
    go_wp2_with fail
    go_ret
    exact ⟨rfl, rfl⟩
  by_cases h1 : t = 1
  · subst h1
    go_enter Tryz.func58, Tryz.ntmps58
    go_wp2_with fail
    go_ret
    exact ⟨rfl, rfl⟩
  have e : L.typeWord t = [118, 97, 108] := by simp [L.typeWord, h0, h1]
  have HE := Lib.hid e
  clear e
  go_enter Tryz.func58, Tryz.ntmps58
  go_wp2_with fail
  go_ret
  exact ⟨by rw [HE.out]; rfl, rfl⟩
theorem operator_any (k : Int) (w : World) : Calls Tryz.prog 119 #[.int .i64 k] w fun e w' => e = .returned (.tuple #[.string (str (L.mark k)), .int .i64 (L.rank k)]) ∧ w = w' := by
  by_cases h0 : k = 15
  · subst h0
    go_enter Tryz.func119, Tryz.ntmps119
    go_wp2_with fail
    go_ret2
    exact ⟨rfl, rfl⟩
  by_cases h1 : k = 16
  · subst h1
    go_enter Tryz.func119, Tryz.ntmps119
    go_wp2_with fail
    go_ret2
    exact ⟨rfl, rfl⟩
  by_cases h2 : k = 12
  · subst h2
    go_enter Tryz.func119, Tryz.ntmps119
    go_wp2_with fail
    go_ret2
    exact ⟨rfl, rfl⟩
  by_cases h3 : k = 13
  · subst h3
    go_enter Tryz.func119, Tryz.ntmps119
    go_wp2_with fail
    go_ret2
    exact ⟨rfl, rfl⟩
  have e : L.mark k = [42] := by simp [L.mark, h0, h1, h2, h3]
  have e' : L.rank k = 2 := by simp [L.rank, h0, h1, h2, h3]
  have HE := Lib.hid e
  have HE' := Lib.hid e'
  clear e e'
  go_enter Tryz.func119, Tryz.ntmps119
  go_wp2_with fail
  go_ret2
  exact ⟨by rw [HE.out, HE'.out]; rfl, rfl⟩
/-- The contract of the writer at a term. -/
def TmOk (b : Nat) (t : L.Tm) : Prop := ∀ (w : World) (l : L.Bytes) (v : Value), WrAt w b l → Rep w (· < b) t v → l.length + (L.tx t).length ≤ 1000000000 →
  Calls Tryz.prog 59 #[.pointer (some ⟨b, 0, none⟩), v] w (WPost b (l ++ L.tx t) w)
theorem Rep.kw {w w' : World} {b : Nat} {A : Nat → Prop} {t : L.Tm} {v : Value} (h : Rep w A t v) (k : Kw b w w') : Rep w' A t v := h.keepT (k.2 _ (by decide) (by decide)) (k.2 _ (by decide) (by decide))
theorem RepL.kw {w w' : World} {b : Nat} {A : Nat → Prop} {t : List L.Tm} {v : List Value} (h : RepL w A t v) (k : Kw b w w') : RepL w' A t v := h.keepT (k.2 _ (by decide) (by decide)) (k.2 _ (by decide) (by decide))
theorem brack_one {t : L.Tm} (h : L.typeOf t = 1) (x : L.Bytes) : L.brack t x = [91, 32] ++ (x ++ [32, 93]) := by simp [L.brack, h]
theorem brack_no {t : L.Tm} (h : ¬ L.typeOf t = 1) (x : L.Bytes) : L.brack t x = [123, 32] ++ (x ++ [32, 125]) := by simp [L.brack, h]
set_option maxRecDepth 100000 in
set_option maxHeartbeats 1000000 in
theorem block_ok {b : Nat} {t : L.Tm} (ht : TmOk b t) {w : World} {l : L.Bytes} {v : Value} (h : WrAt w b l) (hr : Rep w (· < b) t v) (hlen : l.length + (L.brack t (L.tx t)).length ≤ 1000000000) :
    Calls Tryz.prog 117 #[.pointer (some ⟨b, 0, none⟩), v] w (WPost b (l ++ L.brack t (L.tx t)) w) := by
  have HW := Lib.hid h
  have HR := Lib.hid hr
  have HT := Lib.hid ht
  obtain ⟨T, x, rfl⟩ := Rep.form hr
  clear h hr ht
  go_enter Tryz.func117, Tryz.ntmps117
  go_wp2_with fail
  refine (typeOf_any HR.out).mono ?_
  rintro _ w1 ⟨rfl, f1⟩
  have HW1 := Lib.hid (HW.out.frm f1)
  have HK1 : Hid (Kw b w w1) := Kw.frm f1
  have HR1 := Lib.hid (HR.out.kw HK1.out)
  clear f1
  by_cases h1 : L.typeOf t = 1
  · have HB := Lib.hid (brack_one h1 (L.tx t))
    have hl : l.length + ((L.tx t).length + 4) ≤ 1000000000 := by rw [HB.out] at hlen; simp at hlen; omega
    clear hlen
    go_wp2_with fail
    refine (add_lit HW1.out [[91, 32]] rfl (by simp; omega) (by simp)).mono ?_
    rintro _ w2 ⟨rfl, h2, k2⟩
    have HW2 := Lib.hid h2
    have HR2 := Lib.hid (HR1.out.kw k2)
    have HK2 := Lib.hid (HK1.out.trans k2)
    clear h2 k2
    go_wp2_with fail
    refine (HT.out _ _ _ HW2.out HR2.out (by simp; omega)).mono ?_
    rintro _ w3 ⟨rfl, h3, k3⟩
    have HW3 := Lib.hid h3
    have HK3 := Lib.hid (HK2.out.trans k3)
    clear h3 k3
    go_wp2_with fail
    refine (add_lit HW3.out [[32, 93]] rfl (by simp; omega) (by simp)).mono ?_
    rintro _ w4 ⟨rfl, h4, k4⟩
    have HW4 := Lib.hid h4
    have HK4 := Lib.hid (HK3.out.trans k4)
    clear h4 k4
    go_wp2_with fail
    go_end0
    exact ⟨rfl, by rw [HB.out]; simpa using HW4.out, HK4.out⟩
  · have HB := Lib.hid (brack_no h1 (L.tx t))
    have hl : l.length + ((L.tx t).length + 4) ≤ 1000000000 := by rw [HB.out] at hlen; simp at hlen; omega
    clear hlen
    go_wp2_with fail
    refine (add_lit HW1.out [[123, 32]] rfl (by simp; omega) (by simp)).mono ?_
    rintro _ w2 ⟨rfl, h2, k2⟩
    have HW2 := Lib.hid h2
    have HR2 := Lib.hid (HR1.out.kw k2)
    have HK2 := Lib.hid (HK1.out.trans k2)
    clear h2 k2
    go_wp2_with fail
    refine (HT.out _ _ _ HW2.out HR2.out (by simp; omega)).mono ?_
    rintro _ w3 ⟨rfl, h3, k3⟩
    have HW3 := Lib.hid h3
    have HK3 := Lib.hid (HK2.out.trans k3)
    clear h3 k3
    go_wp2_with fail
    refine (add_lit HW3.out [[32, 125]] rfl (by simp; omega) (by simp)).mono ?_
    rintro _ w4 ⟨rfl, h4, k4⟩
    have HW4 := Lib.hid h4
    have HK4 := Lib.hid (HK3.out.trans k4)
    clear h4 k4
    go_wp2_with fail
    go_end0
    exact ⟨rfl, by rw [HB.out]; simpa using HW4.out, HK4.out⟩
end Go.Proofs.YtpdbkdcdlafobaaGreatDoor
end
section
namespace Go.Proofs.YtpdbkdcdlafobaaGreatDoor
namespace L
def blks (ts : List Tm) : Bytes := ts.flatMap fun t => 32 :: brack t (tx t)
theorem txRow_snoc (t : Tm) : ∀ l : List Tm, txRow (l ++ [t]) = txRow l ++ ((if l = [] then [] else [59, 32]) ++ tx t)
  | [] => by simp [txRow, txRow']
  | a :: l => by
    have h : ∀ l : List Tm, txRow' (l ++ [t]) = txRow' l ++ ([59, 32] ++ tx t) := by
      intro l
      induction l with
      | nil => simp [txRow']
      | cons x l ih => simp only [List.cons_append, txRow', ih, List.append_assoc]
    simp only [List.cons_append, txRow, h, List.append_assoc]; simp
def txArg (t : Tm) : Bytes := if typeOf t = 0 then brack t (tx t) else tx t
theorem txArgs_snoc (t : Tm) : ∀ l : List Tm, txArgs (l ++ [t]) = txArgs l ++ ((if l = [] then [] else [44, 32]) ++ txArg t)
  | [] => by simp [txArgs, txArgs', txArg]
  | a :: l => by
    have h : ∀ l : List Tm, txArgs' (l ++ [t]) = txArgs' l ++ ([44, 32] ++ txArg t) := by
      intro l
      induction l with
      | nil => simp [txArgs', txArg]
      | cons x l ih => simp only [List.cons_append, txArgs', ih, List.append_assoc]
    simp only [List.cons_append, txArgs, h, List.append_assoc]; simp
theorem txRow_le (l : List Tm) (k : Nat) : (txRow (l.take k)).length ≤ (txRow l).length := by
  induction hk : l.length - k generalizing k with
  | zero => rw [List.take_of_length_le (by omega)]; exact Nat.le_refl _
  | succ n ih =>
    have hlt : k < l.length := by omega
    have := ih (k + 1) (by omega)
    rw [List.take_succ_eq_append_getElem hlt, txRow_snoc, List.length_append] at this; omega
theorem txArgs_le (l : List Tm) (k : Nat) : (txArgs (l.take k)).length ≤ (txArgs l).length := by
  induction hk : l.length - k generalizing k with
  | zero => rw [List.take_of_length_le (by omega)]; exact Nat.le_refl _
  | succ n ih =>
    have hlt : k < l.length := by omega
    have := ih (k + 1) (by omega)
    rw [List.take_succ_eq_append_getElem hlt, txArgs_snoc, List.length_append] at this; omega
theorem blks_take {l : List Tm} {k : Nat} (hk : k < l.length) : blks (l.take (k + 1)) = blks (l.take k) ++ 32 :: brack l[k] (tx l[k]) := by
  rw [blks, List.take_succ_eq_append_getElem hk, List.flatMap_append]; simp [blks]
theorem blks_le (l : List Tm) (k : Nat) : (blks (l.take k)).length ≤ (blks l).length := by
  have : blks l = blks (l.take k) ++ blks (l.drop k) := by rw [blks, blks, blks, ← List.flatMap_append, List.take_append_drop]
  rw [this, List.length_append]; omega
end L
open Go.RowKit
set_option maxRecDepth 100000 in
set_option maxHeartbeats 1000000 in
theorem blocks_ok {b : Nat} {ts : List L.Tm} (ht : ∀ t ∈ ts, TmOk b t) {w : World} {l : L.Bytes} {sl : Value} {vs : List Value} (h : WrAt w b l) (ho : w.ownsRow 0 34 1 sl ts.length vs) (hr : RepL w (· < b) ts vs) (hlen : l.length + (L.blks ts).length ≤ 1000000000) (hn : ts.length ≤ 1000000) :
    Calls Tryz.prog 81 #[.pointer (some ⟨b, 0, none⟩), sl] w (WPost b (l ++ L.blks ts) w) := by
  obtain ⟨Ad, c, rfl, -⟩ := own_cells ho
  have HO := Lib.hid ho
  have HR := Lib.hid hr
  have HW := Lib.hid h
  have HT := Lib.hid ht
  clear ho hr h ht
  go_enter Tryz.func81, Tryz.ntmps81
  go_wp2_with fail
  go_loopg [8] (ts.length + 1) (fun n i wr => ∃ k : Nat, k ≤ ts.length ∧ n = ts.length + 1 - k ∧ i = .int .i64 k ∧ Hid (WrAt wr b (l ++ L.blks (ts.take k))) ∧ Hid (Kw b w wr))
  case atStart => exact ⟨0, Nat.zero_le _, rfl, rfl, show WrAt _ _ _ by simpa [L.blks] using HW.out, Kw.refl _⟩
  case round =>
    obtain ⟨k, hk, rfl, rfl, HWk, HK⟩ := hrel
    by_cases hlt : k < ts.length
    · obtain ⟨u, hu, hru⟩ := HR.out.at_ hlt
      obtain ⟨Ad', c', hsl, hcs⟩ := own_cells ((HK.out.2 34 (by decide) (by decide)).row HO.out)
      injection hsl with e1 _ e2
      subst e1 e2
      obtain ⟨g, rfl, hcu⟩ := hcs k u hu
      have HRU := Lib.hid (hru.kw HK.out)
      obtain ⟨T, x, rfl⟩ := Rep.form hru
      have HTk := Lib.hid (HT.out _ (List.getElem_mem hlt))
      have HB := Lib.hid (L.blks_take hlt)
      have hb1 := L.blks_le ts (k + 1)
      rw [L.blks_take hlt, List.length_append, List.length_cons] at hb1
      clear hcs hru hu
      generalize ts[k] = t at *
      go_wp2_with fail
      refine (add_lit HWk.out [[32]] rfl (by simp; omega) (by simp)).mono ?_
      rintro _ w2 ⟨rfl, h2, k2⟩
      have HW2 := Lib.hid h2
      have HR2 := Lib.hid (HRU.out.kw k2)
      have HK2 := Lib.hid (HK.out.trans k2)
      clear h2 k2 hcu
      go_wp2_with fail
      refine (block_ok HTk.out HW2.out HR2.out (by simp; omega)).mono ?_
      rintro _ w3 ⟨rfl, h3, k3⟩
      have HW3 := Lib.hid h3
      have HK3 := Lib.hid (HK2.out.trans k3)
      clear h3 k3
      go_wp2_with fail
      go_roundg (ts.length + 1 - (k + 1))
      case measure => omega
      case rel => exact ⟨k + 1, by omega, rfl, by go_num, show WrAt _ _ _ by rw [HB.out]; simpa using HW3.out, HK3.out⟩
    · have ek : k = ts.length := by omega
      subst ek
      rw [List.take_length] at HWk
      go_wp2_with fail
      go_end0
      exact ⟨rfl, HWk.out, HK.out⟩
set_option maxRecDepth 100000 in
set_option maxHeartbeats 1000000 in
theorem row_ok {b : Nat} {ts : List L.Tm} (ht : ∀ t ∈ ts, TmOk b t) {w : World} {l : L.Bytes} {sl : Value} {vs : List Value} (h : WrAt w b l) (ho : w.ownsRow 0 34 1 sl ts.length vs) (hr : RepL w (· < b) ts vs) (hlen : l.length + (L.txRow ts).length ≤ 1000000000) (hn : ts.length ≤ 9223372036854775807) :
    Calls Tryz.prog 80 #[.pointer (some ⟨b, 0, none⟩), .agg #[sl]] w (WPost b (l ++ L.txRow ts) w) := by
  obtain ⟨Ad, c, rfl, -⟩ := own_cells ho
  have HO := Lib.hid ho
  have HR := Lib.hid hr
  have HW := Lib.hid h
  have HT := Lib.hid ht
  have F0 := Lib.hid ((Frm.refl (fun _ => False) w).alloc (.cells #[.slice Ad ts.length c] 111))
  clear ho hr h ht
  go_enter Tryz.func80, Tryz.ntmps80
  go_wp2_with fail
  go_loopg [9] (ts.length + 1) (fun n i wr => ∃ k : Nat, k ≤ ts.length ∧ n = ts.length + 1 - k ∧ i = .int .i64 k ∧ Hid (WrAt wr b (l ++ L.txRow (ts.take k))) ∧ Hid (Kw b w wr))
  case atStart => exact ⟨0, Nat.zero_le _, rfl, rfl, show WrAt _ _ _ by simpa [L.txRow] using HW.out.frm F0.out, Kw.frm F0.out⟩
  case round =>
    obtain ⟨k, hk, rfl, rfl, HWk, HK⟩ := hrel
    by_cases hlt : k < ts.length
    · obtain ⟨u, hu, hru⟩ := HR.out.at_ hlt
      obtain ⟨Ad', c', hsl, hcs⟩ := own_cells ((HK.out.2 34 (by decide) (by decide)).row HO.out)
      injection hsl with e1 _ e2
      subst e1 e2
      obtain ⟨g, rfl, hcu⟩ := hcs k u hu
      have HRU := Lib.hid (hru.kw HK.out)
      obtain ⟨T, x, rfl⟩ := Rep.form hru
      have HTk := Lib.hid (HT.out _ (List.getElem_mem hlt))
      have htk := L.txRow_snoc ts[k] (ts.take k)
      rw [← List.take_succ_eq_append_getElem hlt] at htk
      have hb1 := L.txRow_le ts (k + 1)
      rw [htk, List.length_append] at hb1
      clear hcs hru hu
      generalize ts[k] = t at *
      by_cases h0 : k = 0
      · subst h0
        have HB : Hid (L.txRow (ts.take 1) = L.txRow (ts.take 0) ++ L.tx t) := show _ = _ by rw [htk]; simp
        simp only [List.take_zero, if_true, List.nil_append] at hb1
        clear htk
        go_wp2_with fail
        refine (HTk.out _ _ _ HWk.out HRU.out (by rw [List.length_append, List.take_zero]; omega)).mono ?_
        rintro _ w3 ⟨rfl, h3, k3⟩
        have HW3 := Lib.hid h3
        have HK3 := Lib.hid (HK.out.trans k3)
        clear h3 k3 hcu
        go_wp2_with fail
        go_roundg (ts.length + 1 - (0 + 1))
        case measure => omega
        case rel => exact ⟨1, by omega, rfl, by go_num, show WrAt _ _ _ by rw [HB.out]; simpa using HW3.out, HK3.out⟩
      · have hne : ts.take k ≠ [] := by intro h; have := congrArg List.length h; rw [List.length_take, List.length_nil] at this; omega
        have HB : Hid (L.txRow (ts.take (k + 1)) = L.txRow (ts.take k) ++ ([59, 32] ++ L.tx t)) := show _ = _ by rw [htk, if_neg hne]
        rw [if_neg hne, List.length_append] at hb1
        simp only [List.length_cons, List.length_nil] at hb1
        have hk0 : (0 : Int) < (k : Int) := by omega
        clear htk hne
        go_wp2_with fail
        refine (add_lit HWk.out [[59, 32]] rfl (by simp; omega) (by simp)).mono ?_
        rintro _ w2 ⟨rfl, h2, k2⟩
        have HW2 := Lib.hid h2
        have HR2 := Lib.hid (HRU.out.kw k2)
        have HK2 := Lib.hid (HK.out.trans k2)
        clear h2 k2 hcu
        go_wp2_with fail
        refine (HTk.out _ _ _ HW2.out HR2.out (by simp; omega)).mono ?_
        rintro _ w3 ⟨rfl, h3, k3⟩
        have HW3 := Lib.hid h3
        have HK3 := Lib.hid (HK2.out.trans k3)
        clear h3 k3
        go_wp2_with fail
        go_roundg (ts.length + 1 - (k + 1))
        case measure => omega
        case rel => exact ⟨k + 1, by omega, rfl, by go_num, show WrAt _ _ _ by rw [HB.out]; simpa using HW3.out, HK3.out⟩
    · have ek : k = ts.length := by omega
      subst ek
      rw [List.take_length] at HWk
      go_wp2_with fail
      go_end0
      exact ⟨rfl, HWk.out, HK.out⟩
end Go.Proofs.YtpdbkdcdlafobaaGreatDoor
end
section
namespace Go.Proofs.YtpdbkdcdlafobaaGreatDoor
open Go.RowKit
theorem txArg_com {t : L.Tm} (h : L.typeOf t = 0) : L.txArg t = L.brack t (L.tx t) := if_pos h
theorem txArg_exp {t : L.Tm} (h : ¬ L.typeOf t = 0) : L.txArg t = L.tx t := if_neg h
set_option maxRecDepth 100000 in
set_option maxHeartbeats 2000000 in
theorem call_ok {b : Nat} (of : Int) (nm : L.Bytes) {ts : List L.Tm} (ht : ∀ t ∈ ts, TmOk b t) {w : World} {l : L.Bytes} {sl : Value} {vs : List Value} (h : WrAt w b l) (ho : w.ownsRow 0 34 1 sl ts.length vs) (hr : RepL w (· < b) ts vs) (hlen : l.length + (L.tx (.call of nm ts)).length ≤ 1000000000) (hn : ts.length ≤ 9223372036854775807) :
    Calls Tryz.prog 82 #[.pointer (some ⟨b, 0, none⟩), .agg #[.int .i64 of, .string (str nm), sl]] w (WPost b (l ++ L.tx (.call of nm ts)) w) := by
  obtain ⟨Ad, c, rfl, -⟩ := own_cells ho
  have HO := Lib.hid ho
  have HR := Lib.hid hr
  have HT := Lib.hid ht
  have F0 := (Frm.refl (fun _ => False) w).alloc (.cells #[.int .i64 of, .string (str nm), .slice Ad ts.length c] 106)
  have HW := Lib.hid (h.frm F0)
  have HK : Hid (Kw b w (w.alloc (.cells #[.int .i64 of, .string (str nm), .slice Ad ts.length c] 106))) := Kw.frm F0
  have HB := Lib.hid (Blk.new w 106 #[.int .i64 of, .string (str nm), .slice Ad ts.length c])
  have HX : Hid (L.tx (.call of nm ts) = nm ++ (if ts.length = 0 then [] else [40] ++ (L.txArgs ts ++ [41]))) := show _ = _ by rw [L.tx]
  have hlen2 : l.length + (nm.length + (L.txArgs ts).length) ≤ 1000000000 - (if ts.length = 0 then 0 else 2) := by
    rw [HX.out] at hlen
    by_cases hz : ts.length = 0
    · have : ts = [] := List.eq_nil_of_length_eq_zero hz
      subst this
      simp [L.txArgs] at hlen ⊢; omega
    · rw [if_neg hz] at hlen ⊢; simp at hlen; omega
  clear ho hr h ht F0 hlen
  go_enter Tryz.func82, Tryz.ntmps82
  go_wp2_with fail
  refine (add_lit HW.out [nm] (by simp) (by simp; omega) (by simp)).mono ?_
  rintro _ w2 ⟨rfl, h2, k2⟩
  have HW2 := Lib.hid h2
  have HK2 := Lib.hid (HK.out.trans k2)
  have HB2 := (k2.2 106 (by decide) (by decide) _ _ HB.out).trans HB.out
  have g2 : w2.cell? ⟨w.heap.size, 2, none⟩ = _ := (show Blk w2 w.heap.size 106 _ from HB2).cell 2
  clear h2 k2
  by_cases hz : ts.length = 0
  · have HY : Hid (L.tx (.call of nm ts) = nm) := show _ = _ by rw [HX.out, if_pos hz]; simp
    have HZ : Hid (ts = []) := List.eq_nil_of_length_eq_zero hz
    clear HB2
    go_wp2_with fail
    go_end0
    exact ⟨rfl, by rw [HY.out]; simpa using HW2.out, HK2.out⟩
  · rw [if_neg hz] at hlen2
    have HY : Hid (L.tx (.call of nm ts) = nm ++ ([40] ++ (L.txArgs ts ++ [41]))) := show _ = _ by rw [HX.out, if_neg hz]
    have HB2' := Lib.hid HB2
    clear HB2
    go_wp2_with fail
    refine (add_lit HW2.out [[40]] rfl (by simp; omega) (by simp)).mono ?_
    rintro _ w3 ⟨rfl, h3, k3⟩
    have HW3 := Lib.hid h3
    have HK3 := Lib.hid (HK2.out.trans k3)
    have HB3 := (k3.2 106 (by decide) (by decide) _ _ HB2'.out).trans HB2'.out
    have g3 : w3.cell? ⟨w.heap.size, 2, none⟩ = _ := (show Blk w3 w.heap.size 106 _ from HB3).cell 2
    clear h3 k3 HB3 g2
    go_wp2_with fail
    go_loopg [21] (ts.length + 1) (fun n i wr => ∃ k : Nat, k ≤ ts.length ∧ n = ts.length + 1 - k ∧ i = .int .i64 k ∧ Hid (WrAt wr b (l ++ (nm ++ ([40] ++ L.txArgs (ts.take k))))) ∧ Hid (Kw b w wr))
    case atStart => exact ⟨0, Nat.zero_le _, rfl, rfl, show WrAt _ _ _ by simpa [L.txArgs] using HW3.out, HK3.out⟩
    case round =>
      obtain ⟨k, hk, rfl, rfl, HWk, HKk⟩ := hrel
      by_cases hlt : k < ts.length
      · obtain ⟨u, hu, hru⟩ := HR.out.at_ hlt
        obtain ⟨Ad', c', hsl, hcs⟩ := own_cells ((HKk.out.2 34 (by decide) (by decide)).row HO.out)
        injection hsl with e1 _ e2
        subst e1 e2
        obtain ⟨g, rfl, hcu⟩ := hcs k u hu
        have HRU := Lib.hid (hru.kw HKk.out)
        obtain ⟨T, x, rfl⟩ := Rep.form hru
        have HTk := Lib.hid (HT.out _ (List.getElem_mem hlt))
        have htk := L.txArgs_snoc ts[k] (ts.take k)
        rw [← List.take_succ_eq_append_getElem hlt] at htk
        have hb1 := L.txArgs_le ts (k + 1)
        rw [htk, List.length_append] at hb1
        clear hcs hru hu g3
        generalize ts[k] = t at *
        by_cases h0 : k = 0
        · subst h0
          have HS : Hid (L.txArgs (ts.take 1) = L.txArgs (ts.take 0) ++ L.txArg t) := show _ = _ by rw [htk]; simp
          simp only [List.take_zero, if_true, List.nil_append] at hb1
          clear htk
          go_wp2_with fail
          have HWa := HWk
          have HKa := HKk
          have HRa := HRU
          have hba : l.length + (nm.length + (1 + ((L.txArgs (ts.take 0)).length + (L.txArg t).length))) ≤ 1000000000 := by rw [List.take_zero]; omega
          refine (typeOf_any HRa.out).mono ?_
          rintro _ w4 ⟨rfl, f4⟩
          have HW4 := Lib.hid (HWa.out.frm f4)
          have HK4 := Lib.hid (HKa.out.trans (Kw.frm f4))
          have HR4 := Lib.hid (HRa.out.kw (Kw.frm (b := b) f4))
          clear f4 hcu
          by_cases hty : L.typeOf t = 0
          · have HA := Lib.hid (txArg_com hty)
            rw [HA.out] at HS hba
            go_wp2_with fail
            refine (block_ok HTk.out HW4.out HR4.out (by simp at hba ⊢; omega)).mono ?_
            rintro _ w5 ⟨rfl, h5, k5⟩
            have HW5 := Lib.hid h5
            have HK5 := Lib.hid (HK4.out.trans k5)
            clear h5 k5
            go_wp2_with fail
            go_roundg (ts.length + 1 - (0 + 1))
            case measure => omega
            case rel => exact ⟨0 + 1, by omega, rfl, by go_num, show WrAt _ _ _ by rw [HS.out]; simpa using HW5.out, HK5.out⟩
          · have HA := Lib.hid (txArg_exp hty)
            rw [HA.out] at HS hba
            go_wp2_with fail
            refine (HTk.out _ _ _ HW4.out HR4.out (by simp at hba ⊢; omega)).mono ?_
            rintro _ w5 ⟨rfl, h5, k5⟩
            have HW5 := Lib.hid h5
            have HK5 := Lib.hid (HK4.out.trans k5)
            clear h5 k5
            go_wp2_with fail
            go_roundg (ts.length + 1 - (0 + 1))
            case measure => omega
            case rel => exact ⟨0 + 1, by omega, rfl, by go_num, show WrAt _ _ _ by rw [HS.out]; simpa using HW5.out, HK5.out⟩
        · have hne : ts.take k ≠ [] := by intro h; have := congrArg List.length h; rw [List.length_take, List.length_nil] at this; omega
          have HS : Hid (L.txArgs (ts.take (k + 1)) = L.txArgs (ts.take k) ++ ([44, 32] ++ L.txArg t)) := show _ = _ by rw [htk, if_neg hne]
          rw [if_neg hne, List.length_append] at hb1
          simp only [List.length_cons, List.length_nil] at hb1
          have hk0 : (0 : Int) < (k : Int) := by omega
          clear htk hne
          go_wp2_with fail
          refine (add_lit HWk.out [[44, 32]] rfl (by simp; omega) (by simp)).mono ?_
          rintro _ wa ⟨rfl, ha, ka⟩
          have HWa := Lib.hid ha
          have HRa := Lib.hid (HRU.out.kw ka)
          have HKa := Lib.hid (HKk.out.trans ka)
          have hba : l.length + (nm.length + (1 + ((L.txArgs (ts.take k)).length + (2 + (L.txArg t).length)))) ≤ 1000000000 := by omega
          clear ha ka hcu
          go_wp2_with fail
          refine (typeOf_any HRa.out).mono ?_
          rintro _ w4 ⟨rfl, f4⟩
          have HW4 := Lib.hid (HWa.out.frm f4)
          have HK4 := Lib.hid (HKa.out.trans (Kw.frm f4))
          have HR4 := Lib.hid (HRa.out.kw (Kw.frm (b := b) f4))
          clear f4
          by_cases hty : L.typeOf t = 0
          · have HA := Lib.hid (txArg_com hty)
            rw [HA.out] at HS hba
            go_wp2_with fail
            refine (block_ok HTk.out HW4.out HR4.out (by simp at hba ⊢; omega)).mono ?_
            rintro _ w5 ⟨rfl, h5, k5⟩
            have HW5 := Lib.hid h5
            have HK5 := Lib.hid (HK4.out.trans k5)
            clear h5 k5
            go_wp2_with fail
            go_roundg (ts.length + 1 - (k + 1))
            case measure => omega
            case rel => exact ⟨k + 1, by omega, rfl, by go_num, show WrAt _ _ _ by rw [HS.out]; simpa using HW5.out, HK5.out⟩
          · have HA := Lib.hid (txArg_exp hty)
            rw [HA.out] at HS hba
            go_wp2_with fail
            refine (HTk.out _ _ _ HW4.out HR4.out (by simp at hba ⊢; omega)).mono ?_
            rintro _ w5 ⟨rfl, h5, k5⟩
            have HW5 := Lib.hid h5
            have HK5 := Lib.hid (HK4.out.trans k5)
            clear h5 k5
            go_wp2_with fail
            go_roundg (ts.length + 1 - (k + 1))
            case measure => omega
            case rel => exact ⟨k + 1, by omega, rfl, by go_num, show WrAt _ _ _ by rw [HS.out]; simpa using HW5.out, HK5.out⟩
      · have ek : k = ts.length := by omega
        subst ek
        rw [List.take_length] at HWk
        clear g3
        go_wp2_with fail
        refine (add_lit HWk.out [[41]] rfl (by simp; omega) (by simp)).mono ?_
        rintro _ w6 ⟨rfl, h6, k6⟩
        have HW6 := Lib.hid h6
        have HK6 := Lib.hid (HKk.out.trans k6)
        clear h6 k6
        go_wp2_with fail
        go_end0
        exact ⟨rfl, by rw [HY.out]; simpa using HW6.out, HK6.out⟩
end Go.Proofs.YtpdbkdcdlafobaaGreatDoor
end
