/- The reference's shaped, Valid, step, ends, Accepts. The reference's Valid, step, ends. The reference's Accepts. A region that draws its order, told by what each of its operations leaves behind, where a fact may speak of the values of operations ahead of it, and an operation need leave no value. append of whatever row onto a new, empty one. The reference's Copy. AutoValid: the law's walk. What comes in, as it lies in memory, with the bounds that the reach gives. AutoValid returns true whatever machine and word come in, and leaves them as they are. No condition. Contracts of the program's functions, with no condition beyond what each theorem states. -/
import Derived.Test.YtbgbkapomklalaaC07
import Derived.Test.YtbgbkapomklalaaC06
import Derived.Deep.AppendSrc
import Derived.Lib.SmallJoins
import Derived.SizedLaws
import Derived.Test.YtbgbkapomklalaaRows
import Derived.WalkKit
import Derived.ProofKit
import Derived.OpenShut
import Derived.WideKeyArgs
section
namespace Go.Proofs.Ytbgbkapomklalaa
open Go.RowKit
set_option maxRecDepth 100000 in
set_option maxHeartbeats 4000000 in
theorem shaped_any {w : World} {P : Nat → Prop} {v : Value} {m : A.Mac} (h : MachAt w P v m) (hs : Sized m) :
    Calls Try.prog 18 #[v] w fun e w' => e = .returned (.bool (A.fits m)) ∧ Frm (fun _ => False) w w' := by
  obtain ⟨nv, ev, rfl, ⟨A1, c1, rfl, hN⟩, ⟨A2, c2, rfl, hE⟩⟩ := h
  obtain ⟨lt, st, nx, fn⟩ := m
  obtain ⟨hn, he, hr⟩ := hs
  dsimp only at *
  have HN := Lib.hid hN
  have HRL := Lib.hid hr
  clear hN hE hr
  have bx := Blk.new w 25 #[.int .i64 lt, .int .i64 st, .slice A1 nx.length c1, .slice A2 fn.length c2]
  have x0 := bx.cell 0
  have x1 := bx.cell 1
  have x2 := bx.cell 2
  have x3 := bx.cell 3
  have BX := Lib.hid bx
  have F0 : Hid (Frm (fun _ => False) w (w.alloc (.cells #[.int .i64 lt, .int .i64 st, .slice A1 nx.length c1, .slice A2 fn.length c2] 25))) := (Frm.refl _ w).alloc _
  clear bx
  unfold maxLen at hn he
  by_cases a1 : lt < 0
  · have HX : Hid (A.fits ⟨lt, st, nx, fn⟩ = false) := Bool.eq_false_iff.2 fun h => by have := (A.fits_iff.1 h).letters; dsimp only at this; omega
    go_enter Try.func18, Try.ntmps18
    go_wp2_with fail
    go_ret
    exact ⟨ret_bool HX.out.symm, by first | exact F0.out | exact F0.out.drew⟩
  have a1' : 0 ≤ lt := by omega
  clear a1
  by_cases a2 : nx.length = fn.length
  case neg =>
    have hlen : ((fn.length : Int) != (nx.length : Int)) = true := by rw [bne_iff_ne]; omega
    have HX : Hid (A.fits ⟨lt, st, nx, fn⟩ = false) := Bool.eq_false_iff.2 fun h => a2 (A.fits_iff.1 h).fin
    have HA2 := Lib.hid a2
    clear a2
    go_enter Try.func18, Try.ntmps18
    go_wp2_with fail
    go_ret
    exact ⟨ret_bool HX.out.symm, by first | exact F0.out | exact F0.out.drew⟩
  have hlen : ((fn.length : Int) != (nx.length : Int)) = false := by simp [a2]
  have HA2 := Lib.hid a2
  clear a2
  by_cases a3 : nx.length = 0
  · have hz : ((nx.length : Int) == 0) = true := by simp [a3]
    have hp : ¬ (0 : Int) < (nx.length : Int) := by omega
    have HA3 := Lib.hid a3
    clear a3
    by_cases a4 : st = -1
    · subst a4
      have HX : Hid (A.fits ⟨lt, -1, nx, fn⟩ = true) := A.fits_iff.2 ⟨a1', HA2.out, ⟨by dsimp only; omega, by dsimp only; omega⟩, fun _ => HA3.out, fun row hr => by
        have : nx = [] := List.length_eq_zero_iff.1 HA3.out
        subst this
        cases hr⟩
      go_enter Try.func18, Try.ntmps18
      go_wp2_with fail
      go_loopg [4] 1 (fun n i wr => i = .int .i64 0 ∧ Hid (Frm (fun _ => False) w wr))
      case atStart => exact ⟨rfl, by first | exact F0 | exact F0.out.drew⟩
      case round =>
        obtain ⟨rfl, F⟩ := hrel
        go_wp2_with fail
        go_ret
        exact ⟨ret_bool HX.out.symm, F.out⟩
    · have HX : Hid (A.fits ⟨lt, st, nx, fn⟩ = false) := Bool.eq_false_iff.2 fun h => by
        have h1 := (A.fits_iff.1 h).start
        have h3 := HA3.out
        unfold A.In at h1
        dsimp only at h1
        omega
      have hst : (st != -1) = true := by rw [bne_iff_ne]; exact a4
      have HA4 := Lib.hid a4
      clear a4
      go_enter Try.func18, Try.ntmps18
      go_wp2_with fail
      go_ret
      exact ⟨ret_bool HX.out.symm, by first | exact F0.out | exact F0.out.drew⟩
  have a3' : (0 : Int) < (nx.length : Int) := by omega
  have hz : ((nx.length : Int) == 0) = false := by rw [beq_eq_false_iff_ne]; omega
  clear a3
  by_cases a4 : st < 0
  · have HX : Hid (A.fits ⟨lt, st, nx, fn⟩ = false) := Bool.eq_false_iff.2 fun h => by
      have h1 := (A.fits_iff.1 h).start
      have h2 := (A.fits_iff.1 h).none
      unfold A.In at h1
      dsimp only at h1 h2
      have := h2 (by omega)
      omega
    go_enter Try.func18, Try.ntmps18
    go_wp2_with fail
    go_ret
    exact ⟨ret_bool HX.out.symm, by first | exact F0.out | exact F0.out.drew⟩
  have a4' : 0 ≤ st := by omega
  clear a4
  by_cases a5 : (nx.length : Int) ≤ st
  · have HX : Hid (A.fits ⟨lt, st, nx, fn⟩ = false) := Bool.eq_false_iff.2 fun h => by have := (A.fits_iff.1 h).start.2; dsimp only at this; omega
    go_enter Try.func18, Try.ntmps18
    go_wp2_with fail
    go_ret
    exact ⟨ret_bool HX.out.symm, by first | exact F0.out | exact F0.out.drew⟩
  have a5' : st < (nx.length : Int) := by omega
  clear a5
  have HH : Hid (A.fits ⟨lt, st, nx, fn⟩ = nx.all (A.okRow ⟨lt, st, nx, fn⟩)) := show _ = _ by
    unfold A.fits
    have a2 := HA2.out
    simp [a1', a2, show -1 ≤ st by omega, show ¬ st = -1 by omega]
    omega
  go_enter Try.func18, Try.ntmps18
  go_wp2_with fail
  go_loopg [4] (nx.length + 1) (fun n i wr => ∃ k : Nat, k ≤ nx.length ∧ n = nx.length + 1 - k ∧ i = .int .i64 (k : Int) ∧ Hid (Blk wr w.heap.size 25 #[.int .i64 lt, .int .i64 st, .slice A1 nx.length c1, .slice A2 fn.length c2]) ∧ Hid (A.fits ⟨lt, st, nx, fn⟩ = (nx.drop k).all (A.okRow ⟨lt, st, nx, fn⟩)) ∧ Hid (Frm (fun _ => False) w wr))
  case atStart => exact ⟨0, Nat.zero_le _, rfl, rfl, by first | exact BX | exact BX.out.drew, HH, by first | exact F0 | exact F0.out.drew⟩
  case round =>
    obtain ⟨k, hk, rfl, rfl, X, HK, F⟩ := hrel
    have y0 := X.out.cell 0
    have y2 := X.out.cell 2
    by_cases hlt : k < nx.length
    · have hlt' : (k : Int) < (nx.length : Int) := by omega
      obtain ⟨g, o, rv, hA, -, hc, A3, c3, rfl, hrow⟩ := HN.out k hlt
      subst hA
      have hc' := F.out.cell id hc
      have hrl := HRL.out _ (List.getElem_mem hlt)
      have HS : Hid ((nx.drop k).all (A.okRow ⟨lt, st, nx, fn⟩) = (A.okRow ⟨lt, st, nx, fn⟩ nx[k] && (nx.drop (k + 1)).all (A.okRow ⟨lt, st, nx, fn⟩))) := show _ = _ by rw [List.drop_eq_getElem_cons hlt, List.all_cons]
      have HRow := Lib.hid hrow
      generalize nx[k] = row at *
      unfold maxLen at hrl
      have HC := Lib.hid hc
      clear hc hrow
      by_cases hl : (row.length : Int) = lt
      · have hb : ((row.length : Int) != lt) = false := by rw [hl]; simp
        have HL := Lib.hid hl
        have HO : Hid (A.okRow ⟨lt, st, nx, fn⟩ row = row.all fun x => decide (-1 ≤ x) && decide (x < (nx.length : Int))) := show _ = _ by rw [okRow_split]; simp [hl]
        clear hl
        go_wp2_with fail
        go_quiet (fail)
        go_wp2_with fail
        go_loopg [5] (row.length + 1) (fun n i wr => ∃ j : Nat, j ≤ row.length ∧ n = row.length + 1 - j ∧ i = .int .i64 (j : Int) ∧ Hid (Blk wr w.heap.size 25 #[.int .i64 lt, .int .i64 st, .slice (some ⟨g, o, none⟩) nx.length c1, .slice A2 fn.length c2]) ∧ Hid (A.okRow ⟨lt, st, nx, fn⟩ row = (row.drop j).all fun x => decide (-1 ≤ x) && decide (x < (nx.length : Int))) ∧ Hid (Frm (fun _ => False) w wr))
        case atStart => exact ⟨0, Nat.zero_le _, rfl, rfl, by first | exact X | exact X.out.drew, HO, by first | exact F | exact F.out.drew⟩
        case round =>
          obtain ⟨j, hj, rfl, rfl, X, HJ, F⟩ := hrel
          have y0 := X.out.cell 0
          have y2 := X.out.cell 2
          have hc' := F.out.cell id HC.out
          by_cases hltj : j < row.length
          · have hltj' : (j : Int) < lt := by have := HL.out; omega
            have hltj2 : (j : Int) < (row.length : Int) := by omega
            obtain ⟨g3, o3, hA3, -, hcj⟩ := HRow.out j hltj
            subst hA3
            have hcj' := F.out.cell id hcj
            have HSJ : Hid (((row.drop j).all fun x => decide (-1 ≤ x) && decide (x < (nx.length : Int))) = ((decide (-1 ≤ row[j]) && decide (row[j] < (nx.length : Int))) && (row.drop (j + 1)).all fun x => decide (-1 ≤ x) && decide (x < (nx.length : Int)))) := show _ = _ by rw [List.drop_eq_getElem_cons hltj, List.all_cons]
            generalize row[j] = x at *
            clear hcj
            by_cases b1 : x < -1
            · have HF : Hid (A.fits ⟨lt, st, nx, fn⟩ = false) := show _ = _ by rw [HK.out, HS.out, HJ.out, HSJ.out, decide_eq_false (show ¬ -1 ≤ x by omega)]; simp
              go_wp2_with fail
              go_ret
              exact ⟨ret_bool HF.out.symm, by first | exact F.out | exact F.out.drew⟩
            have b1' : -1 ≤ x := by omega
            by_cases b2 : (nx.length : Int) ≤ x
            · have HF : Hid (A.fits ⟨lt, st, nx, fn⟩ = false) := show _ = _ by rw [HK.out, HS.out, HJ.out, HSJ.out, decide_eq_false (show ¬ x < (nx.length : Int) by omega)]; simp
              go_wp2_with fail
              go_ret
              exact ⟨ret_bool HF.out.symm, by first | exact F.out | exact F.out.drew⟩
            have b2' : x < (nx.length : Int) := by omega
            have HJ2 : Hid (A.okRow ⟨lt, st, nx, fn⟩ row = (row.drop (j + 1)).all fun x => decide (-1 ≤ x) && decide (x < (nx.length : Int))) := show _ = _ by rw [HJ.out, HSJ.out, decide_eq_true b1', decide_eq_true b2']; simp
            go_wp2_with fail
            go_roundg (row.length + 1 - (j + 1))
            case measure => omega
            case rel => exact ⟨j + 1, by omega, rfl, by go_num, by first | exact X | exact X.out.drew, HJ2, by first | exact F | exact F.out.drew⟩
          · have hltj' : ¬ (j : Int) < lt := by have := HL.out; omega
            have HK2 : Hid (A.fits ⟨lt, st, nx, fn⟩ = (nx.drop (k + 1)).all (A.okRow ⟨lt, st, nx, fn⟩)) := show _ = _ by rw [HK.out, HS.out, HJ.out, List.drop_of_length_le (by omega)]; simp
            go_wp2_with fail
            go_roundg (nx.length + 1 - (k + 1))
            case measure => omega
            case rel => exact ⟨k + 1, by omega, rfl, by go_num, X, HK2, F⟩
      · have hb : ((row.length : Int) != lt) = true := by rw [bne_iff_ne]; exact hl
        have HF : Hid (A.fits ⟨lt, st, nx, fn⟩ = false) := show _ = _ by rw [HK.out, HS.out, okRow_split]; simp [hl]
        go_wp2_with fail
        go_quiet (fail)
        go_wp2_with fail
        go_ret
        exact ⟨ret_bool HF.out.symm, by first | exact F.out | exact F.out.drew⟩
    · have hlt' : ¬ (k : Int) < (nx.length : Int) := by omega
      have HF : Hid (A.fits ⟨lt, st, nx, fn⟩ = true) := show _ = _ by rw [HK.out, List.drop_of_length_le (by omega)]; rfl
      go_wp2_with fail
      go_ret
      exact ⟨ret_bool HF.out.symm, F.out⟩
end Go.Proofs.Ytbgbkapomklalaa
end
section
namespace Go.Proofs.Ytbgbkapomklalaa
open Go.RowKit
set_option maxRecDepth 100000 in
set_option maxHeartbeats 2000000 in
theorem rvalid_any {w : World} {P : Nat → Prop} {v : Value} {m : A.Mac} (h : MachAt w P v m) (hs : Sized m) :
    Calls Try.prog 6 #[v] w fun e w' => e = .returned (.int .i64 (A.valid m)) ∧ Frm (fun _ => False) w w' := by
  obtain ⟨A1, c1, A2, c2, rfl⟩ := h.form
  have F0 : Frm (fun _ => False) w (w.alloc (.cells #[.int .i64 m.letters, .int .i64 m.start, .slice A1 m.next.length c1, .slice A2 m.fin.length c2] 25)) := (Frm.refl _ w).alloc _
  have HM := Lib.hid (h.keep0 F0)
  have HF0 := Lib.hid F0
  have bx := Lib.hid (Blk.new w 25 #[.int .i64 m.letters, .int .i64 m.start, .slice A1 m.next.length c1, .slice A2 m.fin.length c2])
  have HSZ := Lib.hid hs
  have hn := hs.1
  unfold maxLen at hn
  have HX : Hid (A.valid m = if A.fits m then (if 300 < m.letters ∨ 4000 < m.next.length then 5 else 0) else 1) := rfl
  clear h F0 hs
  have y0 := bx.out.cell 0
  have y1 := bx.out.cell 1
  have y2 := bx.out.cell 2
  have y3 := bx.out.cell 3
  go_enter Try.func6, Try.ntmps6
  go_wp2_with fail
  refine (shaped_any HM.out HSZ.out).mono ?_
  rintro _ w1 ⟨rfl, f1⟩
  have F1 := Lib.hid (HF0.out.trans f1)
  have x0 := (f1.blk bx.out id).cell 0
  have x2 := (f1.blk bx.out id).cell 2
  clear f1 y0 y1 y2 y3
  cases hf : A.fits m
  · have HY : Hid (A.valid m = 1) := show _ = _ by rw [HX.out, hf]; rfl
    clear hf
    go_wp2_with fail
    go_ret
    exact ⟨ret_int HY.out.symm, F1.out⟩
  · by_cases h1 : 300 < m.letters
    · have HY : Hid (A.valid m = 5) := show _ = _ by rw [HX.out, hf]; simp [h1]
      clear hf
      go_wp2_with fail
      go_ret
      exact ⟨ret_int HY.out.symm, by first | exact F1.out | exact F1.out.drew⟩
    · have h1' : m.letters ≤ 300 := by omega
      by_cases h2 : 4000 < m.next.length
      · have h2' : (4000 : Int) < (m.next.length : Int) := by omega
        have HY : Hid (A.valid m = 5) := show _ = _ by rw [HX.out, hf]; simp [h2]
        clear hf
        go_wp2_with fail
        go_ret
        exact ⟨ret_int HY.out.symm, by first | exact F1.out | exact F1.out.drew⟩
      · have h2' : (m.next.length : Int) ≤ 4000 := by omega
        have HY : Hid (A.valid m = 0) := show _ = _ by rw [HX.out, hf]; simp [h1, h2]
        clear hf
        go_wp2_with fail
        go_ret
        exact ⟨ret_int HY.out.symm, by first | exact F1.out | exact F1.out.drew⟩
set_option maxRecDepth 100000 in
set_option maxHeartbeats 2000000 in
theorem rstep_any {w : World} {P : Nat → Prop} {v : Value} {m : A.Mac} (h : MachAt w P v m) (hf : A.Fits m) (s k : Int) (hs : A.In m s) (hk : 0 ≤ k) (hl : k < m.letters) :
    Calls Try.prog 19 #[v, .int .i64 s, .int .i64 k] w fun e w' => e = .returned (.int .i64 (A.lead m s k)) ∧ Frm (fun _ => False) w w' := by
  obtain ⟨A1, c1, A2, c2, rfl⟩ := h.form
  have F0 : Frm (fun _ => False) w (w.alloc (.cells #[.int .i64 m.letters, .int .i64 m.start, .slice A1 m.next.length c1, .slice A2 m.fin.length c2] 25)) := (Frm.refl _ w).alloc _
  have HM := Lib.hid h
  have HF0 := Lib.hid F0
  have y2 := (Blk.new w 25 #[.int .i64 m.letters, .int .i64 m.start, .slice A1 m.next.length c1, .slice A2 m.fin.length c2]).cell 2
  obtain ⟨s0, s1⟩ := hs
  have HX : Hid (A.lead m s k = if s = -1 then -1 else (m.next.getD s.toNat []).getD k.toNat 0) := rfl
  clear h F0
  by_cases h1 : s = -1
  · subst h1
    go_enter Try.func19, Try.ntmps19
    go_wp2_with fail
    go_ret
    exact ⟨ret_int (by rw [HX.out]; rfl), HF0.out⟩
  · obtain ⟨i, rfl⟩ := Int.eq_ofNat_of_zero_le (show 0 ≤ s by omega)
    obtain ⟨j, rfl⟩ := Int.eq_ofNat_of_zero_le hk
    have hi : i < m.next.length := by omega
    obtain ⟨hr, _⟩ := hf.rows _ (List.getElem_mem hi)
    have hj : j < m.next[i].length := by omega
    obtain ⟨g, o, A3, c3, hA, hc, hrow⟩ := HM.out.next_at hi
    obtain ⟨g3, o3, hA3, _, hcj⟩ := hrow j hj
    subst hA hA3
    have d0 := HF0.out.cell id hc
    have d1 := HF0.out.cell id hcj
    have HY : Hid (A.lead m i j = m.next[i][j]) := show _ = _ by
      rw [HX.out, if_neg h1]
      simp [hi, hj]
    have hb : ((i : Int) == -1) = false := by rw [beq_eq_false_iff_ne]; exact h1
    have hj' : (j : Int) < (m.next[i].length : Int) := by omega
    clear hc hcj hrow hr hf
    generalize m.next[i][j] = x at *
    clear hj
    generalize m.next[i].length = len at *
    go_enter Try.func19, Try.ntmps19
    go_wp2_with fail
    go_ret
    exact ⟨ret_int HY.out.symm, by first | exact HF0.out | exact HF0.out.drew⟩
set_option maxRecDepth 100000 in
set_option maxHeartbeats 2000000 in
theorem rends_any {w : World} {P : Nat → Prop} {v : Value} {m : A.Mac} (h : MachAt w P v m) (hf : A.Fits m) (s : Int) (hs : A.In m s) :
    Calls Try.prog 20 #[v, .int .i64 s] w fun e w' => e = .returned (.bool (A.ends m s)) ∧ Frm (fun _ => False) w w' := by
  obtain ⟨A1, c1, A2, c2, rfl⟩ := h.form
  have F0 : Frm (fun _ => False) w (w.alloc (.cells #[.int .i64 m.letters, .int .i64 m.start, .slice A1 m.next.length c1, .slice A2 m.fin.length c2] 25)) := (Frm.refl _ w).alloc _
  have HM := Lib.hid h
  have HF0 := Lib.hid F0
  have y3 := (Blk.new w 25 #[.int .i64 m.letters, .int .i64 m.start, .slice A1 m.next.length c1, .slice A2 m.fin.length c2]).cell 3
  obtain ⟨s0, s1⟩ := hs
  have HX : Hid (A.ends m s = (!decide (s = -1) && m.fin.getD s.toNat false)) := rfl
  clear h F0
  by_cases h1 : s = -1
  · subst h1
    go_enter Try.func20, Try.ntmps20
    go_wp2_with fail
    go_ret
    exact ⟨ret_bool (by rw [HX.out]; rfl), by first | exact HF0.out | exact HF0.out.drew⟩
  · obtain ⟨i, rfl⟩ := Int.eq_ofNat_of_zero_le (show 0 ≤ s by omega)
    have hl := hf.fin
    have hi : i < m.fin.length := by omega
    obtain ⟨g, o, hA, hc⟩ := HM.out.fin_at hi
    subst hA
    have d0 := HF0.out.cell id hc
    have HY : Hid (A.ends m i = m.fin[i]) := show _ = _ by
      rw [HX.out]
      simp [hi, h1]
    have hb : ((i : Int) != -1) = true := by rw [bne_iff_ne]; exact h1
    have hi' : (i : Int) < (m.fin.length : Int) := by omega
    generalize m.fin[i] = x at *
    clear hc hf hl
    go_enter Try.func20, Try.ntmps20
    go_wp2_with fail
    go_ret
    exact ⟨ret_bool HY.out.symm, by first | exact HF0.out | exact HF0.out.drew⟩
end Go.Proofs.Ytbgbkapomklalaa
end
section
namespace Go.Proofs.Ytbgbkapomklalaa
open Go.RowKit
namespace A
theorem from_none (m : Mac) : ∀ l : List Int, from_ m (-1) l = none ∨ from_ m (-1) l = some (-1)
  | [] => .inr rfl
  | k :: l => by
    unfold from_
    split
    · exact from_none m l
    · exact .inl rfl
theorem from_end (m : Mac) (l : List Int) : (match from_ m (-1) l with | none => false | some s => ends m s) = false := by
  rcases from_none m l with h | h <;> rw [h]
  rfl
end A
set_option maxRecDepth 100000 in
set_option maxHeartbeats 2000000 in
theorem raccepts_any {w : World} {P Q : Nat → Prop} {v vw : Value} {m : A.Mac} {l : List Int} (h : MachAt w P v m) (hs : Sized m) (hw : Ints w Q vw l) (hwl : l.length ≤ maxLen) :
    Calls Try.prog 7 #[v, vw] w fun e w' => e = .returned (.bool (A.accepts m l)) ∧ Frm (fun _ => False) w w' := by
  obtain ⟨A1, c1, A2, c2, rfl, bx⟩ := mach_box h
  have F0 : Frm (fun _ => False) w (w.alloc (.cells #[.int .i64 m.letters, .int .i64 m.start, .slice A1 m.next.length c1, .slice A2 m.fin.length c2] 25)) := (Frm.refl _ w).alloc _
  have HM := Lib.hid (h.keep0 F0)
  have HF0 := Lib.hid F0
  have BX := Lib.hid bx
  obtain ⟨AW, cw, rfl, hW⟩ := hw
  have HW := Lib.hid hW
  have HSZ := Lib.hid hs
  have y0 := bx.cell 0
  have y1 := bx.cell 1
  have y2 := bx.cell 2
  have y3 := bx.cell 3
  have HX : Hid (A.accepts m l = if A.valid m = 0 then (match A.from_ m m.start l with | none => false | some s => A.ends m s) else false) := rfl
  unfold maxLen at hwl
  clear h F0 bx hW hs
  go_enter Try.func7, Try.ntmps7
  go_wp2_with fail
  refine (rvalid_any HM.out HSZ.out).mono ?_
  rintro _ w1 ⟨rfl, f1⟩
  have F1 := Lib.hid (HF0.out.trans f1)
  have BX1 := Lib.hid (f1.blk BX.out id)
  have HM1 := Lib.hid (HM.out.keep0 f1)
  have x1 := BX1.out.cell 1
  clear f1 y0 y1 y2 y3
  by_cases hv : A.valid m = 0
  · have HY : Hid (A.accepts m l = match A.from_ m m.start l with | none => false | some s => A.ends m s) := show _ = _ by rw [HX.out, if_pos hv]
    have fits := (A.valid_fits hv).1
    have HFI := Lib.hid fits
    rw [hv]
    clear hv
    go_wp2_with fail
    go_loopg [5, 6] (l.length + 1) (fun n st i wr => ∃ (k : Nat) (s : Int), k ≤ l.length ∧ n = l.length + 1 - k ∧ st = .int .i64 s ∧ i = .int .i64 (k : Int) ∧ A.In m s ∧ Hid (A.from_ m m.start l = A.from_ m s (l.drop k)) ∧ Hid (Blk wr w.heap.size 25 #[.int .i64 m.letters, .int .i64 m.start, .slice A1 m.next.length c1, .slice A2 m.fin.length c2]) ∧ Hid (MachAt wr P (.agg #[.int .i64 m.letters, .int .i64 m.start, .slice A1 m.next.length c1, .slice A2 m.fin.length c2]) m) ∧ Hid (Frm (fun _ => False) w wr))
    case atStart => exact ⟨0, m.start, Nat.zero_le _, rfl, rfl, rfl, HFI.out.start, rfl, BX1, HM1, F1⟩
    case round =>
      obtain ⟨k, s, hk, rfl, rfl, rfl, hin, HK, X, M, F⟩ := hrel
      have z0 := X.out.cell 0
      have z1 := X.out.cell 1
      have z2 := X.out.cell 2
      have z3 := X.out.cell 3
      obtain ⟨hin1, hin2⟩ := hin
      by_cases hs0 : s < 0
      · obtain rfl : s = -1 := by omega
        have HZ : Hid (A.accepts m l = A.ends m (-1)) := show _ = _ by rw [HY.out, HK.out, A.from_end]; rfl
        have hin := Lib.hid (show A.In m (-1) from ⟨hin1, hin2⟩)
        by_cases hlt : k < l.length
        · have hlt' : (k : Int) < (l.length : Int) := by omega
          go_wp2_with fail
          refine (rends_any M.out HFI.out (-1) hin.out).mono ?_
          rintro _ w2 ⟨rfl, f2⟩
          have F2 := Lib.hid (F.out.trans f2)
          clear f2
          go_wp2_with fail
          go_ret
          exact ⟨ret_bool HZ.out.symm, F2.out⟩
        · have hlt' : ¬ (k : Int) < (l.length : Int) := by omega
          go_wp2_with fail
          refine (rends_any M.out HFI.out (-1) hin.out).mono ?_
          rintro _ w2 ⟨rfl, f2⟩
          have F2 := Lib.hid (F.out.trans f2)
          clear f2
          go_wp2_with fail
          go_ret
          exact ⟨ret_bool HZ.out.symm, F2.out⟩
      have hs1 : 0 ≤ s := by omega
      have hin := Lib.hid (show A.In m s from ⟨hin1, hin2⟩)
      clear hin1 hin2 hs0
      by_cases hlt : k < l.length
      · have hlt' : (k : Int) < (l.length : Int) := by omega
        obtain ⟨g, o, hA, _, hc⟩ := HW.out k hlt
        subst hA
        have hc' := F.out.cell id hc
        have HS : Hid (l.drop k = l[k] :: l.drop (k + 1)) := List.drop_eq_getElem_cons hlt
        generalize l[k] = x at *
        clear hc
        have HFR : Hid (A.from_ m s (x :: l.drop (k + 1)) = if 0 ≤ x ∧ x < m.letters then A.from_ m (A.lead m s x) (l.drop (k + 1)) else none) := rfl
        by_cases b1 : x < 0
        · have HZ : Hid (A.accepts m l = false) := show _ = _ by rw [HY.out, HK.out, HS.out, HFR.out, if_neg (by omega)]
          go_wp2_with fail
          go_quiet (fail)
          go_wp2_with fail
          go_ret
          exact ⟨ret_bool HZ.out.symm, by first | exact F.out | exact F.out.drew⟩
        have b1' : 0 ≤ x := by omega
        by_cases b2 : m.letters ≤ x
        · have HZ : Hid (A.accepts m l = false) := show _ = _ by rw [HY.out, HK.out, HS.out, HFR.out, if_neg (by omega)]
          go_wp2_with fail
          go_quiet (fail)
          go_wp2_with fail
          go_ret
          exact ⟨ret_bool HZ.out.symm, by first | exact F.out | exact F.out.drew⟩
        have b2' : x < m.letters := by omega
        have HK2 : Hid (A.from_ m m.start l = A.from_ m (A.lead m s x) (l.drop (k + 1))) := show _ = _ by rw [HK.out, HS.out, HFR.out, if_pos ⟨b1', b2'⟩]
        go_wp2_with fail
        go_quiet (fail)
        have FQ : Frm (fun _ => False) wr (wr.drewN nq) := ⟨Nat.le_refl _, fun _ _ _ => rfl, rfl, rfl⟩
        generalize wr.drewN nq = W1 at *
        have X1 := Lib.hid (FQ.blk X.out id)
        have M1 := Lib.hid (M.out.keep0 FQ)
        have F1' := Lib.hid (F.out.trans FQ)
        have hc1 := FQ.cell id hc'
        have v0 := X1.out.cell 0
        have v1 := X1.out.cell 1
        have v2 := X1.out.cell 2
        have v3 := X1.out.cell 3
        clear z0 z1 z2 z3 hc' FQ
        go_wp2_with fail
        go_still_tail 6, (by kernel_rfl)
        go_wp2_with fail
        clear v0 v1 v2 v3
        refine (rstep_any (M1.out.keep0 (Frm.refl _ _).drew) HFI.out s x hin.out b1' b2').mono ?_
        rintro _ w2 ⟨rfl, f2⟩
        have F2 := Lib.hid (F1'.out.drew.trans f2)
        have X2 := Lib.hid (f2.blk X1.out.drew id)
        have M2 := Lib.hid ((M1.out.keep0 (Frm.refl _ _).drew).keep0 f2)
        have hin2 := HFI.out.lead hin.out b1' b2'
        clear f2
        go_wp2_with fail
        go_roundg (l.length + 1 - (k + 1))
        case measure => omega
        case rel => exact ⟨k + 1, _, by omega, rfl, rfl, by go_num, hin2, HK2, X2, M2, F2⟩
      · have hlt' : ¬ (k : Int) < (l.length : Int) := by omega
        have HZ : Hid (A.accepts m l = A.ends m s) := show _ = _ by rw [HY.out, HK.out, List.drop_of_length_le (by omega)]; rfl
        go_wp2_with fail
        refine (rends_any M.out HFI.out s hin.out).mono ?_
        rintro _ w2 ⟨rfl, f2⟩
        have F2 := Lib.hid (F.out.trans f2)
        clear f2
        go_wp2_with fail
        go_ret
        exact ⟨ret_bool HZ.out.symm, F2.out⟩
  · have hb : (A.valid m != 0) = true := by rw [bne_iff_ne]; exact hv
    have HY : Hid (A.accepts m l = false) := show _ = _ by rw [HX.out, if_neg hv]
    clear hv
    go_wp2_with fail
    go_ret
    exact ⟨ret_bool HY.out.symm, F1.out⟩

end Go.Proofs.Ytbgbkapomklalaa
end
section
namespace Go.Proofs.Ytbgbkapomklalaa
open Go.RowKit
section
variable {P : Program} {Q : Exit → Act → World → Prop}
def noL : List Value → World → Prop := fun _ _ => False
def f1 (g : Value → World → Prop) : List Value → World → Prop := fun l w => g (l.getD 0 undef) w
def f2 (g : Value → Value → World → Prop) : List Value → World → Prop := fun l w => g (l.getD 0 undef) (l.getD 1 undef) w
def valAt (ds : List Nat) (tm : Array Value) (k : Nat) : Value := tm[ds.getD k 0]?.getD undef
def updV (vs : Nat → Value) (i : Nat) (v : Value) : Nat → Value := fun k => if k = i then v else vs k
def depB (ops : Array Oper) (ds : List Nat) (D : List (List Nat)) (n : Nat) (gs : List (Nat × Bool)) : Bool :=
  (List.range ops.size).all fun i => match ops[i]? with
    | none => false
    | some o => (match o.dst with | some x => x == ds.getD i 0 && decide (x < n) | none => decide (n ≤ ds.getD i 0)) && ((List.range ops.size).all fun j => ds.getD i 0 != ds.getD j 0 || i == j || decide (n ≤ ds.getD i 0)) && (o.after.all fun e => decide (e.on < i) && Region.binds .any e) && (match o.guard with | none => true | some g => gs.contains g && o.after.any fun e => e.on == g.1) && ((D.getD i []).all fun k => k == i || o.after.any fun e => (D.getD e.on []).contains k)
theorem wp_region_dep {id : Nat} {a0 : Act} {w0 : World} {ops : Array Oper} (ds : List Nat) (D : List (List Nat)) (F : List (List Value → World → Prop)) (R : World → World → Prop) (Rr : Nat → World → World → Prop) (Sx : Nat → World → Prop) (gs : List (Nat × Bool)) (fix : List (Nat × Value))
    (hm : P.follows .mixedOrders = true) (hB : (depB ops ds D a0.tmps.size gs && decide (ds.length = ops.size) && decide (F.length = ops.size)) = true) (hRt : ∀ a b c, R a b → R b c → R a c) (hRr : ∀ i a b, Rr i a b → R a b)
    (hst : ∀ j i (hj : j < ops.size), i < ops.size → i ≠ j → (ops[j].after.any fun e => e.on == i) = false → ∀ l w w', F.getD j noL l w → Rr i w w' → F.getD j noL l w')
    (hSs : ∀ i k (hk : k < ops.size), i ≠ k → (ops[k].after.any fun e => e.on == i) = false → ∀ w w', Sx i w → Rr k w w' → Sx i w') (hS0 : ∀ i, Sx i { w0 with drawn := w0.drawn + 1 })
    (hg : ∀ g ∈ gs, D.getD g.1 [] = [g.1] ∧ ∀ v w, F.getD g.1 noL [v] w → v = .bool g.2) (h0 : R w0 { w0 with drawn := w0.drawn + 1 }) (hfix : ∀ x ∈ fix, x.1 ∉ ds ∧ a0.tmps[x.1]?.getD undef = x.2)
    (hstep : Each (fun i o => ∀ (Q : Exit → Act → World → Prop) (tm : Array Value) (df : List Deferred) w, R w0 w → Sx i w → (∀ x ∈ fix, tm[x.1]?.getD undef = x.2) → (∀ j, (o.after.any fun e => (D.getD e.on []).contains j) = true → F.getD j noL ((D.getD j []).map (valAt ds tm)) w) →
      o.wp P ⟨tm, df⟩ w (fun a' w' => ∃ v, a' = Act.put ⟨tm, df⟩ o.dst v ∧ (o.dst = none → v = undef) ∧ F.getD i noL ((D.getD i []).map (updV (valAt ds tm) i v)) w' ∧ Rr i w w') Q) 0 ops.toList)
    (hend : ∀ (vs : Nat → Value) w, R w0 w → (∀ i < ops.size, F.getD i noL ((D.getD i []).map vs) w) → Q .normal ⟨putAll ops.size (fun i => ds.getD i 0) vs a0.tmps, a0.defers⟩ w) : (Code.region id ops true).wp P Q a0 w0 := by
  simp only [Bool.and_eq_true, decide_eq_true_eq] at hB
  obtain ⟨⟨hB1, hB2⟩, hB3⟩ := hB
  unfold depB at hB1
  rw [List.all_eq_true] at hB1
  have hB' : ∀ i (h : i < ops.size), (match ops[i].dst with | some x => x == ds.getD i 0 && decide (x < a0.tmps.size) | none => decide (a0.tmps.size ≤ ds.getD i 0)) = true ∧ (∀ j < ops.size, ds.getD i 0 = ds.getD j 0 → i = j ∨ a0.tmps.size ≤ ds.getD i 0) ∧ (∀ e ∈ ops[i].after, e.on < i ∧ Region.binds .any e = true) ∧ (match ops[i].guard with | none => true | some g => gs.contains g && ops[i].after.any fun e => e.on == g.1) = true ∧ ∀ k ∈ D.getD i [], k = i ∨ ∃ e ∈ ops[i].after, k ∈ D.getD e.on [] := fun i h => by
    have h1 := hB1 i (List.mem_range.2 h)
    rw [Array.getElem?_eq_getElem h] at h1
    simp only [Bool.and_eq_true, decide_eq_true_eq, List.all_eq_true, List.mem_range, Bool.or_eq_true, bne_iff_ne, beq_iff_eq, Array.all_eq_true_iff_forall_mem] at h1
    obtain ⟨⟨⟨⟨h2, h3⟩, h4⟩, h5⟩, h6⟩ := h1
    refine ⟨h2, fun j hj e => ?_, h4, h5, fun k hk => ?_⟩
    · rcases h3 j hj with (h | h) | h
      · exact absurd e h
      · exact .inl h
      · exact .inr h
    · rcases h6 k hk with h | h
      · exact .inl h
      · obtain ⟨e, he, he'⟩ := Array.any_eq_true'.1 h
        exact .inr ⟨e, he, by simpa using he'⟩
  clear hB1
  have hmem : ∀ i, i < ops.size → ds.getD i 0 ∈ ds := fun i hi => by
    have : i < ds.length := by omega
    have e : ds.getD i 0 = ds[i] := by simp [this]
    rw [e]
    exact List.getElem_mem this
  refine wp_region_any hm ?_
  have hall : ∀ (listed : Array Bool), listed.size = ops.size → Region.ready .any ops listed = [] → ∀ j < ops.size, listed.getD j true = true := by
    intro listed hs hr j
    induction j using Nat.strongRecOn with
    | _ j ih =>
      intro hj
      rcases hb : listed.getD j true with _ | _
      · exfalso
        have : j ∈ Region.ready .any ops listed := mem_ready.2 ⟨hb, ops[j], by simp [hj], fun e he _ => by
          have h1 := ((hB' j hj).2.2.1 e he).1
          have h2 := ih e.on h1 (by omega)
          have h3 : e.on < listed.size := by omega
          simpa [h3] using h2⟩
        rw [hr] at this
        cases this
      · rfl
  have fin : ∀ (listed : Array Bool) (tm : Array Value) (w : World), listed.size = ops.size → tm.size = a0.tmps.size → R w0 w → (∀ t, t ∉ ds → tm.getD t undef = a0.tmps.getD t undef) → (∀ j < ops.size, listed.getD j true = true → F.getD j noL ((D.getD j []).map (valAt ds tm)) w) → Region.ready .any ops listed = [] → Q .normal ⟨tm, a0.defers⟩ w := by
    intro listed tm w hs ht hR hu hf hr
    have hl := hall listed hs hr
    have h1 := hend (valAt ds tm) w hR fun i hi => hf i hi (hl i hi)
    have h2 : putAll ops.size (fun i => ds.getD i 0) (valAt ds tm) a0.tmps = tm := by
      have gen : ∀ n, n ≤ ops.size → (putAll n (fun i => ds.getD i 0) (valAt ds tm) a0.tmps).size = a0.tmps.size ∧ ∀ t, t < a0.tmps.size → (putAll n (fun i => ds.getD i 0) (valAt ds tm) a0.tmps).getD t undef = if (∃ j, j < n ∧ ds.getD j 0 = t) then tm.getD t undef else a0.tmps.getD t undef := by
        intro n
        induction n with
        | zero => intro _; exact ⟨rfl, fun t ht => by rw [if_neg (fun ⟨j, h, _⟩ => absurd h (by omega))]; rfl⟩
        | succ n ih =>
          intro hn
          obtain ⟨i1, i2⟩ := ih (by omega)
          unfold putAll at i1 i2 ⊢
          rw [List.range_succ, List.foldl_append, List.foldl_cons, List.foldl_nil]
          refine ⟨by rw [Array.size_setIfInBounds, i1], fun t ht' => ?_⟩
          dsimp only at i1 i2 ⊢
          by_cases hd : ds.getD n 0 = t
          · rw [hd, getD_setV (by rw [i1]; exact ht'), if_pos rfl, if_pos ⟨n, by omega, hd⟩]
            unfold valAt
            rw [hd, Array.getD_eq_getD_getElem?]
          · have e1 : ∀ (A : Array Value) (v : Value), (A.setIfInBounds (ds.getD n 0) v).getD t undef = A.getD t undef := fun A v => by
              simp only [Array.getD_eq_getD_getElem?, Array.getElem?_setIfInBounds]
              rw [if_neg hd]
            rw [e1, i2 t ht']
            congr 1
            apply propext
            constructor
            · rintro ⟨j, hj, e⟩; exact ⟨j, by omega, e⟩
            · rintro ⟨j, hj, e⟩
              exact ⟨j, by
                rcases Nat.lt_or_ge j n with h | h
                · exact h
                · have : j = n := by omega
                  rw [this] at e
                  exact absurd e hd, e⟩
      obtain ⟨g1, g2⟩ := gen ops.size (Nat.le_refl _)
      apply Array.ext
      · rw [g1, ht]
      · intro t ha hb
        have e1 : ∀ (A : Array Value) (h : t < A.size), A[t] = A.getD t undef := fun A h => by simp [h]
        rw [e1 _ ha, e1 _ hb, g2 t (by omega)]
        by_cases hne : ∃ j, j < ops.size ∧ ds.getD j 0 = t
        · rw [if_pos hne]
        · rw [if_neg hne]
          refine (hu t fun hmem => hne ?_).symm
          obtain ⟨j, hj, e⟩ := List.getElem_of_mem hmem
          exact ⟨j, by omega, by simp [hj, e]⟩
    rw [h2] at h1
    exact h1
  have key : ∀ (fuel : Nat) (listed : Array Bool) (tm : Array Value) (w : World), listed.size = ops.size → listed.toList.count false ≤ fuel → tm.size = a0.tmps.size → R w0 w → (∀ t, t ∉ ds → tm.getD t undef = a0.tmps.getD t undef) → (∀ j < ops.size, listed.getD j true = true → F.getD j noL ((D.getD j []).map (valAt ds tm)) w) → (∀ j < ops.size, listed.getD j true = true → ∀ k ∈ D.getD j [], k < ops.size ∧ listed.getD k true = true) → (∀ j (hj : j < ops.size), listed.getD j true = true → ∀ e ∈ ops[j].after, listed.getD e.on true = true) → (∀ j < ops.size, listed.getD j true = false → Sx j w) → wpAny P .any ops Q fuel listed ⟨tm, a0.defers⟩ w := by
    intro fuel
    induction fuel with
    | zero =>
      intro listed tm w hs hc ht hR hu hf hl hla hsx
      have hr : Region.ready .any ops listed = [] := by
        apply List.eq_nil_iff_forall_not_mem.2
        intro i hi
        obtain ⟨hb, o, ho, _⟩ := mem_ready.1 hi
        have hi' : i < ops.size := by
          rcases Nat.lt_or_ge i ops.size with h | h
          · exact h
          · rw [Array.getElem?_eq_none h] at ho; cases ho
        have := count_setB (l := listed) (i := i) (by omega) hb
        omega
      exact ⟨hr, fin listed tm w hs ht hR hu hf hr⟩
    | succ fuel ih =>
      intro listed tm w hs hc ht hR hu hf hl hla hsx
      refine ⟨fun hr => fin listed tm w hs ht hR hu hf hr, fun i hi => ?_⟩
      obtain ⟨hb, o, ho, hall'⟩ := mem_ready.1 hi
      have hi' : i < ops.size := by
        rcases Nat.lt_or_ge i ops.size with h | h
        · exact h
        · rw [Array.getElem?_eq_none h] at ho; cases ho
      have heo : ops[i] = o := by rw [Array.getElem?_eq_getElem hi'] at ho; exact Option.some.inj ho
      obtain ⟨k1, k2, k3, k4, k5⟩ := hB' i hi'
      have hdep : ∀ e ∈ ops[i].after, e.on < ops.size ∧ listed.getD e.on true = true := fun e he => by
        have h1 := k3 e he
        have h2 := hall' e (heo ▸ he) h1.2
        have h3 : e.on < listed.size := by omega
        exact ⟨by omega, by simpa [h3] using h2⟩
      have hfd : ∀ j, (ops[i].after.any fun e => (D.getD e.on []).contains j) = true → F.getD j noL ((D.getD j []).map (valAt ds tm)) w := fun j hj => by
        obtain ⟨e, he, he'⟩ := Array.any_eq_true'.1 hj
        obtain ⟨h1, h2⟩ := hdep e he
        obtain ⟨h3, h4⟩ := hl e.on h1 h2 j (by simpa using he')
        exact hf j h3 h4
      have hw : Region.wanted ops[i] (yielded ops tm) = true := by
        unfold Region.wanted
        rcases hgu : ops[i].guard with _ | ⟨j, b⟩
        · rfl
        · rw [hgu] at k4
          simp only [Bool.and_eq_true, List.contains_iff_mem] at k4
          obtain ⟨e, he, he'⟩ := Array.any_eq_true'.1 k4.2
          have he' : e.on = j := by simpa using he'
          subst he'
          obtain ⟨h1, h2⟩ := hdep e he
          obtain ⟨g1, g2⟩ := hg _ k4.1
          have h3 := hf e.on h1 h2
          rw [g1] at h3
          have h4 : tm[ds.getD e.on 0]?.getD undef = .bool b := g2 _ w h3
          have h5 : yielded ops tm e.on = some b := by
            unfold yielded
            have k1' := (hB' e.on h1).1
            rw [Array.getElem?_eq_getElem h1, Option.bind_some]
            rcases hd : ops[e.on].dst with _ | x
            · rw [hd] at k1'
              exfalso
              have k1' : a0.tmps.size ≤ ds.getD e.on 0 := by simpa using k1'
              rw [Array.getElem?_eq_none (show tm.size ≤ ds.getD e.on 0 by rw [ht]; exact k1')] at h4
              cases h4
            · rw [hd] at k1'
              simp only [Bool.and_eq_true, beq_iff_eq, decide_eq_true_eq] at k1'
              obtain ⟨rfl, hx⟩ := k1'
              replace hx : @LT.lt Nat _ (ds.getD e.on 0) a0.tmps.size := hx
              have hx' : ds.getD e.on 0 < tm.size := by omega
              rw [Option.bind_some, Array.getElem?_eq_getElem hx']
              rw [Array.getElem?_eq_getElem hx'] at h4
              rw [show tm[ds.getD e.on 0] = .bool b from h4]
          simp only [h5, beq_self_eq_true]
      unfold wpOp
      rw [Array.getElem?_eq_getElem hi']
      dsimp only
      rw [if_pos hw]
      have hs1 := Each.get hstep (i := i) (o := ops[i]) (by simp [hi']) Q tm a0.defers w hR (by rw [Nat.zero_add]; exact hsx i hi' hb) (fun x hx => by
        obtain ⟨h5, h6⟩ := hfix x hx
        have := hu x.1 h5
        simp only [Array.getD_eq_getD_getElem?] at this
        rw [this, h6]) hfd
      refine .inl (Oper.wp_mono (fun a' w' h' => ?_) hs1)
      obtain ⟨v, rfl, hvn, hv, hR'⟩ := h'
      rw [Nat.zero_add] at hv hR'
      -- the frame behind it
      obtain ⟨tm', e1, e2, e3, e4⟩ : ∃ tm', Act.put ⟨tm, a0.defers⟩ ops[i].dst v = ⟨tm', a0.defers⟩ ∧ tm'.size = tm.size ∧ (∀ k < ops.size, valAt ds tm' k = updV (valAt ds tm) i v k) ∧ ∀ t, t ∉ ds → tm'.getD t undef = tm.getD t undef := by
        rcases hd : ops[i].dst with _ | x
        · rw [hd] at k1
          have k1 : a0.tmps.size ≤ ds.getD i 0 := by simpa using k1
          refine ⟨tm, rfl, rfl, fun k hk => ?_, fun _ _ => rfl⟩
          unfold updV
          split
          · rename_i h
            rw [hvn hd, h]
            unfold valAt
            rw [Array.getElem?_eq_none (show tm.size ≤ ds.getD i 0 by omega)]
            rfl
          · rfl
        · rw [hd] at k1
          simp only [Bool.and_eq_true, beq_iff_eq, decide_eq_true_eq] at k1
          obtain ⟨rfl, hx⟩ := k1
          replace hx : @LT.lt Nat _ (ds.getD i 0) a0.tmps.size := hx
          refine ⟨tm.setIfInBounds (ds.getD i 0) v, rfl, by simp, fun k hk => ?_, fun t h => ?_⟩
          · unfold updV valAt
            rw [Array.getElem?_setIfInBounds]
            by_cases e : ds.getD i 0 = ds.getD k 0
            · have : i = k := by
                rcases k2 k hk e with h | h
                · exact h
                · exact absurd hx (Nat.not_lt.2 h)
              subst this
              have hx' : ds.getD i 0 < tm.size := by omega
              rw [if_pos rfl, if_pos hx', if_pos rfl]
              rfl
            · rw [if_neg e, if_neg (fun h => e (by rw [h]))]
          · simp only [Array.getD_eq_getD_getElem?, Array.getElem?_setIfInBounds]
            rw [if_neg (fun h' : ds.getD i 0 = t => h (h' ▸ hmem i hi'))]
      rw [e1]
      have hDi : ∀ k ∈ D.getD i [], k < ops.size ∧ (k = i ∨ listed.getD k true = true) := fun k hk => by
        rcases k5 k hk with h | ⟨e, he, he'⟩
        · exact ⟨by omega, .inl h⟩
        · obtain ⟨h1, h2⟩ := hdep e he
          obtain ⟨h3, h4⟩ := hl e.on h1 h2 k he'
          exact ⟨h3, .inr h4⟩
      refine ih (listed.setIfInBounds i true) tm' w' (by simpa using hs) ?_ (by omega) (hRt _ _ _ hR (hRr _ _ _ hR')) ?_ ?_ ?_ ?_ ?_
      · have := count_setB (l := listed) (i := i) (by omega) hb
        omega
      · intro t h
        rw [e4 t h]
        exact hu t h
      · intro j hj hlj
        rw [getD_setB (by omega)] at hlj
        by_cases e : i = j
        · subst e
          have : (D.getD i []).map (valAt ds tm') = (D.getD i []).map (updV (valAt ds tm) i v) := List.map_congr_left fun k hk => e3 k (hDi k hk).1
          rw [this]
          exact hv
        · rw [if_neg e] at hlj
          have : (D.getD j []).map (valAt ds tm') = (D.getD j []).map (valAt ds tm) := List.map_congr_left fun k hk => by
            obtain ⟨h1, h2⟩ := hl j hj hlj k hk
            rw [e3 k h1]
            unfold updV
            rw [if_neg (fun h => by rw [h] at h2; rw [h2] at hb; cases hb)]
          rw [this]
          refine hst j i hj hi' e ?_ _ _ _ (hf j hj hlj) hR'
          rw [Bool.eq_false_iff]
          intro hany
          obtain ⟨ed, hed, hed'⟩ := Array.any_eq_true'.1 hany
          have h1 := hla j hj hlj ed hed
          rw [show ed.on = i by simpa using hed', hb] at h1
          cases h1
      · intro j hj hlj k hk
        rw [getD_setB (by omega)] at hlj
        rw [getD_setB (by omega)]
        by_cases e : i = j
        · subst e
          obtain ⟨h1, h2⟩ := hDi k hk
          refine ⟨h1, ?_⟩
          rcases h2 with h | h
          · rw [if_pos h.symm]
          · split
            · rfl
            · exact h
        · rw [if_neg e] at hlj
          obtain ⟨h1, h2⟩ := hl j hj hlj k hk
          refine ⟨h1, ?_⟩
          split
          · rfl
          · exact h2
      · intro j hj hlj ed hed
        rw [getD_setB (by omega)] at hlj
        rw [getD_setB (by omega)]
        split
        · rfl
        · by_cases e : i = j
          · subst e
            exact (hdep ed hed).2
          · rw [if_neg e] at hlj
            exact hla j hj hlj ed hed
      · intro j hj hlj
        rw [getD_setB (by omega)] at hlj
        by_cases e : i = j
        · rw [if_pos e] at hlj
          cases hlj
        · rw [if_neg e] at hlj
          refine hSs j i hi' (Ne.symm e) ?_ _ _ (hsx j hj hlj) hR'
          rw [Bool.eq_false_iff]
          intro hany
          obtain ⟨ed, hed, hed'⟩ := Array.any_eq_true'.1 hany
          have h1 := (hdep ed hed).2
          rw [show ed.on = j by simpa using hed', hlj] at h1
          cases h1
  refine key ops.size _ a0.tmps _ (by simp) (by simp) rfl h0 (fun _ _ => rfl) (fun j hj hl => ?_) (fun j hj hl => ?_) (fun j hj hl => ?_) (fun j _ _ => hS0 j)
  · simp [hj] at hl
  · simp [hj] at hl
  · simp [hj] at hl
end
end Go.Proofs.Ytbgbkapomklalaa
end
section
namespace Go.Proofs.Ytbgbkapomklalaa
open Go.RowKit
/-- What an append onto a new, empty row leaves: a row of its own. -/
def Fresh (w : World) (e : TypeId) (v : Value) (xs : List Value) (g : Nat) : Prop := ∃ c cs, v = .slice (some ⟨g, 0, none⟩) xs.length c ∧ Blk w g e cs ∧ ∀ k, k < xs.length → cs[k]? = xs[k]?
section
variable {P : Program}
theorem run_app_empty {w : World} {t ty e : TypeId} {i : TypeInfo} {z : Value} {bytes n b : Nat} {vx : Value} {xs : List Value} (ht : P.underlying t = some (.slice e)) (hi : P.info? e = some i) (hz : i.zero = some z) (hsize : i.size = 1) (hby : i.bytes = bytes)
    (hb : Blk w b e #[]) (hs : Src P 1 t vx n xs w) (hbytes : n * bytes ≤ 140737488355328) (h63 : n ≤ 9223372036854775807) :
    ∃ v' w' g, (Builtin.append_ #[t, t] ty #[.slice (some ⟨b, 0, none⟩) 0 0, vx]).run P w = .ok v' w' ∧ (g = b ∨ g = w.heap.size) ∧ Frm (fun _ => False) w w' ∧ Fresh w' e v' xs g := by
  have hxl : xs.length = n := by rw [hs.newsLen, Nat.mul_one]
  by_cases hn : n = 0
  · subst hn
    have hx0 : xs = [] := List.eq_nil_of_length_eq_zero hxl
    subst hx0
    have hr := run_append_room_src (P := P) w t t ty e i ht hi b 0 0 0 vx 0 [] (hsize ▸ hs) (Nat.le_refl _) (fun j h => absurd h (by simp)) (fun j h => absurd h (by simp))
    refine ⟨_, _, b, hr, .inl rfl, Frm.refl _ _, 0, #[], rfl, hb, fun k hk => absurd hk (by simp)⟩
  · have hr := run_append_grow_src (P := P) w t t ty e i z ht hi hz (some ⟨b, 0, none⟩) 0 0 [] (run_firstCells_some w.drew i.size 0 ⟨b, 0, none⟩ 0 0 [] (by simp) (fun j u h => by cases h)) vx n xs (hsize ▸ hs) (by omega) (by omega) (by
      have : Builtin.nextslicecap (0 + n) 0 = n := by unfold Builtin.nextslicecap; rw [if_pos (by omega)]; omega
      rw [this, hby]; omega)
    refine ⟨_, _, w.heap.size, hr, .inr rfl, ((Frm.refl _ w).drew).alloc _, _, _, by rw [hxl, Nat.zero_add], Blk.new w.drew _ _, fun k hk => ?_⟩
    rw [List.nil_append, Array.getElem?_append_left (by simpa using hk)]
    simp
theorem wp_app_empty {o : Oper} {a : Act} {w : World} {K : Act → World → Prop} {Q : Exit → Act → World → Prop} (s x : Operand) {t e : TypeId} {i : TypeInfo} {z : Value} {bytes n b : Nat} {vx : Value} {xs : List Value}
    (ho : o.op = .call { callee := .builtin .append, args := #[s, x], argTypes := #[t, t] }) (ht : P.underlying t = some (.slice e)) (hi : P.info? e = some i) (hz : i.zero = some z) (hsize : i.size = 1) (hby : i.bytes = bytes)
    (hv : a.eval s = .slice (some ⟨b, 0, none⟩) 0 0) (hx : a.eval x = vx) (hb : Blk w b e #[]) (hs : Src P 1 t vx n xs w) (hbytes : n * bytes ≤ 140737488355328) (h63 : n ≤ 9223372036854775807)
    (h : ∀ v' w' g, (g = b ∨ g = w.heap.size) → Frm (fun _ => False) w w' → Fresh w' e v' xs g → K (a.put o.dst v') w') : o.wp P a w K Q := by
  obtain ⟨v', w', g, hr, h1, h2, h3⟩ := run_app_empty (P := P) (ty := o.type) ht hi hz hsize hby hb hs hbytes h63
  unfold Oper.wp execOp
  simp only [ho, resolve, invoke, builtin, Sem.run_bind, Sem.run_pure, Result.andThen_ok, List.map_toArray, List.map_cons, List.map_nil, hv, hx, hr]
  exact h v' w' g h1 h2 h3
end
theorem ints_src {w : World} {S : Nat → Prop} {v : Value} {l : List Int} (h : Ints w S v l) : Src Try.prog 1 26 v l.length (l.map (Value.int .i64)) w := by
  obtain ⟨A, c, rfl, h⟩ := h
  rcases A with _ | a
  · have : l = [] := by
      rcases l with _ | ⟨x, r⟩
      · rfl
      · obtain ⟨g, o, e, _⟩ := h 0 (by simp)
        cases e
    subst this
    exact Src.ofNil w Try.underlying26 c
  · refine Src.ofSlice w Try.underlying26 a _ c _ (by simp) (fun j u hu => ?_) (fun u hu => by obtain ⟨_, _, rfl⟩ := List.mem_map.1 hu; rfl)
    have hj : j < l.length := by
      rcases Nat.lt_or_ge j l.length with h | h
      · exact h
      · rw [List.getElem?_eq_none (by simpa using h)] at hu; cases hu
    obtain ⟨g, o, e, _, hc⟩ := h j hj
    injection e with e
    subst e
    have : (⟨g, o, none⟩ : Addr).add j = ⟨g, o + j, none⟩ := by
      unfold Addr.add
      split
      · subst_vars; simp
      · rfl
    rw [this, hc]
    simpa [hj] using hu
theorem bools_src {w : World} {S : Nat → Prop} {v : Value} {l : List Bool} (h : Bools w S v l) : Src Try.prog 1 23 v l.length (l.map Value.bool) w := by
  obtain ⟨A, c, rfl, h⟩ := h
  rcases A with _ | a
  · have : l = [] := by
      rcases l with _ | ⟨x, r⟩
      · rfl
      · obtain ⟨g, o, e, _⟩ := h 0 (by simp)
        cases e
    subst this
    exact Src.ofNil w Try.underlying23 c
  · refine Src.ofSlice w Try.underlying23 a _ c _ (by simp) (fun j u hu => ?_) (fun u hu => by obtain ⟨_, _, rfl⟩ := List.mem_map.1 hu; rfl)
    have hj : j < l.length := by
      rcases Nat.lt_or_ge j l.length with h | h
      · exact h
      · rw [List.getElem?_eq_none (by simpa using h)] at hu; cases hu
    obtain ⟨g, o, e, _, hc⟩ := h j hj
    injection e with e
    subst e
    have : (⟨g, o, none⟩ : Addr).add j = ⟨g, o + j, none⟩ := by
      unfold Addr.add
      split
      · subst_vars; simp
      · rfl
    rw [this, hc]
    simpa [hj] using hu
theorem Fresh.ints {w : World} {v : Value} {l : List Int} {g : Nat} (h : Fresh w 3 v (l.map (Value.int .i64)) g) : Ints w (fun b => b = g) v l := by
  obtain ⟨c, cs, e, hb, hc⟩ := h
  refine ⟨some ⟨g, 0, none⟩, c, by rw [e]; simp, fun k hk => ⟨g, 0, rfl, rfl, ?_⟩⟩
  rw [Nat.zero_add, hb.cell k, hc k (by simpa using hk)]
  simp [hk]
theorem Fresh.bools {w : World} {v : Value} {l : List Bool} {g : Nat} (h : Fresh w 4 v (l.map Value.bool) g) : Bools w (fun b => b = g) v l := by
  obtain ⟨c, cs, e, hb, hc⟩ := h
  refine ⟨some ⟨g, 0, none⟩, c, by rw [e]; simp, fun k hk => ⟨g, 0, rfl, rfl, ?_⟩⟩
  rw [Nat.zero_add, hb.cell k, hc k (by simpa using hk)]
  simp [hk]
theorem Fresh.frm {w w' : World} {e : TypeId} {v : Value} {xs : List Value} {g : Nat} {E : Nat → Prop} (h : Fresh w e v xs g) (F : Frm E w w') (hE : ¬ E g) : Fresh w' e v xs g := by
  obtain ⟨c, cs, e, hb, hc⟩ := h
  exact ⟨c, cs, e, F.blk hb hE, hc⟩
end Go.Proofs.Ytbgbkapomklalaa
end
section
namespace Go.Proofs.Ytbgbkapomklalaa
open Go.RowKit
theorem MachAt.below {w : World} {P : Nat → Prop} {v : Value} {m : A.Mac} (h : MachAt w P v m) : MachAt w (fun b => b < w.heap.size) v m := by
  obtain ⟨nv, ev, e, ⟨A1, c1, e1, h1⟩, ⟨A2, c2, e2, h2⟩⟩ := h
  refine ⟨nv, ev, e, ⟨A1, c1, e1, fun k hk => ?_⟩, ⟨A2, c2, e2, fun k hk => ?_⟩⟩
  · obtain ⟨g, o, rv, a1, a2, a3, A3, c3, e3, h3⟩ := h1 k hk
    refine ⟨g, o, rv, a1, cell_lt a3, a3, A3, c3, e3, fun j hj => ?_⟩
    obtain ⟨g', o', b1, b2, b3⟩ := h3 j hj
    exact ⟨g', o', b1, cell_lt b3, b3⟩
  · obtain ⟨g, o, a1, a2, a3⟩ := h2 k hk
    exact ⟨g, o, a1, cell_lt a3, a3⟩
def zeroM : Array Value := #[.int .i64 0, .int .i64 0, .slice none 0 0, .slice none 0 0]
/-- A machine's block in which the copy's numbers and End stand. -/
def Half (w : World) (n0 ob : Nat) (m : A.Mac) (nv : Value) : Prop := ∃ ev g, n0 ≤ g ∧ Fresh w 4 ev (m.fin.map Value.bool) g ∧ Blk w ob 25 #[.int .i64 m.letters, .int .i64 m.start, nv, ev]
theorem Half.frm {w w' : World} {n0 ob : Nat} {m : A.Mac} {nv : Value} {E : Nat → Prop} (h : Half w n0 ob m nv) (F : Frm E w w') (h1 : ¬ E ob) (h2 : ∀ g cs, Blk w g 4 cs → ¬ E g) : Half w' n0 ob m nv := by
  obtain ⟨ev, g, hg, hf, hb⟩ := h
  obtain ⟨c, cs, e, hb2, _⟩ := id hf
  exact ⟨ev, g, hg, hf.frm F (h2 g cs hb2), F.blk hb h1⟩
def pB (n0 : Nat) (xs : List Value) (e : TypeId) (v : Value) (w : World) : Prop := ∃ g, n0 ≤ g ∧ Fresh w e v xs g
def eB (n0 : Nat) (e : TypeId) (v : Value) (w : World) : Prop := ∃ b, v = .slice (some ⟨b, 0, none⟩) 0 0 ∧ n0 ≤ b ∧ Blk w b e #[]
/-- What a store into a machine's block does. -/
def RS (n0 : Nat) (a b : World) : Prop := ∃ ob c d, n0 ≤ ob ∧ Blk a ob 25 c ∧ Blk b ob 25 d ∧ c.size = 4 ∧ d.size = 4 ∧ Frm (fun x => x = ob) a b
theorem RS.blk {n0 g : Nat} {a b : World} {t : TypeId} {cs : Array Value} (h : RS n0 a b) (hb : Blk a g t cs) (ht : t ≠ 25) : Blk b g t cs := by
  obtain ⟨ob, c, d, _, h1, _, _, _, F⟩ := h
  refine F.blk hb fun e => ht ?_
  subst e
  have := hb.symm.trans h1
  simp only [Option.some.injEq, Obj.cells.injEq] at this
  exact this.2.1
theorem pB.rs {n0 : Nat} {xs : List Value} {e : TypeId} {v : Value} {a b : World} (h : pB n0 xs e v a) (r : RS n0 a b) (ht : e ≠ 25) : pB n0 xs e v b := by
  obtain ⟨g, hg, c, cs, e1, hb, hc⟩ := h
  exact ⟨g, hg, c, cs, e1, r.blk hb ht, hc⟩
theorem pB.q {n0 : Nat} {xs : List Value} {e : TypeId} {v : Value} {a b : World} (h : pB n0 xs e v a) (r : Frm (fun _ => False) a b) : pB n0 xs e v b := by
  obtain ⟨g, hg, hf⟩ := h
  exact ⟨g, hg, hf.frm r id⟩
theorem eB.rs {n0 : Nat} {e : TypeId} {v : Value} {a b : World} (h : eB n0 e v a) (r : RS n0 a b) (ht : e ≠ 25) : eB n0 e v b := by
  obtain ⟨g, e1, hg, hb⟩ := h
  exact ⟨g, e1, hg, r.blk hb ht⟩
theorem eB.q {n0 : Nat} {e : TypeId} {v : Value} {a b : World} (h : eB n0 e v a) (r : Frm (fun _ => False) a b) : eB n0 e v b := by
  obtain ⟨g, e1, hg, hb⟩ := h
  exact ⟨g, e1, hg, r.blk hb id⟩
/-- A pointer to a new machine's block. -/
def pM (n0 : Nat) (v : Value) (w : World) : Prop := ∃ b cs, v = .pointer (some ⟨b, 0, none⟩) ∧ n0 ≤ b ∧ cs.size = 4 ∧ Blk w b 25 cs
theorem pM.rs {n0 : Nat} {v : Value} {a b : World} (h : pM n0 v a) (r : RS n0 a b) : pM n0 v b := by
  obtain ⟨g, cs, e, hg, hs, hb⟩ := h
  obtain ⟨ob, c, d, _, h1, h2, h3, h4, F⟩ := r
  by_cases e' : g = ob
  · subst e'
    exact ⟨g, d, e, hg, h4, h2⟩
  · exact ⟨g, cs, e, hg, hs, F.blk hb e'⟩
theorem pM.q {n0 : Nat} {v : Value} {a b : World} (h : pM n0 v a) (r : Frm (fun _ => False) a b) : pM n0 v b := by
  obtain ⟨g, cs, e, hg, hs, hb⟩ := h
  exact ⟨g, cs, e, hg, hs, r.blk hb id⟩
/-- A machine's value whose End is a new row. -/
def bM (n0 : Nat) (m : A.Mac) (v : Value) (w : World) : Prop := ∃ ev, v = .agg #[.int .i64 m.letters, .int .i64 m.start, .slice none 0 0, ev] ∧ pB n0 (m.fin.map Value.bool) 4 ev w
def hM (n0 : Nat) (m : A.Mac) (v : Value) (w : World) : Prop := ∃ b, v = .pointer (some ⟨b, 0, none⟩) ∧ n0 ≤ b ∧ Half w n0 b m (.slice none 0 0)
theorem hM.q {n0 : Nat} {m : A.Mac} {v : Value} {a b : World} (h : hM n0 m v a) (r : Frm (fun _ => False) a b) : hM n0 m v b := by
  obtain ⟨ob, e, hg, hh⟩ := h
  exact ⟨ob, e, hg, hh.frm r id fun _ _ _ => id⟩
/-- The rows copied so far. -/
def RowsC (w : World) (n0 : Nat) (nv : Value) (rows : List (List Int)) : Prop := ∃ vals : List Value, vals.length = rows.length ∧ w.ownsRow n0 26 1 nv rows.length vals ∧ ∀ i (h : i < rows.length) (h' : i < vals.length), pB n0 (rows[i].map (Value.int .i64)) 3 vals[i] w
theorem own_type {w : World} {n0 n : Nat} {e : TypeId} {v : Value} {xs : List Value} (h : w.ownsRow n0 e 1 v n xs) {g : Nat} (hg : v.ownBlock = some g) : n0 ≤ g ∧ ∃ cs, Blk w g e cs := by
  rcases h.2 with ⟨rfl, _⟩ | ⟨g', cap, cur, rfl, h1, h2, _⟩
  · cases hg
  · injection hg with hg
    subst hg
    exact ⟨h1, cur, h2⟩
theorem blk_type {w : World} {g : Nat} {t t' : TypeId} {cs cs' : Array Value} (h : Blk w g t cs) (h' : Blk w g t' cs') : t = t' := by
  have := h.symm.trans h'
  simp only [Option.some.injEq, Obj.cells.injEq] at this
  exact this.2.1
theorem pB.fr {n0 : Nat} {xs : List Value} {e : TypeId} {v : Value} {a b : World} {E : Nat → Prop} (h : pB n0 xs e v a) (F : Frm E a b) (hE : ∀ g cs, Blk a g e cs → ¬ E g) : pB n0 xs e v b := by
  obtain ⟨g, hg, c, cs, e1, hb, hc⟩ := h
  exact ⟨g, hg, c, cs, e1, F.blk hb (hE g cs hb), hc⟩
theorem pB.bools {n0 : Nat} {l : List Bool} {v : Value} {w : World} (h : pB n0 (l.map Value.bool) 4 v w) : Bools w (fun b => n0 ≤ b) v l := by
  obtain ⟨g, hg, hf⟩ := h
  obtain ⟨A0, c, e, h⟩ := hf.bools
  exact ⟨A0, c, e, fun k hk => by obtain ⟨g', o, e1, e2, h3⟩ := h k hk; exact ⟨g', o, e1, by rw [e2]; exact hg, h3⟩⟩
theorem pB.ints {n0 : Nat} {l : List Int} {v : Value} {w : World} (h : pB n0 (l.map (Value.int .i64)) 3 v w) : Ints w (fun b => n0 ≤ b) v l := by
  obtain ⟨g, hg, hf⟩ := h
  obtain ⟨A0, c, e, h⟩ := hf.ints
  exact ⟨A0, c, e, fun k hk => by obtain ⟨g', o, e1, e2, h3⟩ := h k hk; exact ⟨g', o, e1, by rw [e2]; exact hg, h3⟩⟩
theorem RowsC.rows2 {w : World} {n0 : Nat} {nv : Value} {rows : List (List Int)} (h : RowsC w n0 nv rows) : Rows2 w (fun b => n0 ≤ b) nv rows := by
  obtain ⟨vals, h1, h2, h3⟩ := h
  obtain ⟨A0, c, rfl⟩ := own_form h2
  refine ⟨A0, c, rfl, fun k hk => ?_⟩
  have hk' : k < vals.length := by omega
  rcases h2.2 with ⟨_, hn⟩ | ⟨g, cap, cur, e, hb, _⟩
  · omega
  · injection e with e1 e2 e3
    subst e1
    have hc := @World.ownsRow.cells _ _ _ _ _ _ _ h2 g rfl k vals[k] (by simp [hk'])
    rw [add_zero_off] at hc
    exact ⟨g, 0, _, rfl, hb, by rw [Nat.zero_add]; exact hc, (h3 k hk hk').ints⟩
def oneB (n1 : Nat) (v9 v8 : Value) (w : World) : Prop := ∃ b, v9 = .slice (some ⟨b, 0, none⟩) 1 1 ∧ n1 ≤ b ∧ Blk w b 26 #[v8]
def growB (n0 k : Nat) (vals : List Value) (v10 v8 : Value) (w : World) : Prop := w.ownsRow n0 26 1 v10 (k + 1) (vals ++ [v8])
def RA (own : Option Nat) (a b : World) : Prop := Frm (fun x => own = some x) a b ∧ ∀ x, own = some x → ∃ cs, Blk a x 26 cs
def RB (ob : Nat) (a b : World) : Prop := Frm (fun x => x = ob) a b ∧ ∃ cs, Blk a ob 25 cs
theorem RA.blk {own : Option Nat} {g : Nat} {a b : World} {t : TypeId} {cs : Array Value} (h : RA own a b) (hb : Blk a g t cs) (ht : t ≠ 26) : Blk b g t cs :=
  h.1.blk hb fun e => by obtain ⟨cs', h'⟩ := h.2 g e; exact ht (blk_type hb h')
theorem RB.blk {ob g : Nat} {a b : World} {t : TypeId} {cs : Array Value} (h : RB ob a b) (hb : Blk a g t cs) (ht : t ≠ 25) : Blk b g t cs :=
  h.1.blk hb fun e => by obtain ⟨cs', h'⟩ := h.2; subst e; exact ht (blk_type hb h')
theorem pB.ra {n0 : Nat} {xs : List Value} {e : TypeId} {v : Value} {own : Option Nat} {a b : World} (h : pB n0 xs e v a) (r : RA own a b) (ht : e ≠ 26) : pB n0 xs e v b := by
  obtain ⟨g, hg, c, cs, e1, hb, hc⟩ := h
  exact ⟨g, hg, c, cs, e1, r.blk hb ht, hc⟩
theorem pB.rb {n0 : Nat} {xs : List Value} {e : TypeId} {v : Value} {ob : Nat} {a b : World} (h : pB n0 xs e v a) (r : RB ob a b) (ht : e ≠ 25) : pB n0 xs e v b := by
  obtain ⟨g, hg, c, cs, e1, hb, hc⟩ := h
  exact ⟨g, hg, c, cs, e1, r.blk hb ht, hc⟩
theorem eB.ra {n0 : Nat} {e : TypeId} {v : Value} {own : Option Nat} {a b : World} (h : eB n0 e v a) (r : RA own a b) (ht : e ≠ 26) : eB n0 e v b := by
  obtain ⟨g, e1, hg, hb⟩ := h
  exact ⟨g, e1, hg, r.blk hb ht⟩
theorem eB.rb {n0 : Nat} {e : TypeId} {v : Value} {ob : Nat} {a b : World} (h : eB n0 e v a) (r : RB ob a b) (ht : e ≠ 25) : eB n0 e v b := by
  obtain ⟨g, e1, hg, hb⟩ := h
  exact ⟨g, e1, hg, r.blk hb ht⟩
theorem Half.ra {n0 ob : Nat} {m : A.Mac} {nv : Value} {own : Option Nat} {a b : World} (h : Half a n0 ob m nv) (r : RA own a b) : Half b n0 ob m nv := by
  obtain ⟨ev, g, hg, ⟨c, cs, e, hb2, hc⟩, hb⟩ := h
  exact ⟨ev, g, hg, ⟨c, cs, e, r.blk hb2 (by decide), hc⟩, r.blk hb (by decide)⟩
theorem growB.rb {n0 k ob : Nat} {vals : List Value} {v10 v8 : Value} {a b : World} (h : growB n0 k vals v10 v8 a) (r : RB ob a b) : growB n0 k vals v10 v8 b :=
  r.1.row h (fun g hg e => by
    obtain ⟨_, cs, h1⟩ := own_type h hg
    obtain ⟨cs', h2⟩ := r.2
    subst e
    have := blk_type h1 h2
    revert this
    decide) (Nat.le_refl _)
theorem wp_app_own {P : Program} {o : Oper} {a : Act} {w : World} {K : Act → World → Prop} {Q : Exit → Act → World → Prop} (s x : Operand) {t e : TypeId} {i : TypeInfo} {z : Value} {bytes n0 n b : Nat} {v u : Value} {xs : List Value}
    (ho : o.op = .call { callee := .builtin .append, args := #[s, x], argTypes := #[t, t] }) (ht : P.underlying t = some (.slice e)) (hi : P.info? e = some i) (hz : i.zero = some z) (hsize : i.size = 1) (hby : i.bytes = bytes) (hzs : z.cells.size = 1)
    (hv : a.eval s = v) (hx : a.eval x = .slice (some ⟨b, 0, none⟩) 1 1) (hown : w.ownsRow n0 e 1 v n xs) (hb : Blk w b e #[u]) (h1 : u.oneCell' = true) (h63 : n + 1 ≤ maxLen) (hbytes : (n + 1) * bytes ≤ 140737488355328) (hbase : n0 ≤ w.heap.size)
    (h : ∀ v' w', w'.ownsRow n0 e 1 v' (n + 1) (xs ++ [u]) → w.grownBy w' v.ownBlock → K (a.put o.dst v') w') : o.wp P a w K Q := by
  obtain ⟨v', w', hr, h2, h3, _, _⟩ := run_append_own_at (P := P) w n0 t o.type e i z 1 bytes ht hi hz hsize hby hzs (by decide) v n xs hown ⟨b, 0, none⟩ 1 1 [u] rfl (fun j y hy => by
    match j, hy with
    | 0, hy =>
      simp only [List.getElem?_cons_zero, Option.some.injEq] at hy
      subst hy
      exact hb.cell 0) (fun y hy => by rw [List.mem_singleton.1 hy]; exact h1) h63 hbytes hbase
  unfold Oper.wp execOp
  simp only [ho, resolve, invoke, builtin, Sem.run_bind, Sem.run_pure, Result.andThen_ok, List.map_toArray, List.map_cons, List.map_nil, hv, hx, hr]
  exact h v' w' h2 h3
theorem info_row : (Try.prog.info? 26).map (fun i => (i.zero, i.size, i.bytes)) = some (some (.slice none 0 0), 1, 24) := by kernel_rfl
set_option maxRecDepth 100000 in
set_option maxHeartbeats 16000000 in
theorem copy_any {w : World} {P : Nat → Prop} {v : Value} {m : A.Mac} (h : MachAt w P v m) (hn : m.next.length ≤ 8000) (he : m.fin.length ≤ 140737488355328) (hr : ∀ row ∈ m.next, row.length * 8 ≤ 140737488355328) :
    Calls Try.prog 9 #[v] w fun e w' => ∃ r, e = .returned r ∧ MachAt w' (fun b => w.heap.size ≤ b) r m ∧ Frm (fun _ => False) w w' := by
  obtain ⟨A1, c1, A2, c2, rfl⟩ := h.form
  have F0 : Frm (fun _ => False) w (w.alloc (.cells (macC m A1 c1 A2 c2) 25)) := (Frm.refl _ w).alloc _
  have bx := Blk.new w 25 (macC m A1 c1 A2 c2)
  have HM := Lib.hid h
  have HR := Lib.hid hr
  have x0 := bx.cell 0
  have x1 := bx.cell 1
  have x2 := bx.cell 2
  have x3 := bx.cell 3
  simp only [macC] at x0 x1 x2 x3
  have BX := Lib.hid bx
  have HF0 := Lib.hid F0
  clear bx F0 h hr
  go_enter Try.func9, Try.ntmps9
  go_wp2_with fail
  obtain ⟨W1, hW1⟩ : ∃ W1, W1 = (w.alloc (.cells #[.int .i64 m.letters, .int .i64 m.start, .slice A1 m.next.length c1, .slice A2 m.fin.length c2] 25)).alloc (.cells #[.int .i64 0, .int .i64 0, .slice none 0 0, .slice none 0 0] 25) := ⟨_, rfl⟩
  have BX1 : Hid (Blk W1 w.heap.size 25 (macC m A1 c1 A2 c2)) := by rw [hW1]; exact BX.out.alloc _
  have BZ1 : Hid (Blk W1 (w.heap.size + 1) 25 zeroM) := by rw [hW1]; exact blk_at (by simp)
  have HF1 : Hid (Frm (fun _ => False) w W1) := by rw [hW1]; exact HF0.out.alloc _
  have HN1 := Lib.hid (show W1.heap.size = w.heap.size + 2 by rw [hW1]; simp)
  rw [← hW1]
  clear hW1 BX HF0 x0 x1 x2 x3
  have HM0 := Lib.hid (MachAt.below HM.out)
  refine wp_region_dep [5, 6, 7, 8, 9, 10, 11, 12, 13, 3, 1000] [[0], [1], [2], [3], [4], [5], [6], [7], [8], [9], [9]]
    [f1 (vV (.pointer (some ⟨w.heap.size, 0, none⟩))), f1 (vV (.int .i64 m.letters)), f1 (vV (.pointer (some ⟨w.heap.size, 1, none⟩))), f1 (vV (.int .i64 m.start)), f1 (eB (w.heap.size + 2) 4), f1 (vV (.pointer (some ⟨w.heap.size, 3, none⟩))), f1 (vV (.slice A2 m.fin.length c2)),
     f1 (pB (w.heap.size + 2) (m.fin.map Value.bool) 4), f1 (bM (w.heap.size + 2) m), f1 (pM (w.heap.size + 2)), f1 (hM (w.heap.size + 2) m)]
    (Frm (fun b => w.heap.size + 2 ≤ b)) (fun i => if i = 10 then RS (w.heap.size + 2) else Frm (fun _ => False)) (fun _ _ => True) [] [(1, .pointer (some ⟨w.heap.size, 0, none⟩))] (by kernel_rfl) (by kernel_rfl) (fun _ _ _ => Frm.trans) ?_ ?_ (fun _ _ _ _ _ _ _ _ _ => trivial) (fun _ => trivial) (fun _ h => by cases h) (Frm.refl _ _).drew ?_ ?_ ?_
  · intro i a b h
    split at h
    · obtain ⟨ob, c, d, h1, _, _, _, _, F⟩ := h
      exact F.mono fun x _ e => by rw [e]; exact h1
    · exact h.mono fun _ _ h => h.elim
  · intro j i hj hi hne hna l a b hf hr
    have hj' : j < 11 := hj
    by_cases h10 : i = 10
    · subst h10
      rw [if_pos rfl] at hr
      have hcs : j = 0 ∨ j = 1 ∨ j = 2 ∨ j = 3 ∨ j = 4 ∨ j = 5 ∨ j = 6 ∨ j = 7 ∨ j = 8 ∨ j = 9 := by omega
      rcases hcs with rfl | rfl | rfl | rfl | rfl | rfl | rfl | rfl | rfl | rfl
      · exact hf
      · exact hf
      · exact hf
      · exact hf
      · exact eB.rs hf hr (by decide)
      · exact hf
      · exact hf
      · exact pB.rs hf hr (by decide)
      · obtain ⟨ev, e, he⟩ := hf
        exact ⟨ev, e, he.rs hr (by decide)⟩
      · exact pM.rs hf hr
    · rw [if_neg h10] at hr
      have hcs : j = 0 ∨ j = 1 ∨ j = 2 ∨ j = 3 ∨ j = 4 ∨ j = 5 ∨ j = 6 ∨ j = 7 ∨ j = 8 ∨ j = 9 ∨ j = 10 := by omega
      rcases hcs with rfl | rfl | rfl | rfl | rfl | rfl | rfl | rfl | rfl | rfl | rfl
      · exact hf
      · exact hf
      · exact hf
      · exact hf
      · exact eB.q hf hr
      · exact hf
      · exact hf
      · exact pB.q hf hr
      · obtain ⟨ev, e, he⟩ := hf
        exact ⟨ev, e, he.q hr⟩
      · exact pM.q hf hr
      · exact hM.q hf hr
  · intro x hx
    simp only [List.mem_cons, List.not_mem_nil, or_false] at hx
    subst hx
    exact ⟨by simp, rfl⟩
  · refine ⟨?_, ?_, ?_, ?_, ?_, ?_, ?_, ?_, ?_, ?_, ?_, trivial⟩
    · intro Q tm df V hR _ hu hd
      have u1 : tm[1]?.getD undef = .pointer (some ⟨w.heap.size, 0, none⟩) := hu (1, _) (by simp)
      clear hu hd
      go_simp
      exact ⟨_, rfl, rfl, Frm.refl _ V⟩
    · intro Q tm df V hR _ hu hd
      have e0 : tm[5]?.getD undef = .pointer (some ⟨w.heap.size, 0, none⟩) := hd 0 (by simp)
      have y := (hR.blk BX1.out (show ¬ w.heap.size + 2 ≤ w.heap.size by omega)).cell 0
      simp only [macC] at y
      clear hu hd
      go_simp
      exact ⟨_, rfl, rfl, Frm.refl _ V⟩
    · intro Q tm df V hR _ hu hd
      have u1 : tm[1]?.getD undef = .pointer (some ⟨w.heap.size, 0, none⟩) := hu (1, _) (by simp)
      clear hu hd
      go_simp
      exact ⟨_, rfl, rfl, Frm.refl _ V⟩
    · intro Q tm df V hR _ hu hd
      have e0 : tm[7]?.getD undef = .pointer (some ⟨w.heap.size, 1, none⟩) := hd 2 (by simp)
      have y := (hR.blk BX1.out (show ¬ w.heap.size + 2 ≤ w.heap.size by omega)).cell 1
      simp only [macC] at y
      clear hu hd
      go_simp
      exact ⟨_, rfl, rfl, Frm.refl _ V⟩
    · intro Q tm df V hR _ hu hd
      clear hu hd
      go_simp
      exact ⟨_, rfl, ⟨V.heap.size, rfl, by have := hR.1; have := HN1.out; omega, Blk.new _ _ _⟩, (Frm.refl _ V).alloc _⟩
    · intro Q tm df V hR _ hu hd
      have u1 : tm[1]?.getD undef = .pointer (some ⟨w.heap.size, 0, none⟩) := hu (1, _) (by simp)
      clear hu hd
      go_simp
      exact ⟨_, rfl, rfl, Frm.refl _ V⟩
    · intro Q tm df V hR _ hu hd
      have e0 : tm[10]?.getD undef = .pointer (some ⟨w.heap.size, 3, none⟩) := hd 5 (by simp)
      have y := (hR.blk BX1.out (show ¬ w.heap.size + 2 ≤ w.heap.size by omega)).cell 3
      simp only [macC] at y
      clear hu hd
      go_simp
      exact ⟨_, rfl, rfl, Frm.refl _ V⟩
    · intro Q tm df V hR _ hu hd
      obtain ⟨b, e0, hb1, hb2⟩ : eB (w.heap.size + 2) 4 (tm[9]?.getD undef) V := hd 4 (by simp)
      have e1 : tm[11]?.getD undef = .slice A2 m.fin.length c2 := hd 6 (by simp)
      obtain ⟨i0, hi0, hz0, hz1, hz2⟩ := info_parts info_boolE
      obtain ⟨nv, ev, ee, _, hE⟩ := (HM0.out.keep0 HF1.out).keep hR fun b hb hb' => by omega
      simp only [Value.agg.injEq, Array.mk.injEq, List.cons.injEq, and_true] at ee
      obtain ⟨_, _, _, rfl⟩ := ee
      refine wp_app_empty (.tmp 9) (.tmp 11) rfl Try.underlying23 hi0 hz0 hz1 hz2 (by simpa [Act.eval] using e0) (by simpa [Act.eval] using e1) hb2 (bools_src hE) (by omega) (by omega) fun v' w' g hg F hf => ?_
      exact ⟨_, rfl, (fun h => by cases h), ⟨g, by have := hR.1; have := HN1.out; rcases hg with rfl | rfl <;> omega, hf⟩, F⟩
    · intro Q tm df V hR _ hu hd
      have e0 : tm[6]?.getD undef = .int .i64 m.letters := hd 1 (by simp)
      have e1 : tm[8]?.getD undef = .int .i64 m.start := hd 3 (by simp)
      obtain ⟨g, hg, c, cs, e2, hb2, hc2⟩ : pB (w.heap.size + 2) (m.fin.map Value.bool) 4 (tm[12]?.getD undef) V := hd 7 (by simp)
      rw [List.length_map] at e2
      clear hu hd
      go_simp
      exact ⟨_, rfl, ⟨_, rfl, g, hg, c, cs, by rw [List.length_map], hb2, hc2⟩, Frm.refl _ V⟩
    · intro Q tm df V hR _ hu hd
      clear hu hd
      go_simp
      exact ⟨_, rfl, ⟨V.heap.size, _, rfl, by have := hR.1; have := HN1.out; omega, rfl, Blk.new _ _ _⟩, (Frm.refl _ V).alloc _⟩
    · intro Q tm df V hR _ hu hd
      obtain ⟨ev, e0, g, hg, c, cs', rfl, hb2, hc2⟩ : bM (w.heap.size + 2) m (tm[13]?.getD undef) V := hd 8 (by simp)
      obtain ⟨b, cs, e1, hb, hs, hbk⟩ : pM (w.heap.size + 2) (tm[3]?.getD undef) V := hd 9 (by simp)
      rw [List.length_map] at e0
      obtain ⟨k0, k1, k2, k3, rfl⟩ : ∃ k0 k1 k2 k3, cs = #[k0, k1, k2, k3] := Go.Joins.array4 hs
      have y0 := hbk.cell 0
      have y1 := hbk.cell 1
      have y2 := hbk.cell 2
      have y3 := hbk.cell 3
      have z0 := hbk.frozen 0
      have z1 := hbk.frozen 1
      have z2 := hbk.frozen 2
      have z3 := hbk.frozen 3
      clear hu hd
      have hrs : RS (w.heap.size + 2) V (put4 V b (.int .i64 m.letters) (.int .i64 m.start) (.slice none 0 0) (.slice (some ⟨g, 0, none⟩) m.fin.length c)) := ⟨b, _, _, hb, hbk, put4_blk hbk, rfl, rfl, put4_frm1⟩
      have hh : Half (put4 V b (.int .i64 m.letters) (.int .i64 m.start) (.slice none 0 0) (.slice (some ⟨g, 0, none⟩) m.fin.length c)) (w.heap.size + 2) b m (.slice none 0 0) := ⟨_, g, hg, ⟨c, cs', by rw [List.length_map], hrs.blk hb2 (by decide), hc2⟩, put4_blk hbk⟩
      have HH := Lib.hid hh
      have HRS := Lib.hid hrs
      clear hrs hh
      go_simp
      exact ⟨⟨b, e1, hb, HH.out⟩, HRS.out⟩
  · intro vs V hR hf
    obtain ⟨ob, e9, hob, hh⟩ : hM (w.heap.size + 2) m (vs 9) V := hf 10 (by decide)
    clear hf
    simp only [putAll, List.size_toArray, List.length_cons, List.length_nil, Nat.zero_add, Nat.reduceAdd, show List.range 11 = [0, 1, 2, 3, 4, 5, 6, 7, 8, 9, 10] from rfl, List.foldl_cons, List.foldl_nil, List.getD_cons_zero, List.getD_cons_succ, List.setIfInBounds_toArray, List.set_cons_zero, List.set_cons_succ, e9]
    go_wp2_with fail
    have HFV : Hid (Frm (fun _ => False) w V) := HF1.out.trans (hR.mono fun b hb h => by have := HN1.out; omega)
    have HBX := Lib.hid (hR.blk BX1.out (show ¬ w.heap.size + 2 ≤ w.heap.size by omega))
    have HBZ := Lib.hid (hR.blk BZ1.out (show ¬ w.heap.size + 2 ≤ w.heap.size + 1 by omega))
    have HH := Lib.hid hh
    have HLV : Hid (w.heap.size + 2 ≤ V.heap.size) := show _ ≤ _ by have := hR.1; have := HN1.out; omega
    clear hh hR BX1 BZ1 HF1 HN1 e9
    go_loopg [4] (m.next.length + 1) (fun n i wr => ∃ (k : Nat) (nv : Value), k ≤ m.next.length ∧ n = m.next.length + 1 - k ∧ i = .int .i64 (k : Int) ∧ Hid (Half wr (w.heap.size + 2) ob m nv) ∧ Hid (RowsC wr (w.heap.size + 2) nv (m.next.take k)) ∧ Hid (Blk wr w.heap.size 25 (macC m A1 c1 A2 c2)) ∧ Hid (Blk wr (w.heap.size + 1) 25 zeroM) ∧ Hid (Frm (fun _ => False) w wr) ∧ Hid (w.heap.size + 2 ≤ wr.heap.size))
    case atStart => exact ⟨0, _, Nat.zero_le _, rfl, rfl, HH, ⟨[], rfl, World.ownsRow_nil _ _ _ _, fun _ h => absurd h (by simp)⟩, HBX, HBZ, HFV, HLV⟩
    case round =>
      obtain ⟨k, nv, hk, rfl, rfl, HH, HC, HBX, HBZ, HF, HLW⟩ := hrel
      have y2 := HBX.out.cell 2
      simp only [macC] at y2
      by_cases hlt : k < m.next.length
      · have hlt' : (k : Int) < (m.next.length : Int) := by omega
        go_wp2_with fail
        obtain ⟨g, o, A3, c3, hA, hc, hrow⟩ := HM0.out.next_at hlt
        subst hA
        obtain ⟨vals, hv1, hv2, hv3⟩ := HC.out
        have hkl : (m.next.take k).length = k := by rw [List.length_take]; omega
        rw [hkl] at hv1 hv2
        have HV2 := Lib.hid hv2
        have HV3 := Lib.hid hv3
        have HV1 := Lib.hid hv1
        have HRW := Lib.hid (show Ints w (fun b => b < w.heap.size) (.slice A3 m.next[k].length c3) m.next[k] from ⟨A3, c3, rfl, hrow⟩)
        have HRL := Lib.hid (HR.out _ (List.getElem_mem hlt))
        have HOWN : Hid (∀ x, nv.ownBlock = some x → w.heap.size + 2 ≤ x ∧ x < wr.heap.size) := fun x hx => World.ownsRow.lt HV2.out x hx
        have HOB : Hid (ob < wr.heap.size) := show _ < _ by obtain ⟨_, _, _, _, hb⟩ := HH.out; exact hb.lt
        have HCW := Lib.hid (show g < w.heap.size from cell_lt hc)
        have HC2 := Lib.hid hc
        clear hv1 hv2 hv3 hrow hc
        generalize hrowe : m.next[k] = row at *
        refine wp_region_dep [21, 22, 23, 24, 25, 26, 27, 28, 29, 30, 31, 32, 1000] [[0], [1], [2], [3], [4], [5], [6], [7], [8], [9, 8], [10, 8], [11], [10]]
          [f1 (vV (.pointer (some ⟨ob, 2, none⟩))), f1 (vV nv), f1 (eB wr.heap.size 3), f1 (vV (.pointer (some ⟨w.heap.size, 2, none⟩))), f1 (vV (.slice (some ⟨g, o, none⟩) m.next.length c1)), f1 (vV (.int .i64 (k : Int))), f1 (vV (.pointer (some ⟨g, o + k, none⟩))), f1 (vV (.slice A3 row.length c3)), f1 (pB wr.heap.size (row.map (Value.int .i64)) 3), f2 (oneB wr.heap.size), f2 (growB (w.heap.size + 2) k vals), f1 (vV (.pointer (some ⟨ob, 2, none⟩))), f1 (fun v w' => Half w' (w.heap.size + 2) ob m v)]
          (Frm (fun b => b = ob ∨ nv.ownBlock = some b)) (fun i => if i = 10 then RA nv.ownBlock else if i = 12 then RB ob else Frm (fun _ => False)) (fun i w' => if i = 10 then w'.ownsRow (w.heap.size + 2) 26 1 nv k vals else if i = 12 ∨ i = 1 then Half w' (w.heap.size + 2) ob m nv else True) []
          [(1, .pointer (some ⟨w.heap.size, 0, none⟩)), (3, .pointer (some ⟨ob, 0, none⟩)), (4, .int .i64 (k : Int))] (by kernel_rfl) (by kernel_rfl) (fun _ _ _ => Frm.trans) ?_ ?_ ?_ ?_ (fun _ h => by cases h) (Frm.refl _ _).drew ?_ ?_ ?_
        · intro i a b h
          split at h
          · exact h.1.mono fun _ _ h => .inr h
          · split at h
            · exact h.1.mono fun _ _ h => .inl h
            · exact h.mono fun _ _ h => h.elim
        · intro j i hj hi hne hna l a b hf hr
          have hj' : j < 13 := hj
          by_cases h10 : i = 10
          · subst h10
            rw [if_pos rfl] at hr
            have hcs : j = 0 ∨ j = 1 ∨ j = 2 ∨ j = 3 ∨ j = 4 ∨ j = 5 ∨ j = 6 ∨ j = 7 ∨ j = 8 ∨ j = 9 ∨ j = 11 ∨ j = 12 := by omega
            rcases hcs with rfl | rfl | rfl | rfl | rfl | rfl | rfl | rfl | rfl | rfl | rfl | rfl
            · exact hf
            · exact hf
            · exact eB.ra hf hr (by decide)
            · exact hf
            · exact hf
            · exact hf
            · exact hf
            · exact hf
            · exact pB.ra hf hr (by decide)
            · obtain ⟨b', e, hb1, hb2⟩ := hf
              refine ⟨b', e, hb1, hr.1.blk hb2 fun e' => ?_⟩
              have := (HOWN.out b' e').2
              omega
            · exact hf
            · simp at hna
          · rw [if_neg h10] at hr
            by_cases h12 : i = 12
            · subst h12
              rw [if_pos rfl] at hr
              have hcs : j = 0 ∨ j = 1 ∨ j = 2 ∨ j = 3 ∨ j = 4 ∨ j = 5 ∨ j = 6 ∨ j = 7 ∨ j = 8 ∨ j = 9 ∨ j = 10 ∨ j = 11 := by omega
              rcases hcs with rfl | rfl | rfl | rfl | rfl | rfl | rfl | rfl | rfl | rfl | rfl | rfl
              · exact hf
              · exact hf
              · exact eB.rb hf hr (by decide)
              · exact hf
              · exact hf
              · exact hf
              · exact hf
              · exact hf
              · exact pB.rb hf hr (by decide)
              · obtain ⟨b', e, hb1, hb2⟩ := hf
                exact ⟨b', e, hb1, hr.blk hb2 (by decide)⟩
              · exact growB.rb hf hr
              · exact hf
            · rw [if_neg h12] at hr
              have hcs : j = 0 ∨ j = 1 ∨ j = 2 ∨ j = 3 ∨ j = 4 ∨ j = 5 ∨ j = 6 ∨ j = 7 ∨ j = 8 ∨ j = 9 ∨ j = 10 ∨ j = 11 ∨ j = 12 := by omega
              rcases hcs with rfl | rfl | rfl | rfl | rfl | rfl | rfl | rfl | rfl | rfl | rfl | rfl | rfl
              · exact hf
              · exact hf
              · exact eB.q hf hr
              · exact hf
              · exact hf
              · exact hf
              · exact hf
              · exact hf
              · exact pB.q hf hr
              · obtain ⟨b', e, hb1, hb2⟩ := hf
                exact ⟨b', e, hb1, hr.blk hb2 id⟩
              · exact hr.row hf (fun _ _ => id) (Nat.le_refl _)
              · exact hf
              · exact Half.frm hf hr id fun _ _ _ => id
        · intro i j hj hne hna a b hf hr
          by_cases h10 : i = 10
          · subst h10
            rw [if_pos rfl] at hf ⊢
            rw [if_neg (Ne.symm hne)] at hr
            by_cases h12 : j = 12
            · subst h12
              simp at hna
            · rw [if_neg h12] at hr
              exact hr.row hf (fun _ _ => id) (Nat.le_refl _)
          · rw [if_neg h10] at hf ⊢
            by_cases h12 : i = 12 ∨ i = 1
            · rw [if_pos h12] at hf ⊢
              by_cases j10 : j = 10
              · rw [if_pos j10] at hr
                exact Half.ra hf hr
              · rw [if_neg j10] at hr
                by_cases j12 : j = 12
                · subst j12
                  rcases h12 with h | h
                  · exact absurd h hne
                  · subst h
                    simp at hna
                · rw [if_neg j12] at hr
                  exact Half.frm hf hr id fun _ _ _ => id
            · rw [if_neg h12]
              trivial
        · intro i
          split
          · exact HV2.out
          · split
            · exact HH.out
            · trivial
        · intro x hx
          simp only [List.mem_cons, List.not_mem_nil, or_false] at hx
          rcases hx with rfl | rfl | rfl <;> exact ⟨by simp, rfl⟩
        · refine ⟨?_, ?_, ?_, ?_, ?_, ?_, ?_, ?_, ?_, ?_, ?_, ?_, ?_, trivial⟩
          · intro Q tm df V hR _ hu hd
            have u1 : tm[3]?.getD undef = .pointer (some ⟨ob, 0, none⟩) := hu (3, _) (by simp)
            clear hu hd
            go_simp
            exact ⟨_, rfl, rfl, Frm.refl _ V⟩
          · intro Q tm df V hR hx hu hd
            obtain ⟨ev, g', _, _, hb⟩ : Half V (w.heap.size + 2) ob m nv := hx
            have e0 : tm[21]?.getD undef = .pointer (some ⟨ob, 2, none⟩) := hd 0 (by simp)
            have y := hb.cell 2
            clear hu hd hb
            go_simp
            exact ⟨_, rfl, rfl, Frm.refl _ V⟩
          · intro Q tm df V hR hx hu hd
            clear hu hd hx
            go_simp
            exact ⟨_, rfl, ⟨V.heap.size, rfl, hR.1, Blk.new _ _ _⟩, (Frm.refl _ V).alloc _⟩
          · intro Q tm df V hR hx hu hd
            have u1 : tm[1]?.getD undef = .pointer (some ⟨w.heap.size, 0, none⟩) := hu (1, _) (by simp)
            clear hu hd hx
            go_simp
            exact ⟨_, rfl, rfl, Frm.refl _ V⟩
          · intro Q tm df V hR hx hu hd
            have e0 : tm[24]?.getD undef = .pointer (some ⟨w.heap.size, 2, none⟩) := hd 3 (by simp)
            have y := (hR.blk HBX.out (by intro h; rcases h with h | h; omega; have := (HOWN.out _ h).1; omega)).cell 2
            simp only [macC] at y
            clear hu hd hx
            go_simp
            exact ⟨_, rfl, rfl, Frm.refl _ V⟩
          · intro Q tm df V hR hx hu hd
            have u1 : tm[4]?.getD undef = .int .i64 (k : Int) := hu (4, _) (by simp)
            clear hu hd hx
            go_simp
            exact ⟨_, rfl, rfl, Frm.refl _ V⟩
          · intro Q tm df V hR hx hu hd
            have e0 : tm[25]?.getD undef = .slice (some ⟨g, o, none⟩) m.next.length c1 := hd 4 (by simp)
            have e1 : tm[26]?.getD undef = .int .i64 (k : Int) := hd 5 (by simp)
            clear hu hd hx
            go_simp
            exact ⟨_, rfl, rfl, Frm.refl _ V⟩
          · intro Q tm df V hR hx hu hd
            have e0 : tm[27]?.getD undef = .pointer (some ⟨g, o + k, none⟩) := hd 6 (by simp)
            have y := hR.cell (by intro h; have h9 := HCW.out; rcases h with h | h; dsimp only at h; omega; have := (HOWN.out _ h).1; dsimp only at this; omega) (HF.out.cell id HC2.out)
            clear hu hd hx
            go_simp
            exact ⟨_, rfl, rfl, Frm.refl _ V⟩
          · intro Q tm df V hR hx hu hd
            obtain ⟨b', e0, hb1, hb2⟩ : eB wr.heap.size 3 (tm[23]?.getD undef) V := hd 2 (by simp)
            have e1 : tm[28]?.getD undef = .slice A3 row.length c3 := hd 7 (by simp)
            obtain ⟨i0, hi0, hz0, hz1, hz2⟩ := info_parts info_int
            have hI := (HRW.out.keep HF.out fun _ _ => id).keep hR (by intro x hx' h; rcases h with h | h; omega; have := (HOWN.out _ h).1; omega)
            have hrl := HRL.out
            refine wp_app_empty (.tmp 23) (.tmp 28) rfl Try.underlying26 hi0 hz0 hz1 hz2 (by simpa [Act.eval] using e0) (by simpa [Act.eval] using e1) hb2 (ints_src hI) (by omega) (by omega) fun v' w' g' hg F hf => ?_
            exact ⟨_, rfl, (fun h => by cases h), ⟨g', by have := hR.1; rcases hg with rfl | rfl <;> omega, hf⟩, F⟩
          · intro Q tm df V hR hx hu hd
            obtain ⟨g8, hg8, c8, cs8, e8, hb8, hc8⟩ : pB wr.heap.size (row.map (Value.int .i64)) 3 (tm[29]?.getD undef) V := hd 8 (by simp)
            rw [List.length_map] at e8
            have HB9 : Hid (Blk (V.alloc (.cells #[.slice (some ⟨g8, 0, none⟩) row.length c8] 26)) V.heap.size 26 #[tm[29]?.getD undef]) := by rw [e8]; exact Blk.new _ _ _
            clear hu hd hx
            go_simp
            exact ⟨_, rfl, ⟨V.heap.size, rfl, hR.1, HB9.out⟩, (Frm.refl _ V).alloc _⟩
          · intro Q tm df V hR hx hu hd
            have hown : V.ownsRow (w.heap.size + 2) 26 1 nv k vals := hx
            have e1 : tm[22]?.getD undef = nv := hd 1 (by simp)
            obtain ⟨b', e9, hb1, hb2⟩ : oneB wr.heap.size (tm[30]?.getD undef) (tm[29]?.getD undef) V := hd 9 (by simp)
            obtain ⟨g8, hg8, c8, cs8, e8, hb8, hc8⟩ : pB wr.heap.size (row.map (Value.int .i64)) 3 (tm[29]?.getD undef) V := hd 8 (by simp)
            obtain ⟨i0, hi0, hz0, hz1, hz2⟩ := info_parts info_row
            refine wp_app_own (.tmp 22) (.tmp 30) rfl Try.underlying22 hi0 hz0 hz1 hz2 rfl (by simpa [Act.eval] using e1) (by simpa [Act.eval] using e9) hown hb2 (by rw [e8]; rfl) (by unfold maxLen; omega) (by omega) (by have := hR.1; have := HLW.out; omega) fun v' w' ho hg => ?_
            exact ⟨v', rfl, (fun h => by cases h), ho, (Frm.refl _ V).grown hg (fun g h _ => h), fun x hx' => (own_type hown hx').2⟩
          · intro Q tm df V hR hx hu hd
            have u1 : tm[3]?.getD undef = .pointer (some ⟨ob, 0, none⟩) := hu (3, _) (by simp)
            clear hu hd hx
            go_simp
            exact ⟨_, rfl, rfl, Frm.refl _ V⟩
          · intro Q tm df V hR hx hu hd
            obtain ⟨ev, g', hg', hf', hb⟩ : Half V (w.heap.size + 2) ob m nv := hx
            have e0 : tm[32]?.getD undef = .pointer (some ⟨ob, 2, none⟩) := hd 11 (by simp)
            have ho : growB (w.heap.size + 2) k vals (tm[31]?.getD undef) (tm[29]?.getD undef) V := hd 10 (by simp)
            obtain ⟨A10, c10, e10⟩ := own_form ho
            have y := hb.cell 2
            have z := hb.frozen 2
            have hrb : RB ob V (V.setCell ⟨ob, 2, none⟩ (.slice A10 (k + 1) c10)) := ⟨(Frm.refl (fun x => x = ob) V).set_ (p := ⟨ob, 2, none⟩) (fun _ => rfl) _, _, hb⟩
            have HRB := Lib.hid hrb
            have HH2 : Hid (Half (V.setCell ⟨ob, 2, none⟩ (.slice A10 (k + 1) c10)) (w.heap.size + 2) ob m (.slice A10 (k + 1) c10)) := by
              obtain ⟨c, cs, e, h1, h2⟩ := hf'
              exact ⟨ev, g', hg', ⟨c, cs, e, hrb.blk h1 (by decide), h2⟩, hb.set_ 2 _⟩
            have H10 := Lib.hid e10
            clear hu hd ho hb hf' hrb
            go_simp
            exact ⟨by rw [show f1 _ _ _ = Half _ _ _ _ _ from rfl, show updV _ 12 undef 10 = tm[31]?.getD undef from rfl, H10.out]; exact HH2.out, HRB.out⟩
        · intro vs V hR hf
          have hN : Half V (w.heap.size + 2) ob m (vs 10) := hf 12 (by decide)
          have hG : growB (w.heap.size + 2) k vals (vs 10) (vs 8) V := hf 10 (by decide)
          have hP : pB wr.heap.size (row.map (Value.int .i64)) 3 (vs 8) V := hf 8 (by decide)
          have hob' := hob
          have HBX2 := Lib.hid (hR.blk HBX.out (by intro h; rcases h with h | h; omega; have := (HOWN.out _ h).1; omega))
          have HBZ2 := Lib.hid (hR.blk HBZ.out (by intro h; rcases h with h | h; omega; have := (HOWN.out _ h).1; omega))
          have HF2 : Hid (Frm (fun _ => False) w V) := ((HF.out.mono fun _ _ h => h.elim).trans hR).mono (by intro x hx h; rcases h with h | h; omega; have := (HOWN.out _ h).1; omega)
          have HLW2 : Hid (w.heap.size + 2 ≤ V.heap.size) := show _ ≤ _ by have := hR.1; have := HLW.out; omega
          have HC2 : Hid (RowsC V (w.heap.size + 2) (vs 10) (m.next.take (k + 1))) := by
            rw [List.take_succ_eq_append_getElem hlt, hrowe]
            refine ⟨vals ++ [vs 8], by simp [HV1.out, hkl], ?_, fun i hi hi' => ?_⟩
            · rw [List.length_append, hkl]
              exact hG
            · by_cases hik : i < k
              · rw [List.getElem_append_left (by rw [hkl]; exact hik), List.getElem_append_left (by rw [HV1.out]; exact hik)]
                refine (HV3.out i (by rw [hkl]; exact hik) (by rw [HV1.out]; exact hik)).fr hR fun g' cs hg' h => ?_
                rcases h with rfl | h
                · obtain ⟨_, _, _, _, hb⟩ := HH.out
                  have := blk_type hg' hb
                  revert this
                  decide
                · obtain ⟨_, cs', hb⟩ := own_type HV2.out h
                  have := blk_type hg' hb
                  revert this
                  decide
              · have hi2 : i = k := by simp [hkl] at hi; omega
                subst hi2
                have e1 : (vals ++ [vs 8])[i]'hi' = vs 8 := by
                  rw [List.getElem_append_right (by rw [HV1.out]; exact Nat.le_refl _)]
                  simp [HV1.out]
                have e2 : (m.next.take i ++ [row])[i]'hi = row := by
                  rw [List.getElem_append_right (by rw [hkl]; exact Nat.le_refl _)]
                  simp [hkl]
                rw [e1, e2]
                obtain ⟨g', hg', hf'⟩ := hP
                exact ⟨g', by have := HLW.out; omega, hf'⟩
          have HN := Lib.hid hN
          clear hN hG hP hf hR
          simp only [putAll, List.size_toArray, List.length_cons, List.length_nil, Nat.zero_add, Nat.reduceAdd, show List.range 13 = [0, 1, 2, 3, 4, 5, 6, 7, 8, 9, 10, 11, 12] from rfl, List.foldl_cons, List.foldl_nil, List.getD_cons_zero, List.getD_cons_succ, List.setIfInBounds_toArray, List.set_cons_zero, List.set_cons_succ]
          go_wp2_with fail
          go_roundg (m.next.length + 1 - (k + 1))
          case measure => omega
          case rel => exact ⟨k + 1, vs 10, by omega, rfl, by go_num, HN, HC2, HBX2, HBZ2, HF2, HLW2⟩
      · have hlt' : ¬ (k : Int) < (m.next.length : Int) := by omega
        obtain rfl : k = m.next.length := by omega
        rw [List.take_length] at HC
        obtain ⟨ev, g, hg, hfr, hb⟩ := HH.out
        obtain ⟨c, cs, rfl, hb2, hc2⟩ := id hfr
        rw [List.length_map] at hb hfr
        obtain ⟨A0, c0, rfl⟩ : ∃ A0 c, nv = .slice A0 m.next.length c := by
          obtain ⟨vals, _, hv2, _⟩ := HC.out
          exact own_form hv2
        have hmach : MachAt wr (fun b => w.heap.size + 2 ≤ b) (.agg #[.int .i64 m.letters, .int .i64 m.start, .slice A0 m.next.length c0, .slice (some ⟨g, 0, none⟩) m.fin.length c]) m := ⟨_, _, rfl, HC.out.rows2, pB.bools ⟨g, hg, hfr⟩⟩
        have HMA := Lib.hid hmach
        have y0 := hb.cell 0
        have y1 := hb.cell 1
        have y2' := hb.cell 2
        have y3 := hb.cell 3
        have z0 := HBZ.out.cell 0
        have z1 := HBZ.out.cell 1
        have z2 := HBZ.out.cell 2
        have z3 := HBZ.out.cell 3
        have q0 := HBZ.out.frozen 0
        have q1 := HBZ.out.frozen 1
        have q2 := HBZ.out.frozen 2
        have q3 := HBZ.out.frozen 3
        simp only [zeroM] at z0 z1 z2 z3
        clear hfr hb2 hc2 hb hmach
        go_wp2_with fail
        have hm2 : MachAt (put4 wr (w.heap.size + 1) (.int .i64 m.letters) (.int .i64 m.start) (.slice A0 m.next.length c0) (.slice (some ⟨g, 0, none⟩) m.fin.length c)) (fun b => w.heap.size ≤ b) (.agg #[.int .i64 m.letters, .int .i64 m.start, .slice A0 m.next.length c0, .slice (some ⟨g, 0, none⟩) m.fin.length c]) m := (HMA.out.keep put4_frm1 fun b hb h => by omega).mono fun b hb => by omega
        refine bodyPost_ret (w := put4 wr (w.heap.size + 1) (.int .i64 m.letters) (.int .i64 m.start) (.slice A0 m.next.length c0) (.slice (some ⟨g, 0, none⟩) m.fin.length c)) (v := .agg #[.int .i64 m.letters, .int .i64 m.start, .slice A0 m.next.length c0, .slice (some ⟨g, 0, none⟩) m.fin.length c]) ?_ rfl ⟨_, rfl, hm2, put4_frm HF.out (by omega)⟩
        have h4 := put4_blk (l := .int .i64 m.letters) (s := .int .i64 m.start) (n := .slice A0 m.next.length c0) (e := .slice (some ⟨g, 0, none⟩) m.fin.length c) HBZ.out
        generalize put4 wr (w.heap.size + 1) (.int .i64 m.letters) (.int .i64 m.start) (.slice A0 m.next.length c0) (.slice (some ⟨g, 0, none⟩) m.fin.length c) = w4 at *
        clear y0 y1 y2 y2' y3 z0 z1 z2 z3 q0 q1 q2 q3
        have y0 := h4.cell 0
        have y1 := h4.cell 1
        have y2 := h4.cell 2
        have y3 := h4.cell 3
        simp [results, Try.results9, go_sem, y0, y1, y2, y3]
end Go.Proofs.Ytbgbkapomklalaa
end
section
namespace Go.Proofs.Ytbgbkapomklalaa
open Go.RowKit
theorem wpList_app_empty {P : Program} {ops : Array Oper} {rest : List Oper} {o : Oper} {a : Act} {w : World} {Q : Exit → Act → World → Prop} (hw : Region.wanted o (yielded ops a.tmps) = true) (s x : Operand) {t e : TypeId} {i : TypeInfo} {z : Value} {bytes n b : Nat} {vx : Value} {xs : List Value}
    (ho : o.op = .call { callee := .builtin .append, args := #[s, x], argTypes := #[t, t] }) (ht : P.underlying t = some (.slice e)) (hi : P.info? e = some i) (hz : i.zero = some z) (hsize : i.size = 1) (hby : i.bytes = bytes)
    (hv : a.eval s = .slice (some ⟨b, 0, none⟩) 0 0) (hx : a.eval x = vx) (hb : Blk w b e #[]) (hs : Src P 1 t vx n xs w) (hbytes : n * bytes ≤ 140737488355328) (h63 : n ≤ 9223372036854775807)
    (h : ∀ v' w', Hid (Frm (fun _ => False) w w') → Hid (∃ g, Fresh w' e v' xs g) → wpList P ops Q rest (a.put o.dst v') w') : wpList P ops Q (o :: rest) a w := by
  unfold wpList
  rw [if_pos hw]
  exact .inl (wp_app_empty s x ho ht hi hz hsize hby hv hx hb hs hbytes h63 fun v' w' g _ F hf => h v' w' F ⟨g, hf⟩)
set_option maxRecDepth 100000 in
set_option maxHeartbeats 16000000 in
theorem valid_law {w : World} {P Q : Nat → Prop} {va vw : Value} {m : A.Mac} {l : List Int} (ha : MachAt w P va m) (hw : Ints w Q vw l) (sm : Sized m) (sf : m.fin.length ≤ 140737488355328) (sr : ∀ row ∈ m.next, row.length * 8 ≤ 140737488355328) (sl : l.length * 8 ≤ 140737488355328) :
    Calls Try.prog 3 #[va, vw] w fun e w' => e = .returned (.bool true) ∧ Frm (fun _ => False) w w' := by
  obtain ⟨A1, c1, A2, c2, rfl⟩ := ha.form
  obtain ⟨AW, cw, rfl, hW⟩ := id hw
  have F0 : Frm (fun _ => False) w (w.alloc (.cells (macC m A1 c1 A2 c2) 25)) := (Frm.refl _ w).alloc _
  have bx := Blk.new w 25 (macC m A1 c1 A2 c2)
  have HB0 := Lib.hid bx
  have HF0 := Lib.hid F0
  have HM := Lib.hid ha
  have HW := Lib.hid hw
  have HS := Lib.hid sm
  have HSF := Lib.hid sf
  have HSR := Lib.hid sr
  have HSL := Lib.hid sl
  have hn := sm.1
  unfold maxLen at hn
  clear ha hw sm sf sr sl hW F0
  have e0 := bx.cell 0
  have e1 := bx.cell 1
  have e2 := bx.cell 2
  have e3 := bx.cell 3
  simp only [macC] at e0 e1 e2 e3
  clear bx
  by_cases hlen : m.next.length ≤ 8000
  case neg =>
    have hlen' : (8000 : Int) < (m.next.length : Int) := by omega
    go_enter Try.func3, Try.ntmps3
    go_wp2_with fail
    refine (awake_any _).mono ?_
    rintro _ w1 ⟨rfl, f1⟩
    have HF1 := Lib.hid (HF0.out.trans f1)
    clear f1 e0 e1 e2 e3
    go_wp2_with fail
    go_ret
    exact ⟨rfl, HF1.out⟩
  have hlen' : (m.next.length : Int) ≤ 8000 := by omega
  go_enter Try.func3, Try.ntmps3
  go_wp2_with fail
  clear e0 e1 e2 e3
  refine (rvalid_any (HM.out.keep0 HF0.out) HS.out).mono ?_
  rintro _ w1 ⟨rfl, f1⟩
  have HF1 := Lib.hid (HF0.out.trans f1)
  have HB1 := Lib.hid (f1.blk HB0.out id)
  clear f1 HF0 HB0
  have e0 := HB1.out.cell 0
  have e1 := HB1.out.cell 1
  have e2 := HB1.out.cell 2
  have e3 := HB1.out.cell 3
  simp only [macC] at e0 e1 e2 e3
  go_wp2_with fail
  clear e0 e1 e2 e3
  have hwl : l.length ≤ maxLen := by have := HSL.out; unfold maxLen; omega
  refine (raccepts_any (HM.out.keep0 HF1.out) HS.out (HW.out.keep HF1.out fun _ _ => id) hwl).mono ?_
  rintro _ w2 ⟨rfl, f2⟩
  have HF2 := Lib.hid (HF1.out.trans f2)
  have HB2 := Lib.hid (f2.blk HB1.out id)
  clear f2 HF1 HB1
  have e0 := HB2.out.cell 0
  have e1 := HB2.out.cell 1
  have e2 := HB2.out.cell 2
  have e3 := HB2.out.cell 3
  simp only [macC] at e0 e1 e2 e3
  go_wp2_with fail
  clear e0 e1 e2 e3
  refine (copy_any (HM.out.keep0 HF2.out) hlen HSF.out HSR.out).mono ?_
  rintro _ w3 ⟨r3, rfl, m3, f3⟩
  have HF3 := Lib.hid (HF2.out.trans f3)
  have HB3 := Lib.hid (f3.blk HB2.out id)
  have HM3 := Lib.hid m3
  clear f3 HF2 HB2 m3
  go_wp2_with fail
  refine (valid_any HM3.out HS.out).mono ?_
  rintro _ w4 ⟨rfl, f4⟩
  have HF4 := Lib.hid (HF3.out.trans f4)
  have HB4 := Lib.hid (f4.blk HB3.out id)
  clear f4 HF3 HB3 HM3
  generalize A.valid m = vm at *
  have hvm : (vm == vm) = true := by simp
  have e0 := HB4.out.cell 0
  have e1 := HB4.out.cell 1
  have e2 := HB4.out.cell 2
  have e3 := HB4.out.cell 3
  simp only [macC] at e0 e1 e2 e3
  go_wp2_with fail
  clear e0 e1 e2 e3
  refine (copy_any (HM.out.keep0 HF4.out) hlen HSF.out HSR.out).mono ?_
  rintro _ w5 ⟨r5, rfl, m5, f5⟩
  have HF5 := Lib.hid (HF4.out.trans f5)
  have HM5 := Lib.hid m5
  clear f5 HF4 HB4 m5
  obtain ⟨i0, hi0, hz0, hz1, hz2⟩ := info_parts info_int
  have HSRC : Hid (Src Try.prog 1 26 (.slice AW l.length cw) l.length (l.map (Value.int .i64)) (w5.alloc (.cells #[] 3))) := ints_src (HW.out.keep (HF5.out.alloc _) fun _ _ => id)
  go_wp2_with (at_builtin; refine wpList_app_empty (by rfl) (.tmp 25) (.tmp 26) rfl Try.underlying26 hi0 hz0 hz1 hz2 (by rfl) (by rfl) (Blk.new _ _ _) HSRC.out HSL.out (by have := HSL.out; omega) ?_)
  intro v6 w6 f6 hf6
  obtain ⟨g6, hf6⟩ := hf6.out
  have HF6 := Lib.hid ((HF5.out.alloc _).trans f6.out)
  have HM6 := Lib.hid ((HM5.out.keep0 ((Frm.refl _ _).alloc _)).keep0 f6.out)
  have HI6 := Lib.hid hf6.ints
  clear f6 hf6 HF5 HM5 HSRC hi0 hz0 hz1 hz2
  go_wp2_with fail
  refine (accepts_any HM6.out HS.out HI6.out hwl).mono ?_
  rintro _ w7 ⟨rfl, f7⟩
  have HF7 := Lib.hid (HF6.out.trans f7)
  clear f7 HF6 HM6 HI6
  generalize A.accepts m l = am at *
  have ham : (am == am) = true := by simp
  go_wp2_with fail
  refine (awake_any _).mono ?_
  rintro _ w8 ⟨rfl, f8⟩
  have HF8 := Lib.hid (HF7.out.trans f8)
  clear f8 HF7
  go_wp2_with fail
  go_ret
  exact ⟨rfl, HF8.out⟩
end Go.Proofs.Ytbgbkapomklalaa
end
section
namespace Go.Proofs.Ytbgbkapomklalaa
open Go.ChangeShapes Go.WideShapes Go.ChangeAt Go.RowKit Go.Deep Go.Joins
theorem bytes_ints : Try.prog.bytesOf 26 = 24 := by kernel_rfl
theorem bytes_int : Try.prog.bytesOf 3 = 8 := by kernel_rfl
theorem bytes_bool : Try.prog.bytesOf 4 = 1 := by kernel_rfl
theorem weightsAll_mem {H : Type} {P : Program} {e : TypeId} : ∀ {l : List (DataW H)} {d : DataW H} {n : Nat}, d ∈ l → n ∈ d.weights P e → n ∈ DataW.weightsAll P e l
  | [], _, _, h, _ => by cases h
  | a :: l, d, n, h, hn => by
    simp only [DataW.weightsAll, List.mem_append]
    rcases List.mem_cons.1 h with rfl | h
    · exact .inl hn
    · exact .inr (weightsAll_mem h hn)
/-- What a datum weighs is within the reach. -/
def Light {H : Type} (t : TypeId) (d : DataW H) : Prop := ∀ n ∈ d.weights Try.prog t, n ≤ reachBytes
theorem Light.slice {H : Type} {t e : TypeId} {es sp : List (DataW H)} (h : Light t (.slice es sp)) (ht : Try.prog.underlying t = some (.slice e)) : (es.length + sp.length) * Try.prog.bytesOf e ≤ reachBytes ∧ ∀ d ∈ es, Light e d := by
  refine ⟨h _ (by simp [DataW.weights, ht]), fun d hd n hn => h n ?_⟩
  simp only [DataW.weights, ht, List.mem_cons, List.mem_append]
  exact .inr (.inl (weightsAll_mem hd hn))
section
variable {H : Type} {enc : TypeId × Value → H} {W : World} {held : Bool} {n : Nat} {v : Value} {y : DataW H × List MemPlace}
theorem ints_light {base : Nat} (h : DataW.trod enc Try.prog W base (fun _ => true) held n 26 [v] = some y) (hw : Light 26 y.1) : ∃ l, Ints W (fun _ => True) v l ∧ l.length * 8 ≤ reachBytes := by
  rcases open_ints Try.underlying26 Try.underlying3 cellsR_int h with ⟨hc, _⟩ | ⟨a, len, cap, zs, hc, _, hl, hm, hz, hy, hcell, _⟩
  · injection hc with hc
    subst hc
    exact ⟨[], ⟨none, 0, rfl, fun k hk => absurd hk (by simp)⟩, by simp⟩
  · injection hc with hc
    subst hc
    simp only [if_true] at hz
    rw [hy] at hw
    have hwt := (hw.slice Try.underlying26).1
    rw [bytes_int] at hwt
    simp only [lits, List.length_map, List.length_take, List.length_drop] at hwt
    have hlen : (zs.take len).length = len := by rw [List.length_take]; omega
    refine ⟨zs.take len, ⟨some a, cap, by rw [hlen], fun k hk => ?_⟩, by rw [hlen]; omega⟩
    rw [hlen] at hk
    obtain ⟨g, o, rfl⟩ := at_spot (hcell 0 (by omega))
    refine ⟨g, o, rfl, trivial, ?_⟩
    have := hcell k (by omega)
    rw [addr_any] at this
    rw [this]
    simp [show k < zs.length by omega]
theorem bools_light {base : Nat} (h : DataW.trod enc Try.prog W base (fun _ => true) held n 23 [v] = some y) (hw : Light 23 y.1) : ∃ l, Bools W (fun _ => True) v l ∧ l.length ≤ reachBytes := by
  rcases open_slice1 Try.underlying23 cellsR_bool h with ⟨hc, _⟩ | ⟨a, len, cap, m, q, V, D, Pl, hc, _, hl, hm, hmm, hy, hx⟩
  · injection hc with hc
    subst hc
    exact ⟨[], ⟨none, 0, rfl, fun k hk => absurd hk (by simp)⟩, by simp⟩
  · injection hc with hc
    subst hc
    simp only [if_true] at hmm
    rw [hy] at hw
    have hwt := (hw.slice Try.underlying23).1
    rw [bytes_bool] at hwt
    simp only [List.length_map, List.length_range] at hwt
    have each : ∀ i, ∃ b : Bool, i < m → V i = .bool b := fun i => by
      by_cases hi : i < m
      · obtain ⟨b, hb, _⟩ := DataW.trod_bool Try.underlying4 (hx i hi).2
        exact ⟨b, fun _ => by injection hb⟩
      · exact ⟨false, fun h => absurd h hi⟩
    obtain ⟨B, hB⟩ := Classical.axiomOfChoice each
    refine ⟨(List.range len).map B, ⟨some a, cap, by simp, fun k hk => ?_⟩, by simp; omega⟩
    have hk' : k < len := by simpa using hk
    obtain ⟨g, o, rfl⟩ := at_spot (hx 0 (by omega)).1
    refine ⟨g, o, rfl, trivial, ?_⟩
    have := (hx k (by omega)).1
    rw [addr_any] at this
    rw [this, hB k (by omega)]
    simp
theorem rows_light {base : Nat} (h : DataW.trod enc Try.prog W base (fun _ => true) held n 22 [v] = some y) (hw : Light 22 y.1) : ∃ l, Rows2 W (fun _ => True) v l ∧ l.length * 24 ≤ reachBytes ∧ ∀ r ∈ l, r.length * 8 ≤ reachBytes := by
  rcases open_int_rows Try.underlying22 Try.underlying26 Try.underlying3 cellsR_ints cellsR_int h with ⟨hc, _⟩ | ⟨a, len, cap, A, L, C, Z, hc, _, hl, hm, hy, hx⟩
  · injection hc with hc
    subst hc
    exact ⟨[], ⟨none, 0, rfl, fun k hk => absurd hk (by simp)⟩, by simp, fun _ h => by cases h⟩
  · injection hc with hc
    subst hc
    rw [hy] at hw
    obtain ⟨hwt, hwr⟩ := hw.slice Try.underlying22
    rw [bytes_ints] at hwt
    simp only [List.length_map, List.length_range] at hwt
    have hlr : ∀ r, r < cap → ((Z r).take (L r)).length = L r := fun r hr => by
      obtain ⟨_, h1, _, h2, _⟩ := hx r hr
      rw [List.length_take]
      omega
    refine ⟨(List.range len).map fun r => (Z r).take (L r), ⟨some a, cap, by simp, fun k hk => ?_⟩, by simp; omega, fun r hr => ?_⟩
    · have hk' : k < len := by simpa using hk
      obtain ⟨g, o, rfl⟩ := at_spot (hx 0 (by omega)).1
      obtain ⟨h0, h1, h2, h3, _, h5, h6⟩ := hx k (by omega)
      rw [addr_any] at h0
      refine ⟨g, o, _, rfl, trivial, h0, A k, C k, ?_, fun c hc => ?_⟩
      · simp only [List.getElem_map, List.getElem_range]
        rw [hlr k (by omega)]
      · simp only [List.getElem_map, List.getElem_range] at hc
        rw [hlr k (by omega)] at hc
        rcases hA : A k with _ | a'
        · have := h5 hA; omega
        · obtain ⟨_, h7⟩ := h6 a' hA
          obtain ⟨g', o', rfl⟩ := at_spot (h7 0 (by omega))
          have := h7 c (by omega)
          rw [addr_any] at this
          refine ⟨g', o', rfl, trivial, ?_⟩
          rw [this]
          simp [show c < (Z k).length by omega]
    · obtain ⟨i, hi, rfl⟩ := List.mem_map.1 hr
      have hi' := List.mem_range.1 hi
      rw [hlr i (by omega)]
      obtain ⟨_, h1, h2, h3, _, h5, _⟩ := hx i (by omega)
      have hli := hwr _ (List.mem_map.2 ⟨i, List.mem_range.2 hi', rfl⟩)
      rcases hA : A i with _ | a'
      · have := h5 hA
        have e0 : L i = 0 := by omega
        rw [e0]
        exact Nat.zero_le _
      · rw [hA] at hli
        have := (Light.slice hli Try.underlying26).1
        rw [bytes_int] at this
        simp only [lits, List.length_map, List.length_take, List.length_drop] at this
        omega
set_option maxRecDepth 100000 in
theorem mach_light {base b0 : Nat} {r : Reach} {d : DataW H} {p : List MemPlace} (hv : Value.okWide Try.prog W r b0 25 v) (h : DataW.Trod enc Try.prog W base (fun _ => true) held 25 v d p) (hw : Light 25 d) : ∃ m, MachAt W (fun _ => True) v m ∧ Sized m ∧ m.fin.length ≤ 140737488355328 ∧ ∀ row ∈ m.next, row.length * 8 ≤ 140737488355328 := by
  obtain ⟨v0, v1, v2, v3, y0, y1, y2, y3, q, rfl, rfl, _, h0, h1, h2, h3⟩ := open_agg4 Try.underlying25 (by kernel_rfl) cellsR_mach hv h
  have hf : ∀ (j : Nat) (t : TypeId) (d : DataW H), [3, 3, 22, 23][j]? = some t → [y0.1, y1.1, y2.1, y3.1][j]? = some d → Light t d := fun j t d ht hd n hn => hw n (by
    simp only [DataW.weights, Try.underlying25]
    exact DataW.weights_mem_each (j := j) ht hd n hn)
  obtain ⟨x0, e0, _, wx0⟩ := DataW.trod_int Try.underlying3 h0
  obtain ⟨x1, e1, _, wx1⟩ := DataW.trod_int Try.underlying3 h1
  obtain ⟨l2, m2, s2, t2⟩ := rows_light h2 (hf 2 _ _ rfl rfl)
  obtain ⟨l3, m3, s3⟩ := bools_light h3 (hf 3 _ _ rfl rfl)
  injection e0 with e0
  injection e1 with e1
  subst e0 e1
  unfold reachBytes at s2 s3 t2
  exact ⟨⟨x0, x1, l2, l3⟩, ⟨v2, v3, rfl, m2, m3⟩, ⟨show l2.length ≤ maxLen by unfold maxLen; omega, show l3.length ≤ maxLen by unfold maxLen; omega, fun row hr => by have := t2 row hr; unfold maxLen; omega⟩, show l3.length ≤ 140737488355328 by omega, fun row hr => by have := t2 row hr; omega⟩
end
end Go.Proofs.Ytbgbkapomklalaa
end
section
namespace Go.Proofs.Ytbgbkapomklalaa.ValidP
open Go.ChangeShapes Go.WideShapes Go.ChangeAt Go.RowKit
theorem own : ownKnob Try.prog.godebug = none := by kernel_rfl
theorem laidOut : laidOutB Try.prog = true := by kernel_rfl
theorem kept {w w' : World} (h : Frm (fun _ => False) w w') (may : MemPlace → Prop) : w.keptBut w' may := by
  refine ⟨h.3.1, h.3.2, fun i hi => ?_⟩
  rw [h.2 i hi id]
  split <;> simp_all
/-- An argument reads behind the call as it did. -/
theorem stays {H : Type} {enc : TypeId × Value → H} {t : TypeId} (hr : Try.prog.readableRec t = true) (hrow : t < Try.prog.types.size) {W W' : World} {v : Value} {d : DataW H} {ps : List MemPlace}
    (h : DataW.Trod enc Try.prog W 0 (fun _ => true) true t v d ps) (F : Frm (fun _ => False) W W') (hlt : ∀ x ∈ ps, x.block < W.heap.size) : DataW.Trod enc Try.prog W' 0 (fun b => decide (b < W.heap.size)) true t v d ps :=
  WideElems.Trod_stays laidOut hr hrow h (fun x hx => by
    have h1 := F.2 x.block (hlt x hx) id
    cases x with
    | cell b off => exact World.cell?_of_block (w := W) (w' := W') (a := ⟨b, off, none⟩) h1
    | map b => exact h1) fun x hx => by simpa using hlt x hx
set_option maxRecDepth 100000 in
theorem lifted (os : Os) (started : os.Started) (H : Type) (enc : TypeId × Value → H) :
    ReturnsInHanded {} Try.checked os 3 .any (Rows.autoValidSpec.pre6 enc Try.prog Try.f3 Rows.autoValidRow.domain false) (Rows.autoValidSpec.post enc Try.prog Try.f3 false true false false) := by
  refine returnsInHanded_of_change_sized (C := Try.checked) own started (by kernel_rfl) Try.func3
    (ChangeSpec.witness6 (enc := enc) (C := Try.checked) false ⟨#[], #[.agg #[.int .i64 0, .int .i64 0, .slice none 0 0, .slice none 0 0], .slice none 0 0], []⟩ 8 (by kernel_rfl) (by kernel_rfl) (by kernel_rfl) (by kernel_rfl)) ?_
  intro W base args ds gs before hval0 hW hcnd hsz0 _
  have hval : ∀ (j : Nat) t v, Try.f3.params[j]? = some t → args[j]? = some v → Value.okWide Try.prog W .any base t v := hval0
  have hW' := hW
  obtain ⟨p, q, hA0, hV, rfl, hfz, hnd⟩ := hW
  have hA : DataW.TrodAll enc Try.prog W 0 (fun _ => true) true Try.f3.params.toList args.toList ds p := hA0
  have hsz : (DataW.weightsEach Try.prog (Try.f3.params.toList ++ Rows.autoValidSpec.plain.varTypes Try.prog) (ds ++ gs)).all (· ≤ reachBytes) = true := hsz0
  rw [Try.params3] at hA hval hsz
  obtain ⟨v0, vs0, d0, ds0, p0, q0, hargs, rfl, rfl, h0, r0⟩ := trodAll_cons hA
  obtain ⟨v1, vs1, d1, ds1, p1, q1, rfl, rfl, rfl, h1, r1⟩ := trodAll_cons r0
  obtain ⟨rfl, rfl, rfl⟩ := trodAll_nil r1
  obtain rfl : args = #[v0, v1] := by cases args; simp_all
  obtain ⟨rfl, rfl⟩ := trodVars_none hV
  clear hA0 hval0
  simp only [List.append_nil] at hW'
  have hlt : ∀ x ∈ p0 ++ p1, x.block < W.heap.size := fun x hx => hW'.lt x (by simpa using hx)
  have light : ∀ (j : Nat) (t : TypeId) (d : DataW H), [25, 26][j]? = some t → [d0, d1][j]? = some d → Light t d := fun j t d ht hd n hn => by
    have := List.all_eq_true.1 hsz n (DataW.weights_mem_each (j := j) (t := t) (d := d) (by
      match j, ht with
      | 0, ht => exact ht
      | 1, ht => exact ht) (by
      match j, hd with
      | 0, hd => exact hd
      | 1, hd => exact hd) n hn)
    simpa using this
  obtain ⟨m, ma, sa, sf, sr⟩ := mach_light (hval 0 25 v0 rfl rfl) h0 (light 0 _ _ rfl rfl)
  obtain ⟨l, hl, sl⟩ : ∃ l, Ints W (fun _ => True) v1 l ∧ l.length * 8 ≤ reachBytes := by
    obtain ⟨A2, n2, c2, rfl⟩ := okWide_slice Try.underlying26 (hval 1 26 v1 rfl rfl)
    obtain ⟨f2, hf2⟩ := h1
    exact ints_light hf2 (light 1 _ _ rfl rfl)
  unfold reachBytes at sl
  refine (valid_law ma hl sa sf sr (by omega)).mono fun e W' ⟨he, F⟩ => ?_
  subst he
  exact ⟨_, rfl, _, _, _, _, _, _, hW', trodAll_cons_mk (shut_bool Try.underlying4 _) trodAll_mk0, trodAll_cons_mk (stays (by kernel_rfl) (of_decide_eq_true (by kernel_rfl)) h0 F fun x hx => hlt x (by simp [hx])) (trodAll_cons_mk (stays (by kernel_rfl) (of_decide_eq_true (by kernel_rfl)) h1 F fun x hx => hlt x (by simp [hx])) trodAll_mk0), rfl, kept F _, fun h => by cases h⟩
theorem proved : Rows.AutoValidSaid :=
  OpenClaim.holds_of_wide 3 Try.f3 rfl rfl rfl rfl rfl rfl rfl ⟨rfl, rfl, rfl, rfl, rfl⟩ rfl rfl rfl rfl rfl (by kernel_rfl) Try.func3 (by kernel_rfl)
    (of_decide_eq_true (by kernel_rfl)) (by unfold Func.isWrapper; first | (rw [if_pos (by decide +kernel)]; kernel_rfl) | (rw [if_neg (by decide +kernel)]; exact ⟨rfl, rfl⟩))
    (fun os started H enc _ => lifted os started H enc)
end Go.Proofs.Ytbgbkapomklalaa.ValidP
namespace Go.Proofs.Ytbgbkapomklalaa
/-- AutoValid. -/
theorem autoValid_holds : Rows.AutoValidSaid := ValidP.proved
end Go.Proofs.Ytbgbkapomklalaa
end
