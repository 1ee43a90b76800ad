/- The contract of row: the text of a row of steps in blocks. Texts of steps that use no name: what L.readText gives is told by the parse alone. What L.readText gives at the texts of LangLimits. The row and the card of LangLimits, given what the call comes to. LangLimits: what the call comes to. Contracts of the program's functions, with no condition beyond what each theorem states. -/
import Derived.Test.YtpdbkdcdlafobaaGreatDoorC27
import Derived.Test.YtpdbkdcdlafobaaGreatDoorC04
import Derived.Laws.Concat
import Derived.Test.YtpdbkdcdlafobaaGreatDoorC25
import Derived.Test.YtpdbkdcdlafobaaGreatDoorC26
import Derived.Test.YtpdbkdcdlafobaaGreatDoorCards
section
namespace Go.Proofs.YtpdbkdcdlafobaaGreatDoor
open Go.RowKit
theorem str_add (a b : L.Bytes) : str a ++ str b = str (a ++ b) := by
  unfold str
  rw [ByteArray.mk_append_mk]
theorem run_cat {a b : L.Bytes} (h : a.length + b.length ≤ 1000000) (w : World) : (Op.stringOp .add (str a) (str b)).run Tryz.prog w = .ok (.string (str (a ++ b))) w := by
  rw [run_string_add_sum w _ _ (by rw [size_str, size_str]; omega), str_add]
def preB : L.Bytes := [124, 45, 32, 99, 111, 109, 32, 58, 32]
def whB : L.Bytes := [119, 104, 105, 108, 101, 32, 49, 32, 123, 32]
def skB : L.Bytes := [115, 107, 105, 112]
def clB : L.Bytes := [32, 125]
theorem run_wh {a : L.Bytes} (h : a.length ≤ 900000) (w : World) : (Op.stringOp .add (str a) ⟨#[119, 104, 105, 108, 101, 32, 49, 32, 123, 32]⟩).run Tryz.prog w = .ok (.string (str (a ++ whB))) w := run_cat (b := whB) (by simp [whB]; omega) w
theorem run_sc {a : L.Bytes} (h : a.length ≤ 900000) (w : World) : (Op.stringOp .add (str a) ⟨#[59]⟩).run Tryz.prog w = .ok (.string (str (a ++ [59]))) w := run_cat (b := [59]) (by simp; omega) w
theorem run_sk {a : L.Bytes} (h : a.length ≤ 900000) (w : World) : (Op.stringOp .add (str a) ⟨#[115, 107, 105, 112]⟩).run Tryz.prog w = .ok (.string (str (a ++ skB))) w := run_cat (b := skB) (by simp [skB]; omega) w
theorem run_cl {a : L.Bytes} (h : a.length ≤ 900000) (w : World) : (Op.stringOp .add (str a) ⟨#[32, 125]⟩).run Tryz.prog w = .ok (.string (str (a ++ clB))) w := run_cat (b := clB) (by simp [clB]; omega) w
set_option maxRecDepth 100000 in
set_option maxHeartbeats 2000000 in
theorem row_nat (s d : Nat) (hs : s ≤ 1000) (hd : d ≤ 1000) (w : World) : Calls Tryz.prog 6 #[.int .i64 (s : Int), .int .i64 (d : Int)] w fun e w' => e = .returned (.string (str (L.rowT s d))) ∧ w = w' := by
  have HB : ∀ k, k ≤ d → (preB ++ L.rep whB k).length ≤ 20000 := fun k hk => by rw [List.length_append, L.rep_len]; simp [preB, whB]; omega
  have HC : ∀ k, k ≤ s → ((preB ++ L.rep whB d) ++ L.skips k).length ≤ 40000 := fun k hk => by have := HB d (Nat.le_refl _); have := L.skips_len k; rw [List.length_append]; omega
  have HD : ∀ k, k ≤ d → (((preB ++ L.rep whB d) ++ L.skips s) ++ L.rep clB k).length ≤ 60000 := fun k hk => by
    have h := HC s (Nat.le_refl _)
    have hc : clB.length = 2 := rfl
    rw [List.length_append, L.rep_len, hc]; omega
  have HB := Lib.hid HB
  have HC := Lib.hid HC
  have HD := Lib.hid HD
  go_enter Tryz.func6, Tryz.ntmps6
  go_wp2_with fail
  go_loopg [5, 6] (d + 1) (fun n o i wr => ∃ k : Nat, k ≤ d ∧ n = d + 1 - k ∧ o = .string (str (preB ++ L.rep whB k)) ∧ i = .int .i64 (k : Int) ∧ wr = w)
  case atStart => exact ⟨0, Nat.zero_le _, rfl, rfl, rfl, rfl⟩
  case round =>
    obtain ⟨k, hk, rfl, rfl, rfl, rfl⟩ := hrel
    by_cases hlt : k < d
    · have r1 := run_wh (show (preB ++ L.rep whB k).length ≤ 900000 from Nat.le_trans (HB.out k hk) (by omega)) wr
      have hlt' : (k : Int) < (d : Int) := by omega
      go_wp2_with fail
      go_roundg (d + 1 - (k + 1))
      case measure => omega
      case rel => exact ⟨k + 1, by omega, rfl, by simp [L.rep], by go_num, rfl⟩
    · have hlt' : ¬ (k : Int) < (d : Int) := by omega
      have ek : k = d := by omega
      subst ek
      go_wp2_with fail
      go_loopg [5, 7] (s + 1) (fun n o i wr' => ∃ j : Nat, j ≤ s ∧ n = s + 1 - j ∧ o = .string (str ((preB ++ L.rep whB k) ++ L.skips j)) ∧ i = .int .i64 (j : Int) ∧ wr' = wr)
      case atStart => exact ⟨0, Nat.zero_le _, rfl, by simp [L.skips], rfl, rfl⟩
      case round =>
        obtain ⟨j, hj, rfl, rfl, rfl, rfl⟩ := hrel
        by_cases hlt : j < s
        · have hltj : (j : Int) < (s : Int) := by omega
          have hb0 := HC.out j hj
          have HS : Hid (((preB ++ L.rep whB k) ++ L.skips j) ++ ((if j = 0 then [] else [59]) ++ skB) = (preB ++ L.rep whB k) ++ L.skips (j + 1)) := show _ = _ by rw [L.skips, List.append_assoc]; rfl
          generalize (preB ++ L.rep whB k) ++ L.skips j = A at *
          by_cases h0 : j = 0
          · subst h0
            have r1 := fun W => run_sk (show A.length ≤ 900000 from Nat.le_trans hb0 (by omega)) W
            clear hb0
            go_wp2_with fail
            go_roundg (s + 1 - (0 + 1))
            case measure => omega
            case rel => exact ⟨0 + 1, by omega, rfl, congrArg (fun x => Value.string (str x)) (by have h := HS.out; simpa using h), by go_num, rfl⟩
          · have r1 := fun W => run_sc (show A.length ≤ 900000 from Nat.le_trans hb0 (by omega)) W
            have r2 := fun W => run_sk (a := A ++ [59]) (by simp; omega) W
            have hj0 : (0 : Int) < (j : Int) := by omega
            clear hb0
            go_wp2_with fail
            go_roundg (s + 1 - (j + 1))
            case measure => omega
            case rel => exact ⟨j + 1, by omega, rfl, congrArg (fun x => Value.string (str x)) (by have h := HS.out; simpa [h0] using h), by go_num, rfl⟩
        · have hltj : ¬ (j : Int) < (s : Int) := by omega
          have ej : j = s := by omega
          subst ej
          go_wp2_with fail
          go_loopg [5, 8] (k + 1) (fun n o i wr2 => ∃ m : Nat, m ≤ k ∧ n = k + 1 - m ∧ o = .string (str (((preB ++ L.rep whB k) ++ L.skips j) ++ L.rep clB m)) ∧ i = .int .i64 (m : Int) ∧ wr2 = wr)
          case atStart => exact ⟨0, Nat.zero_le _, rfl, by simp [L.rep], rfl, rfl⟩
          case round =>
            obtain ⟨m, hm, rfl, rfl, rfl, rfl⟩ := hrel
            by_cases hlt : m < k
            · have r1 := fun W => run_cl (w := W) (show (((preB ++ L.rep whB k) ++ L.skips j) ++ L.rep clB m).length ≤ 900000 from Nat.le_trans (HD.out m hm) (by omega))
              have hltm : (m : Int) < (k : Int) := by omega
              have HS : Hid ((((preB ++ L.rep whB k) ++ L.skips j) ++ L.rep clB m) ++ clB = ((preB ++ L.rep whB k) ++ L.skips j) ++ L.rep clB (m + 1)) := show _ = _ by rw [L.rep, List.append_assoc ((preB ++ L.rep whB k) ++ L.skips j)]
              generalize ((preB ++ L.rep whB k) ++ L.skips j) ++ L.rep clB m = A at *
              go_wp2_with fail
              go_roundg (k + 1 - (m + 1))
              case measure => omega
              case rel => exact ⟨m + 1, by omega, rfl, congrArg (fun x => Value.string (str x)) (by have h := HS.out; simpa using h), by go_num, rfl⟩
            · have hltm : ¬ (m : Int) < (k : Int) := by omega
              have em : m = k := by omega
              subst em
              go_wp2_with fail
              go_ret
              exact ⟨congrArg (fun x => Ending.returned (.string (str x))) (show preB ++ (L.rep whB m ++ (L.skips j ++ L.rep clB m)) = L.rowT j m by simp [L.rowT, preB, whB, clB]), rfl⟩
end Go.Proofs.YtpdbkdcdlafobaaGreatDoor
end
section
namespace Go.Proofs.YtpdbkdcdlafobaaGreatDoor.L
mutual
/-- A term of steps, numbers and loops alone, its rows flat. -/
def plainT : Tm → Bool
  | .skip => true
  | .num _ => true
  | .loop x y => plainT x && plainT y
  | .row ts => decide (2 ≤ ts.length) && plainL ts
  | .stop _ => false | .fault _ => false | .assign _ _ => false | .choice _ _ _ _ => false | .fresh _ _ _ _ => false | .call _ _ _ => false | .proc _ _ _ _ _ _ => false
  | .read _ => false | .binary _ _ _ => false | .doing _ _ => false | .labelled _ _ => false | .exit _ _ => false
def plainL : List Tm → Bool
  | [] => true
  | t :: ts => !isRow t && (plainT t && plainL ts)
end
theorem steps_of {t : Tm} (h : isRow t = false) : stepsOf t = [t] := by cases t <;> first | rfl | simp [isRow] at h
theorem inRow_self {ts : List Tm} (h : ts.flatMap stepsOf = ts) (h2 : 2 ≤ ts.length) : inRow ts = .row ts := by
  unfold inRow
  rw [h]
  match ts, h2 with
  | a :: b :: ts, _ => rfl
mutual
theorem rd_plain : ∀ (t : Tm) (bs : List Bnd), plainT t = true → rd visResolve bs t 0 = (t, 0)
  | .skip, bs, _ => by simp [rd, at_, visResolve, meant, wrong, isRead]
  | .num _, bs, _ => by simp [rd, at_, visResolve, meant, wrong, isRead]
  | .loop x y, bs, h => by
    simp only [plainT, Bool.and_eq_true] at h
    have h1 := rd_plain x bs h.1
    have h2 := rd_plain y bs h.2
    simp [rd, at_, visResolve, meant, wrong, isRead, h1, h2]
  | .row ts, bs, h => by
    simp only [plainT, Bool.and_eq_true, decide_eq_true_eq] at h
    obtain ⟨h1, h2⟩ := rdL_plain ts bs h.2
    rw [rd, h1, inRow_self h2 h.1]
  | .stop _, _, h => by simp [plainT] at h
  | .fault _, _, h => by simp [plainT] at h
  | .assign _ _, _, h => by simp [plainT] at h
  | .choice _ _ _ _, _, h => by simp [plainT] at h
  | .fresh _ _ _ _, _, h => by simp [plainT] at h
  | .call _ _ _, _, h => by simp [plainT] at h
  | .proc _ _ _ _ _ _, _, h => by simp [plainT] at h
  | .read _, _, h => by simp [plainT] at h
  | .binary _ _ _, _, h => by simp [plainT] at h
  | .doing _ _, _, h => by simp [plainT] at h
  | .labelled _ _, _, h => by simp [plainT] at h
  | .exit _ _, _, h => by simp [plainT] at h
theorem rdL_plain : ∀ (ts : List Tm) (bs : List Bnd), plainL ts = true → rdL visResolve bs ts 0 = (ts, 0) ∧ ts.flatMap stepsOf = ts
  | [], _, _ => ⟨rfl, rfl⟩
  | t :: ts, bs, h => by
    simp only [plainL, Bool.and_eq_true, Bool.not_eq_true'] at h
    have h1 := rd_plain t bs h.2.1
    obtain ⟨h2, h3⟩ := rdL_plain ts bs h.2.2
    exact ⟨by rw [rdL, h1, h2], by rw [List.flatMap_cons, steps_of h.1, h3]; rfl⟩
end
def quick (l : Bytes) : Option (Nat × Nat) := match parse l with
  | some ([], ty, t) => if plainT t then (if ty = 0 then some (nodes t, levels t) else none) else none
  | _ => none
theorem quick_read {l : Bytes} {n v : Nat} (h : quick l = some (n, v)) : ∃ t, readText l = (if 600 < n ∨ 60 < v then (5, none) else (0, some ⟨[], 0, t⟩)) ∧ nodes t = n := by
  unfold quick at h
  split at h
  · rename_i ty t hp
    split at h
    · rename_i ht
      split at h
      · rename_i hty
        simp only [Option.some.injEq, Prod.mk.injEq] at h
        refine ⟨t, ?_, h.1⟩
        unfold readText
        rw [hp]
        have hr : resolve [] t = (t, 0) := rd_plain t _ ht
        simp only [hr, hty, newPiece, h.1, h.2]
        simp [sortD]
      · cases h
    · cases h
  · cases h
def okQ (q : Option (Nat × Nat)) (f : Nat → Bool) : Bool := match q with
  | some (n, v) => f n && (decide (n ≤ 600) && decide (v ≤ 60))
  | none => false
def fullQ (q : Option (Nat × Nat)) : Bool := match q with
  | some (n, v) => !(decide (n ≤ 600) && decide (v ≤ 60))
  | none => false
theorem okQ_out {l : Bytes} {f : Nat → Bool} (h : okQ (quick l) f = true) : ∃ P, readText l = (0, some P) ∧ f (nodes P.root) = true := by
  unfold okQ at h
  split at h
  · rename_i n v hq
    obtain ⟨t, h1, h2⟩ := quick_read hq
    simp only [Bool.and_eq_true, decide_eq_true_eq] at h
    rw [if_neg (by omega)] at h1
    exact ⟨_, h1, by dsimp only; rw [h2]; exact h.1⟩
  · cases h
theorem fullQ_out {l : Bytes} (h : fullQ (quick l) = true) : readText l = (5, none) := by
  unfold fullQ at h
  split at h
  · rename_i n v hq
    obtain ⟨t, h1, h2⟩ := quick_read hq
    rw [h1, if_pos]
    simp only [Bool.not_eq_true', Bool.and_eq_false_iff, decide_eq_false_iff_not] at h
    omega
  · cases h
end Go.Proofs.YtpdbkdcdlafobaaGreatDoor.L
end
section
namespace Go.Proofs.YtpdbkdcdlafobaaGreatDoor.L
def stepsAt (deep : Nat) : Nat := (600 - 2 * deep + 1) / 2
def repR (x : Bytes) : Nat → Bytes | 0 => [] | n + 1 => x ++ repR x n
def skipsR : Nat → Bytes | 0 => [] | 1 => [115, 107, 105, 112] | n + 2 => [115, 107, 105, 112, 59] ++ skipsR (n + 1)
def rowR (steps deep : Nat) : Bytes := [124, 45, 32, 99, 111, 109, 32, 58, 32] ++ (repR [119, 104, 105, 108, 101, 32, 49, 32, 123, 32] deep ++ (skipsR steps ++ repR [32, 125] deep))
theorem repR_snoc (x : Bytes) : ∀ n, repR x (n + 1) = repR x n ++ x | 0 => by simp [repR] | n + 1 => by show x ++ repR x (n + 1) = (x ++ repR x n) ++ x; rw [repR_snoc x n, List.append_assoc]
theorem rep_R (x : Bytes) : ∀ n, rep x n = repR x n | 0 => rfl | n + 1 => by rw [rep, rep_R x n, repR_snoc]
theorem skipsR_snoc : ∀ n, skipsR (n + 2) = skipsR (n + 1) ++ ([59] ++ [115, 107, 105, 112]) | 0 => by simp [skipsR] | n + 1 => by show [115, 107, 105, 112, 59] ++ skipsR (n + 2) = ([115, 107, 105, 112, 59] ++ skipsR (n + 1)) ++ _; rw [skipsR_snoc n, List.append_assoc]
theorem skips_R : ∀ n, skips n = skipsR n | 0 => rfl | 1 => by simp [skips, skipsR] | n + 2 => by rw [skips, skips_R (n + 1), skipsR_snoc, if_neg (by omega)]
theorem row_R (s d : Nat) : rowT s d = rowR s d := by unfold rowT rowR; rw [rep_R, rep_R, skips_R, List.append_assoc, List.append_assoc]
def limB (deep : Nat) : Bool := okQ (quick (rowR (stepsAt deep) deep)) (fun n => decide (n = 2 * stepsAt deep - 1 + 2 * deep)) && fullQ (quick (rowR (stepsAt deep + 1) deep))
set_option maxRecDepth 100000
theorem lim0 : limB 0 = true := by decide +kernel
theorem lim1 : limB 1 = true := by decide +kernel
theorem lim2 : limB 2 = true := by decide +kernel
theorem lim3 : limB 3 = true := by decide +kernel
theorem lim4 : limB 4 = true := by decide +kernel
theorem lim5 : limB 5 = true := by decide +kernel
theorem lim6 : limB 6 = true := by decide +kernel
theorem lim7 : limB 7 = true := by decide +kernel
theorem lim8 : limB 8 = true := by decide +kernel
theorem lim9 : limB 9 = true := by decide +kernel
theorem lim10 : limB 10 = true := by decide +kernel
theorem lim11 : limB 11 = true := by decide +kernel
theorem lim12 : limB 12 = true := by decide +kernel
theorem lim13 : limB 13 = true := by decide +kernel
theorem lim14 : limB 14 = true := by decide +kernel
theorem lim15 : limB 15 = true := by decide +kernel
theorem lim16 : limB 16 = true := by decide +kernel
theorem lim17 : limB 17 = true := by decide +kernel
theorem lim18 : limB 18 = true := by decide +kernel
theorem lim19 : limB 19 = true := by decide +kernel
theorem lim20 : limB 20 = true := by decide +kernel
theorem lim21 : limB 21 = true := by decide +kernel
theorem lim22 : limB 22 = true := by decide +kernel
theorem lim23 : limB 23 = true := by decide +kernel
theorem lim24 : limB 24 = true := by decide +kernel
theorem lim25 : limB 25 = true := by decide +kernel
theorem lim26 : limB 26 = true := by decide +kernel
theorem lim27 : limB 27 = true := by decide +kernel
theorem lim28 : limB 28 = true := by decide +kernel
theorem lim29 : limB 29 = true := by decide +kernel
theorem lim30 : limB 30 = true := by decide +kernel
theorem lim31 : limB 31 = true := by decide +kernel
theorem lim32 : limB 32 = true := by decide +kernel
theorem lim33 : limB 33 = true := by decide +kernel
theorem lim34 : limB 34 = true := by decide +kernel
theorem lim35 : limB 35 = true := by decide +kernel
theorem lim36 : limB 36 = true := by decide +kernel
theorem lim37 : limB 37 = true := by decide +kernel
theorem lim38 : limB 38 = true := by decide +kernel
theorem lim39 : limB 39 = true := by decide +kernel
theorem lim40 : limB 40 = true := by decide +kernel
theorem lim41 : limB 41 = true := by decide +kernel
theorem lim42 : limB 42 = true := by decide +kernel
theorem lim43 : limB 43 = true := by decide +kernel
theorem lim44 : limB 44 = true := by decide +kernel
theorem lim45 : limB 45 = true := by decide +kernel
theorem lim46 : limB 46 = true := by decide +kernel
theorem lim47 : limB 47 = true := by decide +kernel
theorem lim48 : limB 48 = true := by decide +kernel
theorem lim49 : limB 49 = true := by decide +kernel
theorem lim50 : limB 50 = true := by decide +kernel
theorem lim51 : limB 51 = true := by decide +kernel
theorem lim52 : limB 52 = true := by decide +kernel
theorem lim53 : limB 53 = true := by decide +kernel
theorem lim54 : limB 54 = true := by decide +kernel
theorem lim55 : limB 55 = true := by decide +kernel
theorem lim56 : limB 56 = true := by decide +kernel
theorem lim57 : limB 57 = true := by decide +kernel
theorem lim58 : limB 58 = true := by decide +kernel
theorem lim_all : ∀ d, d < 59 → limB d = true
  | 0, _ => lim0
  | 1, _ => lim1
  | 2, _ => lim2
  | 3, _ => lim3
  | 4, _ => lim4
  | 5, _ => lim5
  | 6, _ => lim6
  | 7, _ => lim7
  | 8, _ => lim8
  | 9, _ => lim9
  | 10, _ => lim10
  | 11, _ => lim11
  | 12, _ => lim12
  | 13, _ => lim13
  | 14, _ => lim14
  | 15, _ => lim15
  | 16, _ => lim16
  | 17, _ => lim17
  | 18, _ => lim18
  | 19, _ => lim19
  | 20, _ => lim20
  | 21, _ => lim21
  | 22, _ => lim22
  | 23, _ => lim23
  | 24, _ => lim24
  | 25, _ => lim25
  | 26, _ => lim26
  | 27, _ => lim27
  | 28, _ => lim28
  | 29, _ => lim29
  | 30, _ => lim30
  | 31, _ => lim31
  | 32, _ => lim32
  | 33, _ => lim33
  | 34, _ => lim34
  | 35, _ => lim35
  | 36, _ => lim36
  | 37, _ => lim37
  | 38, _ => lim38
  | 39, _ => lim39
  | 40, _ => lim40
  | 41, _ => lim41
  | 42, _ => lim42
  | 43, _ => lim43
  | 44, _ => lim44
  | 45, _ => lim45
  | 46, _ => lim46
  | 47, _ => lim47
  | 48, _ => lim48
  | 49, _ => lim49
  | 50, _ => lim50
  | 51, _ => lim51
  | 52, _ => lim52
  | 53, _ => lim53
  | 54, _ => lim54
  | 55, _ => lim55
  | 56, _ => lim56
  | 57, _ => lim57
  | 58, _ => lim58
  | n + 59, h => absurd h (by omega)
def y1 : Bytes := [97, 40, 99, 111, 109, 44, 32, 101, 120, 112, 44, 32, 99, 111, 109, 41, 32, 58, 32, 99, 111, 109, 44, 32, 98, 32, 58, 32, 99, 111, 109, 44, 32, 99, 32, 58, 32, 99, 111, 109, 44, 32, 97, 98, 99, 100, 101, 102, 103, 104, 32, 58, 32, 99, 111, 109, 32, 124, 45, 32, 99, 111, 109, 32, 58, 32, 97, 98, 99, 100, 101, 102, 103, 104]
def y2 : Bytes := [97, 40, 99, 111, 109, 44, 32, 101, 120, 112, 44, 32, 99, 111, 109, 44, 32, 99, 111, 109, 41, 32, 58, 32, 99, 111, 109, 32, 124, 45, 32, 99, 111, 109, 32, 58, 32, 115, 107, 105, 112]
def y3 : Bytes := [97, 32, 58, 32, 99, 111, 109, 44, 32, 98, 32, 58, 32, 99, 111, 109, 44, 32, 99, 32, 58, 32, 99, 111, 109, 44, 32, 100, 32, 58, 32, 99, 111, 109, 44, 32, 101, 32, 58, 32, 99, 111, 109, 32, 124, 45, 32, 99, 111, 109, 32, 58, 32, 115, 107, 105, 112]
def y4 : Bytes := [97, 98, 99, 100, 101, 102, 103, 104, 105, 32, 58, 32, 99, 111, 109, 32, 124, 45, 32, 99, 111, 109, 32, 58, 32, 115, 107, 105, 112]
theorem limC : (okQ (quick (rowR 1 59)) (fun _ => true) && (fullQ (quick (rowR 1 60)) && (okQ (quick (rowR 2 58)) (fun _ => true) && fullQ (quick (rowR 2 59))))) = true := by decide +kernel
theorem limD : (isOk (readText y1) (fun _ => true) && (isErr (readText y2) 2 && (isErr (readText y3) 2 && isErr (readText y4) 2))) = true := by decide +kernel
theorem pad_R (n : Nat) : pad n = [124, 45, 32, 99, 111, 109, 32, 58, 32, 115, 107, 105, 112] ++ repR [32] n := by unfold pad; rw [rep_R]
theorem limE : okQ (quick ([124, 45, 32, 99, 111, 109, 32, 58, 32, 115, 107, 105, 112] ++ repR [32] 3987)) (fun _ => true) = true := by decide +kernel
theorem limF : isErr (readText ([124, 45, 32, 99, 111, 109, 32, 58, 32, 115, 107, 105, 112] ++ repR [32] 3988)) 2 = true := by decide +kernel
theorem lim_facts (d : Nat) (h : d < 59) : ∃ P, readText (rowT (stepsAt d) d) = (0, some P) ∧ nodes P.root = 2 * stepsAt d - 1 + 2 * d ∧ readText (rowT (stepsAt d + 1) d) = (5, none) := by
  have hb := lim_all d h
  unfold limB at hb
  rw [Bool.and_eq_true] at hb
  rw [row_R, row_R]
  obtain ⟨P, h1, h2⟩ := okQ_out hb.1
  exact ⟨P, h1, of_decide_eq_true h2, fullQ_out hb.2⟩
theorem lim_more : (∃ P, readText (rowT 1 59) = (0, some P)) ∧ readText (rowT 1 60) = (5, none) ∧ (∃ P, readText (rowT 2 58) = (0, some P)) ∧ readText (rowT 2 59) = (5, none) ∧ (∃ P, readText y1 = (0, some P)) ∧ readText y2 = (2, none) ∧ readText y3 = (2, none) ∧ readText y4 = (2, none) ∧ (∃ P, readText (pad 3987) = (0, some P)) ∧ readText (pad 3988) = (2, none) := by
  have hc := limC
  have hd := limD
  simp only [Bool.and_eq_true] at hc hd
  rw [row_R, row_R, row_R, row_R, pad_R, pad_R]
  obtain ⟨P1, h1, _⟩ := okQ_out hc.1
  obtain ⟨P2, h2, _⟩ := okQ_out hc.2.2.1
  obtain ⟨P3, h3, _⟩ := isOk_out hd.1
  obtain ⟨P4, h4, _⟩ := okQ_out limE
  exact ⟨⟨P1, h1⟩, fullQ_out hc.2.1, ⟨P2, h2⟩, fullQ_out hc.2.2.2, ⟨P3, h3⟩, isErr_out hd.2.1, isErr_out hd.2.2.1, isErr_out hd.2.2.2, ⟨P4, h4⟩, isErr_out limF⟩
end Go.Proofs.YtpdbkdcdlafobaaGreatDoor.L
end
section
namespace Go.Proofs.YtpdbkdcdlafobaaGreatDoor.Limits
open Go.ChangeShapes Go.WideShapes Go.ChangeAt Go.RowKit
def Walk : Prop := ∀ (a0 : Int) (_ : (Lit.int .u8 a0).wf = true) (w : World), Calls Tryz.prog 3 #[.int .u8 a0] w fun e w' => e = .returned (.bool true) ∧ Frm (fun _ => False) w w'
set_option maxRecDepth 100000 in
theorem lifted (walk : Walk) (os : Os) (started : os.Started) (H : Type) (enc : TypeId × Value → H) :
    ReturnsInHanded {} Tryz.checked os 3 .any (fun w args => (Rows.langLimitsSpec.pre enc Tryz.prog Tryz.f3 [] false w args ∧ laidMet Tryz.prog Rows.langLimitsRow.laid w) ∧ sizedMet enc Tryz.prog Tryz.f3 (OpenSpec.ofChange Rows.langLimitsSpec) false w args)
      (Rows.langLimitsSpec.post enc Tryz.prog Tryz.f3 false true false false) := by
  refine returnsInHanded_of_change_and (C := Tryz.checked) (X := fun w _ => laidMet Tryz.prog Rows.langLimitsRow.laid w) (fun _ _ _ hh h => h.of_heap hh) own started (by kernel_rfl) Tryz.func3
    (ChangeSpec.witness_at (enc := enc) (C := Tryz.checked) (os := os) (X := fun w _ => laidMet Tryz.prog Rows.langLimitsRow.laid w) false (laidWorld os) #[.int .u8 0] 8 rfl (by kernel_rfl) (by kernel_rfl) (by kernel_rfl) (by kernel_rfl) (by kernel_rfl) (laid_met os _)) ?_
  intro W base args ds gs before hval0 hW _ _ hL _
  have hval : ∀ (j : Nat) t v, Tryz.f3.params[j]? = some t → args[j]? = some v → Value.okWide Tryz.prog W .any base t v := hval0
  have hW' := hW
  obtain ⟨p, q, hA0, hV, rfl, hfz, hnd⟩ := hW
  have hA : DataW.TrodAll enc Tryz.prog W 0 (fun _ => true) true Tryz.f3.params.toList args.toList ds p := hA0
  rw [Tryz.params3] at hA hval
  obtain ⟨v0, vs0, d0, ds0, p0, q0, hargs, rfl, rfl, h0, r0⟩ := trodAll_cons hA
  obtain ⟨rfl, rfl, rfl⟩ := trodAll_nil r0
  obtain rfl : args = #[v0] := by cases args; simp_all
  obtain ⟨rfl, rfl⟩ := trodVars_none hV
  obtain ⟨a0, rfl, rfl, rfl, w0⟩ := open_int Tryz.underlying5 (hval 0 5 v0 rfl rfl) h0
  clear hA0 hval0
  simp only [List.append_nil] at hW'
  refine (walk a0 w0 W).mono fun e W' ⟨he, hg⟩ => ?_
  subst he
  exact ⟨_, rfl, _, _, _, _, _, _, hW', trodAll_cons_mk (shut_bool Tryz.underlying4 _) trodAll_mk0, trodAll_cons_mk (shut_int Tryz.underlying5 w0) trodAll_mk0, rfl, hg.kept _, fun h => by cases h⟩
theorem row_holds (walk : Walk) : Rows.LangLimitsSaid :=
  OpenClaim.holds_of_wide 3 Tryz.f3 rfl rfl rfl rfl rfl rfl rfl ⟨rfl, rfl, rfl, rfl, rfl⟩ rfl rfl rfl rfl rfl (by kernel_rfl) Tryz.func3 (by kernel_rfl)
    (of_decide_eq_true (by kernel_rfl)) (by unfold Func.isWrapper; first | (rw [if_pos (by decide +kernel)]; kernel_rfl) | (rw [if_neg (by decide +kernel)]; exact ⟨rfl, rfl⟩))
    (fun os started H enc _ => lifted walk os started H enc)
theorem card_of (walk : Walk) : Rows.LangLimitsCardSaid :=
  Claim7.holds_tied_plain_at .later [] [.data, .data, .data, .data, .pinned] true Rows.langLimitsCard.stood.harness true
    (row_holds walk) (fun _ h => by cases h) (by kernel_rfl) (fun _ h => by cases h) langLimits_row_tie rfl ⟨rfl, rfl⟩ (by kernel_rfl) rfl
    (fun f fn hf hfn => by
      obtain rfl : f = 3 := Option.some.inj ((show Tryz.prog.funcNamed "doppelganger/doppelgangerlaw01.LangLimits" = some 3 by kernel_rfl).symm.trans hf) |>.symm
      obtain rfl : fn = Tryz.f3 := (Option.some.inj (Tryz.func3.symm.trans hfn)).symm
      exact ⟨by kernel_rfl, fun j t ht => by
        rw [Tryz.params3] at ht
        have h3 : t = 5 := by
          rcases j with _ | j
          · simpa using ht.symm
          · simp at ht
        subst h3
        exact (show Tryz.prog.wantsStandIn 5 = false by kernel_rfl)⟩)
    (by kernel_rfl)
end Go.Proofs.YtpdbkdcdlafobaaGreatDoor.Limits
end
section
namespace Go.Proofs.YtpdbkdcdlafobaaGreatDoor
open Go.RowKit
theorem u8_nat {a0 : Int} (h : (Lit.int .u8 a0).wf = true) : ∃ n : Nat, a0 = n ∧ n < 256 := by
  have h1 : IntKind.u8.min = 0 := rfl
  have h2 : IntKind.u8.max = 255 := rfl
  simp [Lit.wf, h1, h2] at h
  exact ⟨a0.toNat, by omega, by omega⟩
theorem row_int (a b : Int) (s d : Nat) (ha : a = s) (hb : b = d) (hs : s ≤ 1000) (hd : d ≤ 1000) (w : World) : Calls Tryz.prog 6 #[.int .i64 a, .int .i64 b] w fun e w' => e = .returned (.string (str (L.rowT s d))) ∧ w = w' := by
  subst ha hb
  exact row_nat s d hs hd w
theorem L.pad_snoc (k : Nat) : L.pad (k + 1) = L.pad k ++ [32] := by unfold L.pad; rw [L.rep, List.append_assoc]
theorem L.pad_len (k : Nat) : (L.pad k).length = 13 + k := by unfold L.pad; rw [List.length_append, L.rep_len]; simp
theorem run_sp {a : L.Bytes} (h : a.length ≤ 900000) (w : World) : (Op.stringOp .add (str a) ⟨#[32]⟩).run Tryz.prog w = .ok (.string (str (a ++ [32]))) w := run_cat (b := [32]) (by simp; omega) w
set_option maxRecDepth 100000 in
set_option maxHeartbeats 4000000 in
theorem limits_walk : Limits.Walk := by
  intro a0 w0 w
  obtain ⟨n, rfl, hn⟩ := u8_nat w0
  clear w0
  obtain ⟨d, hd, hD, hS⟩ : ∃ d : Nat, d < 59 ∧ (n : Int) % 59 = (d : Int) ∧ (600 - 2 * ((n : Int) % 59) + 1) / 2 = (L.stepsAt d : Nat) := ⟨n % 59, by omega, by omega, by unfold L.stepsAt; omega⟩
  obtain ⟨P, h1, hnd, h2⟩ := L.lim_facts d hd
  obtain ⟨⟨P3, h3⟩, h4, ⟨P5, h5⟩, h6, ⟨P7, h7⟩, h8, h9, h10, ⟨P11, h11⟩, h12⟩ := L.lim_more
  have fp := L.readText_fit h1
  have hs : L.stepsAt d ≤ 300 := by unfold L.stepsAt; omega
  have hs1 : 1 ≤ L.stepsAt d := by unfold L.stepsAt; omega
  obtain ⟨m, hm1, hm2⟩ : ∃ m : Nat, L.nodes P.root = m ∧ (m : Int) = 2 * (L.stepsAt d : Nat) - 1 + 2 * (d : Nat) := ⟨_, rfl, by omega⟩
  generalize L.stepsAt d = s at *
  have H1 := Lib.hid h1
  have H2 := Lib.hid h2
  have H3 := Lib.hid h3
  have H4 := Lib.hid h4
  have H5 := Lib.hid h5
  have H6 := Lib.hid h6
  have H7 := Lib.hid h7
  have H8 := Lib.hid h8
  have H9 := Lib.hid h9
  have H10 := Lib.hid h10
  have H11 := Lib.hid h11
  have H12 := Lib.hid h12
  have HD := Lib.hid hD
  have HS := Lib.hid hS
  have HM1 := Lib.hid hm1
  have HM2 := Lib.hid hm2
  clear h1 h2 h3 h4 h5 h6 h7 h8 h9 h10 h11 h12 hD hS hm1 hm2 hnd
  go_enter Tryz.func3, Tryz.ntmps3
  go_wp2_with fail
  rw [HS.out, HD.out]
  refine (row_int _ _ s d rfl rfl (by omega) (by omega) w).mono ?_
  rintro _ _ ⟨rfl, rfl⟩
  go_wp2_with fail
  refine (read_yes H1.out _).mono ?_
  rintro _ w1 ⟨p, rfl, pp, f1⟩
  have F1 := Lib.hid f1
  have PP1 := Lib.hid pp
  clear f1 pp
  go_wp2_with fail
  refine (row_int _ _ (s + 1) (d) (by omega) rfl (by omega) (by omega) _).mono ?_
  rintro _ _ ⟨rfl, rfl⟩
  go_wp2_with fail
  refine (read_not H2.out _).mono ?_
  rintro _ w2 ⟨rfl, f2⟩
  have F2 := Lib.hid (F1.out.trans f2)
  have PP2 := Lib.hid (PP1.out.keep f2)
  clear f2
  go_wp2_with fail
  refine (row_int _ _ (1) (59) rfl rfl (by omega) (by omega) _).mono ?_
  rintro _ _ ⟨rfl, rfl⟩
  go_wp2_with fail
  refine (read_yes H3.out _).mono ?_
  rintro _ w3 ⟨p3, rfl, -, f3⟩
  have F3 := Lib.hid (F2.out.trans f3)
  have PP3 := Lib.hid (PP2.out.keep f3)
  clear f3
  go_wp2_with fail
  refine (row_int _ _ (1) (60) rfl rfl (by omega) (by omega) _).mono ?_
  rintro _ _ ⟨rfl, rfl⟩
  go_wp2_with fail
  refine (read_not H4.out _).mono ?_
  rintro _ w4 ⟨rfl, f4⟩
  have F4 := Lib.hid (F3.out.trans f4)
  have PP4 := Lib.hid (PP3.out.keep f4)
  clear f4
  go_wp2_with fail
  refine (row_int _ _ (2) (58) rfl rfl (by omega) (by omega) _).mono ?_
  rintro _ _ ⟨rfl, rfl⟩
  go_wp2_with fail
  refine (read_yes H5.out _).mono ?_
  rintro _ w5 ⟨p5, rfl, -, f5⟩
  have F5 := Lib.hid (F4.out.trans f5)
  have PP5 := Lib.hid (PP4.out.keep f5)
  clear f5
  go_wp2_with fail
  refine (row_int _ _ (2) (59) rfl rfl (by omega) (by omega) _).mono ?_
  rintro _ _ ⟨rfl, rfl⟩
  go_wp2_with fail
  refine (read_not H6.out _).mono ?_
  rintro _ w6 ⟨rfl, f6⟩
  have F6 := Lib.hid (F5.out.trans f6)
  have PP6 := Lib.hid (PP5.out.keep f6)
  clear f6
  go_wp2_with fail
  refine (nodes_at PP6.out fp HM1.out).mono ?_
  rintro _ w7 ⟨A7, c7, cs7, rfl, -, -, f7⟩
  have F7 := Lib.hid (F6.out.trans f7)
  clear f7
  have hm := HM2.out
  go_wp2_with fail
  clear hm
  refine (read_yes H7.out _).mono ?_
  rintro _ w8 ⟨p8, rfl, -, f8⟩
  have F8 := Lib.hid (F7.out.trans f8)
  clear f8
  go_wp2_with fail
  refine (read_not H8.out _).mono ?_
  rintro _ w9 ⟨rfl, f9⟩
  have F9 := Lib.hid (F8.out.trans f9)
  clear f9
  go_wp2_with fail
  refine (read_not H9.out _).mono ?_
  rintro _ w10 ⟨rfl, f10⟩
  have F10 := Lib.hid (F9.out.trans f10)
  clear f10
  go_wp2_with fail
  refine (read_not H10.out _).mono ?_
  rintro _ w11 ⟨rfl, f11⟩
  have F11 := Lib.hid (F10.out.trans f11)
  clear f11
  go_wp2_with fail
  go_loopg [17] 3988 (fun q v wr => ∃ k : Nat, k ≤ 3987 ∧ q = 3988 - k ∧ v = .string (str (L.pad k)) ∧ wr = w11)
  case atStart => exact ⟨0, Nat.zero_le _, rfl, rfl, rfl⟩
  case round =>
    obtain ⟨k, hk, rfl, rfl, rfl⟩ := hrel
    have hlen := L.pad_len k
    have hsz : (str (L.pad k)).size = 13 + k := by rw [size_str, hlen]
    have HSN := Lib.hid (L.pad_snoc k)
    by_cases hlt : k < 3987
    · have hcat := fun W => run_sp (a := L.pad k) (by omega) W
      generalize L.pad k = A at *
      have hlt' : (13 : Int) + (k : Int) < 4000 := by omega
      clear hlen
      go_wp2_with fail
      go_roundg (3988 - (k + 1))
      case measure => omega
      case rel => exact ⟨k + 1, by omega, rfl, by rw [HSN.out], rfl⟩
    · have ek : k = 3987 := by omega
      subst ek
      have hcat := fun W => run_sp (a := L.pad 3987) (by omega) W
      rw [← L.pad_snoc] at hcat
      clear hlen
      go_wp2_with fail
      refine (read_yes H11.out _).mono ?_
      rintro _ w12 ⟨p12, rfl, -, f12⟩
      have F12 := Lib.hid (F11.out.trans f12)
      clear f12
      go_wp2_with fail
      refine (read_not (l := L.pad (3987 + 1)) H12.out _).mono ?_
      rintro _ w13 ⟨rfl, f13⟩
      have F13 := Lib.hid (F12.out.trans f13)
      clear f13
      go_wp2_with fail
      refine (awake_any _).mono ?_
      rintro _ w14 ⟨rfl, f14⟩
      have F14 := Lib.hid (F13.out.trans f14)
      clear f14
      go_wp2_with fail
      go_ret
      exact ⟨rfl, F14.out⟩
theorem langLimits_holds : Rows.LangLimitsCardSaid := Limits.card_of limits_walk
end Go.Proofs.YtpdbkdcdlafobaaGreatDoor
end
