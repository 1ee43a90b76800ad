/- The contract of bindingsOf. The contract of read at rows and procs, and at every term. The contract of newReader. Contracts of the program's functions, with no condition beyond what each theorem states. -/
import Derived.Test.YtpdbkdcdlafobaaGreatDoorC12
import Derived.Test.YtpdbkdcdlafobaaGreatDoorC13
import Derived.Deep.RegionHeld3
section
namespace Go.Proofs.YtpdbkdcdlafobaaGreatDoor
open Go.RowKit
theorem cell_four_at {w : World} {u v x y : Value} {e : TypeId} {n : Nat} (hn : w.heap.size = n) : ∀ (j : Nat) (z : Value), [u, v, x, y][j]? = some z → (w.alloc (.cells #[u, v, x, y] e)).cell? ((⟨n, 0, none⟩ : Addr).add j) = some z := by
  subst hn
  intro j z hz
  rw [add_zero_off, (Blk.new w e #[u, v, x, y]).cell j]
  simpa using hz
theorem innerOf_succ {ps : List (L.Bytes × Int)} {k : Nat} (hk : k < ps.length) : L.innerOf (ps.take (k + 1)) = L.innerOf (ps.take k) ++ [L.ofParam ps[k]] := by
  rw [L.innerOf, List.take_succ_eq_append_getElem hk, List.map_append]; rfl
theorem ints_succ {ps : List (L.Bytes × Int)} {k : Nat} (hk : k < ps.length) : ints ((ps.map (·.2)).take (k + 1)) = ints ((ps.map (·.2)).take k) ++ [.int .i64 ps[k].2] := by
  rw [List.take_succ_eq_append_getElem (by simpa using hk), ints, ints, List.map_append]
  simp
/-- The cells of what a procedure's parameters bind. -/
def icell (p : L.Bytes × Int) : List Value := if p.2 = 2 then [.int .i64 3, .string (str p.1), .slice none 0 0, .int .i64 0] else [.int .i64 2, .string (str p.1), .slice none 0 0, .int .i64 p.2]
def icells (ps : List (L.Bytes × Int)) : List Value := ps.flatMap icell
theorem icells_succ {ps : List (L.Bytes × Int)} {k : Nat} (hk : k < ps.length) : icells (ps.take (k + 1)) = icells (ps.take k) ++ icell ps[k] := by
  rw [icells, List.take_succ_eq_append_getElem hk, List.flatMap_append]; simp [icells]
theorem icells_bds (w : World) : ∀ ps : List (L.Bytes × Int), Bds w (L.innerOf ps) (icells ps)
  | [] => rfl
  | p :: ps => by
    refine ⟨.slice none 0 0, icells ps, ?_, ?_, icells_bds w ps⟩
    · rw [icells, List.flatMap_cons, icell, L.ofParam]
      split <;> rfl
    · rw [L.ofParam]
      split <;> exact World.ownsRow_nil _ _ _ _
theorem blk4 {w' : World} {b : Nat} {t : TypeId} {u0 u1 u2 u3 : Value} (h : Blk w' b t #[u0, u1, u2, u3]) (v0 v1 v2 v3 : Value) : Blk ((((w'.setCell ⟨b, 0, none⟩ v0).setCell ⟨b, 1, none⟩ v1).setCell ⟨b, 2, none⟩ v2).setCell ⟨b, 3, none⟩ v3) b t #[v0, v1, v2, v3] := by
  have := ((((h).set_ 0 v0).set_ 1 v1).set_ 2 v2).set_ 3 v3
  simpa using this
theorem frm4 {w w' : World} {b : Nat} {E : Nat → Prop} (h : Frm E w w') (hb : b < w.heap.size → E b) (v0 v1 v2 v3 : Value) : Frm E w ((((w'.setCell ⟨b, 0, none⟩ v0).setCell ⟨b, 1, none⟩ v1).setCell ⟨b, 2, none⟩ v2).setCell ⟨b, 3, none⟩ v3) := ((((h).set_ (p := ⟨b, 0, none⟩) hb v0).set_ (p := ⟨b, 1, none⟩) hb v1).set_ (p := ⟨b, 2, none⟩) hb v2).set_ (p := ⟨b, 3, none⟩) hb v3
theorem Bds.one' {w : World} {b : L.Bnd} {a : Value} (ha : Tys w 0 a b.args) : Bds w [b] [.int .i64 b.sort, .string (str b.name), a, .int .i64 b.result] := ⟨a, [], rfl, ha, rfl⟩
theorem tys_nil (w : World) : Tys w 0 (.slice none 0 0) [] := World.ownsRow_nil _ _ _ _
/-- The cells of a slice of parameters. -/
theorem prs_cells {w : World} {v : Value} {ps : List (L.Bytes × Int)} (h : Prs w v ps) : ∃ A c, v = .slice A ps.length c ∧ ∀ k (hk : k < ps.length), ∃ g, A = some ⟨g, 0, none⟩ ∧ w.cell? ⟨g, k * 2, none⟩ = some (.string (str ps[k].1)) ∧ w.cell? ⟨g, k * 2 + 1, none⟩ = some (.int .i64 ps[k].2) := by
  have hc := @World.ownsRow.cells _ _ _ _ _ _ _ h
  rcases h.2 with ⟨rfl, hn⟩ | ⟨g, cap, cur, rfl, _⟩
  · exact ⟨none, 0, by rw [hn], fun k hk => by omega⟩
  · refine ⟨_, cap, rfl, fun k hk => ⟨g, rfl, ?_⟩⟩
    obtain ⟨p0, p1⟩ := prs_at hk
    have h0 := hc rfl _ _ p0
    have h1 := hc rfl _ _ p1
    rw [add_zero_off] at h0 h1
    exact ⟨h0, h1⟩
def BindPost (n : L.Bytes) (ps : List (L.Bytes × Int)) (r : Int) (w : World) (e : Ending) (w' : World) : Prop :=
  Frm (fun _ => False) w w' ∧ ∃ iv av, e = .returned (.tuple #[iv, .agg #[.int .i64 1, .string (str n), av, .int .i64 r]]) ∧ Bnds w' 0 iv (L.innerOf ps) ∧ Tys w' 0 av (ps.map (·.2))
set_option maxRecDepth 100000 in
set_option maxHeartbeats 2000000 in
theorem bindingsOf_any (of : Int) (n : L.Bytes) (ps : List (L.Bytes × Int)) (sl : Value) (r : Int) (a0 a1 : Value) (w : World) (T0 T1 : TypeId) (c0 c1 : Array Value) (e0 : a0 = .iface T0 (.agg c0)) (e1 : a1 = .iface T1 (.agg c1)) (ho : Prs w sl ps) (hp : ps.length ≤ 3) :
    Calls Tryz.prog 54 #[.agg #[.int .i64 of, .string (str n), sl, .int .i64 r, a0, a1]] w (BindPost n ps r w) := by
  subst e0 e1
  obtain ⟨Ad, c, rfl, hcs⟩ := prs_cells ho
  have HC := Lib.hid hcs
  clear ho hcs
  go_enter Tryz.func54, Tryz.ntmps54
  go_wp2_with fail
  go_loopg [2, 14] (ps.length + 1) (fun m iv i wr => ∃ (k : Nat) (av : Value), k ≤ ps.length ∧ m = ps.length + 1 - k ∧ i = .int .i64 k ∧ wr.ownsRow (w.heap.size + 2) 67 4 iv k (icells (ps.take k)) ∧
    Blk wr (w.heap.size + 1) 67 #[.int .i64 1, .string (str n), av, .int .i64 r] ∧ wr.ownsRow (w.heap.size + 2) 32 1 av k (ints ((ps.map (·.2)).take k)) ∧ Frm (fun _ => False) w wr ∧ w.heap.size + 2 ≤ wr.heap.size)
  case atStart =>
    have B := Blk.new (w.alloc (.cells #[.int .i64 of, .string (str n), .slice Ad ps.length c, .int .i64 r, .iface T0 (.agg c0), .iface T1 (.agg c1)] 129)) 67 #[.int .i64 1, .string (str n), .slice none 0 0, .int .i64 r]
    rw [World.size_alloc] at B
    exact ⟨0, .slice none 0 0, Nat.zero_le _, rfl, rfl, World.ownsRow_nil _ _ _ _, B, World.ownsRow_nil _ _ _ _, ((Frm.refl _ w).alloc _).alloc _, by simp⟩
  case round =>
    obtain ⟨k, av, hk, rfl, rfl, hown, hbo, hoa, hf, hsz⟩ := hrel
    by_cases hlt : k < ps.length
    · obtain ⟨g, hg0, hc0, hc1⟩ := HC.out k hlt
      subst hg0
      have d0 := hf.cell id hc0
      have d1 := hf.cell id hc1
      have HS1 := Lib.hid (icells_succ hlt)
      have HS2 := Lib.hid (ints_succ hlt)
      clear hc0 hc1
      generalize ps[k] = p at *
      obtain ⟨x, t⟩ := p
      dsimp only at d0 d1
      obtain ⟨Aa, ca, rfl⟩ := own_form hoa
      have o2 : ∀ o1 o2, ((wr.alloc o1).alloc o2).cell? ⟨w.heap.size + 1, 2, none⟩ = some (.slice Aa k ca) := fun o1 o2 => ((hbo.alloc o1).alloc o2).cell 2
      have o3 : ∀ o1, (wr.alloc o1).cell? ⟨w.heap.size + 1, 2, none⟩ = some (.slice Aa k ca) := fun o1 => (hbo.alloc o1).cell 2
      have HBO := Lib.hid hbo
      have HOW := Lib.hid hown
      clear hbo hown
      obtain ⟨i0, hi, hz0, hz1, hz2⟩ := info_parts info_type
      go_wp2_with (at_builtin; refine wpList_append_own _ rfl _ _ 50 rfl (w.heap.size + 2) 32 i0 (.int .i64 0) 1 8 Tryz.underlying50 hi hz0 hz1 hz2 rfl (by decide) _ _ _ rfl ((hoa.alloc _).alloc _) ⟨wr.heap.size + 1, 0, none⟩ 1 1 [.int .i64 t] rfl rfl ?y1 ?y2 ?y3 ?y4 ?y5 ?_)
      case y2 => simp [Value.oneCell']
      case y3 => unfold maxLen; omega
      case y4 => omega
      case y5 => first | omega | (simp; omega)
      intro v' w1 hown1 hgrow _
      have FA := (((Frm.refl (fun _ => False) wr).alloc (.cells #[.string (str x), .int .i64 t] 49)).alloc (.cells #[.int .i64 t] 32))
      have hb1 := Lib.hid ((FA.blk HBO.out id).grown hgrow (fun e => by have := own_ge hoa _ e.symm; omega))
      have hp1 := Lib.hid (((Blk.new wr 49 #[.string (str x), .int .i64 t]).alloc (.cells #[.int .i64 t] 32)).grown hgrow (fun e => by have := (hoa.lt _ e.symm).2; omega))
      have hw1 := Lib.hid (((Keeps.refl 67 _).grown ((hoa.alloc _).alloc _) (by decide) hgrow).row (FA.row HOW.out (fun _ _ h => h) (Nat.le_refl _)))
      have hf1 := Lib.hid (((hf.alloc _).alloc _).grown hgrow (fun g hg hlt => by have := own_ge hoa g hg; omega))
      have hsz1 : w.heap.size + 2 ≤ w1.heap.size := by have := hgrow.size; simp at this; omega
      have hwz : wr.heap.size < w1.heap.size := by have := hgrow.size; simp at this; omega
      obtain ⟨A1, c1, rfl⟩ := own_form hown1
      have HO1 := Lib.hid hown1
      have g2 := hb1.out.cell 2
      have z2 := hb1.out.frozen 2
      have far : ∀ u, Blk (w1.setCell ⟨w.heap.size + 1, 2, none⟩ u) wr.heap.size 49 #[.string (str x), .int .i64 t] := fun u => hp1.out.far (p := ⟨w.heap.size + 1, 2, none⟩) (by intro h; dsimp only at h; omega) u
      have e0 : ∀ u, (w1.setCell ⟨w.heap.size + 1, 2, none⟩ u).cell? ⟨wr.heap.size, 0, none⟩ = some (.string (str x)) := fun u => (far u).cell 0
      have e1 : ∀ u, (w1.setCell ⟨w.heap.size + 1, 2, none⟩ u).cell? ⟨wr.heap.size, 1, none⟩ = some (.int .i64 t) := fun u => (far u).cell 1
      have HS : Hid (Frm (· = w.heap.size + 1) w1 (w1.setCell ⟨w.heap.size + 1, 2, none⟩ (.slice A1 (k + 1) c1))) := (Frm.refl (· = w.heap.size + 1) w1).set_ (p := ⟨w.heap.size + 1, 2, none⟩) (fun _ => rfl) _
      have HOW2 := Lib.hid (HS.out.row hw1.out (fun g hg e => by have := own_ge hw1.out g hg; omega) (Nat.le_refl _))
      have HO2 := Lib.hid (HS.out.row HO1.out (fun g hg e => by have := own_ge HO1.out g hg; omega) (Nat.le_refl _))
      have HB2 := Lib.hid (hb1.out.set_ 2 (.slice A1 (k + 1) c1))
      have HF2 := Lib.hid (hf1.out.set_ (p := ⟨w.heap.size + 1, 2, none⟩) (fun h => by dsimp only at h; omega) (.slice A1 (k + 1) c1))
      have hsz2 : w.heap.size + 2 ≤ (w1.setCell ⟨w.heap.size + 1, 2, none⟩ (.slice A1 (k + 1) c1)).heap.size := by simp; omega
      clear hi hz0 hz1 hz2 hown1 hgrow far FA o2 o3 hoa
      obtain ⟨i1, hi, hz0, hz1, hz2⟩ := info_parts info_bnd
      by_cases ht : t = 2
      · subst ht
        have HI : Hid (icell (x, 2) = [.int .i64 3, .string (str x), .slice none 0 0, .int .i64 0]) := rfl
        go_wp2_with (at_builtin; refine wpList_append_own _ rfl _ _ 68 rfl (w.heap.size + 2) 67 i1 (.agg #[.int .i64 0, .string ⟨#[]⟩, .slice none 0 0, .int .i64 0]) 4 56 Tryz.underlying68 hi hz0 hz1 hz2 rfl (by decide) _ _ _ rfl (HOW2.out.alloc _) ⟨w1.heap.size, 0, none⟩ 1 1 [.int .i64 3, .string (str x), .slice none 0 0, .int .i64 0] rfl rfl ?d1 ?d2 ?d3 ?d4 ?d5 ?_)
        case d1 => exact cell_four_at (by simp)
        case d2 => simp [Value.oneCell']
        case d3 => unfold maxLen; omega
        case d4 => omega
        case d5 => simp; omega
        intro v2 w2 hown2 hgrow2 _
        have hx1 := Lib.hid (((Keeps.refl 32 _).grown (HOW2.out.alloc _) (by decide) hgrow2).row (((Frm.refl (fun _ => False) _).alloc _).row HO2.out (fun _ _ h => h) (Nat.le_refl _)))
        have hx2 := Lib.hid ((HB2.out.alloc _).grown hgrow2 (fun e => by have := own_ge HOW2.out _ e.symm; omega))
        have hx3 := Lib.hid ((HF2.out.alloc _).grown hgrow2 (fun g hg hlt => by have := own_ge HOW2.out g hg; omega))
        have hx4 : w.heap.size + 2 ≤ w2.heap.size := by have := hgrow2.size; simp at this; omega
        have hx5 := Lib.hid hown2
        clear hown2 hgrow2 e0 e1 g2 z2 hi hz0 hz1 hz2
        go_wp2_with fail
        go_roundg (ps.length + 1 - (k + 1))
        case measure => omega
        case rel =>
          refine ⟨k + 1, .slice A1 (k + 1) c1, by omega, rfl, by go_num, ?_, hx2.out, ?_, hx3.out, hx4⟩
          · rw [HS1.out, HI.out]; exact hx5.out
          · rw [HS2.out]; exact hx1.out
      · have HI : Hid (icell (x, t) = [.int .i64 2, .string (str x), .slice none 0 0, .int .i64 t]) := if_neg ht
        go_wp2_with (at_builtin; refine wpList_append_own _ rfl _ _ 68 rfl (w.heap.size + 2) 67 i1 (.agg #[.int .i64 0, .string ⟨#[]⟩, .slice none 0 0, .int .i64 0]) 4 56 Tryz.underlying68 hi hz0 hz1 hz2 rfl (by decide) _ _ _ rfl (HOW2.out.alloc _) ⟨w1.heap.size, 0, none⟩ 1 1 [.int .i64 2, .string (str x), .slice none 0 0, .int .i64 t] rfl rfl ?x1 ?x2 ?x3 ?x4 ?x5 ?_)
        case x1 => exact cell_four_at (by simp)
        case x2 => simp [Value.oneCell']
        case x3 => unfold maxLen; omega
        case x4 => omega
        case x5 => simp; omega
        intro v2 w2 hown2 hgrow2 _
        have hx1 := Lib.hid (((Keeps.refl 32 _).grown (HOW2.out.alloc _) (by decide) hgrow2).row (((Frm.refl (fun _ => False) _).alloc _).row HO2.out (fun _ _ h => h) (Nat.le_refl _)))
        have hx2 := Lib.hid ((HB2.out.alloc _).grown hgrow2 (fun e => by have := own_ge HOW2.out _ e.symm; omega))
        have hx3 := Lib.hid ((HF2.out.alloc _).grown hgrow2 (fun g hg hlt => by have := own_ge HOW2.out g hg; omega))
        have hx4 : w.heap.size + 2 ≤ w2.heap.size := by have := hgrow2.size; simp at this; omega
        have hx5 := Lib.hid hown2
        clear hown2 hgrow2 e0 e1 g2 z2 hi hz0 hz1 hz2
        go_wp2_with fail
        go_roundg (ps.length + 1 - (k + 1))
        case measure => omega
        case rel =>
          refine ⟨k + 1, .slice A1 (k + 1) c1, by omega, rfl, by go_num, ?_, hx2.out, ?_, hx3.out, hx4⟩
          · rw [HS1.out, HI.out]; exact hx5.out
          · rw [HS2.out]; exact hx1.out
    · have ek : k = ps.length := by omega
      subst ek
      rw [List.take_length] at hown
      obtain ⟨Aa, ca, rfl⟩ := own_form hoa
      have hot : Hid (Tys wr 0 (.slice Aa ps.length ca) (ps.map (·.2))) := by
        have h := own_base hoa (Nat.zero_le (w.heap.size + 2))
        rw [List.take_of_length_le (by simp)] at h
        exact show Tys _ _ _ _ by unfold Tys; rw [List.length_map]; exact h
      have q0 := hbo.cell 0
      have q1 := hbo.cell 1
      have q2 := hbo.cell 2
      have q3 := hbo.cell 3
      have z0 := hbo.frozen 0
      have z1 := hbo.frozen 1
      have z2 := hbo.frozen 2
      have z3 := hbo.frozen 3
      have HO := Lib.hid hown
      have HB := Lib.hid hbo
      have HF := Lib.hid hf
      have HA := Lib.hid (own_ge hoa)
      clear hown hoa hbo hf
      go_wp2_with fail
      go_region
      go_wp2_with fail
      have GB := (blk4 HB.out (.int .i64 1) (.string (str n)) (.slice Aa ps.length ca) (.int .i64 r)).drew
      have G1 := (frm4 (Frm.refl (· = w.heap.size + 1) wr) (b := w.heap.size + 1) (fun _ => rfl) (.int .i64 1) (.string (str n)) (.slice Aa ps.length ca) (.int .i64 r)).drew
      have G2 := (frm4 HF.out (b := w.heap.size + 1) (fun h => by omega) (.int .i64 1) (.string (str n)) (.slice Aa ps.length ca) (.int .i64 r)).drew
      have r1 := Lib.hid (own_base (G1.row HO.out (fun g hg e => by have := own_ge HO.out g hg; omega) (Nat.le_refl _)) (Nat.zero_le _))
      have hkt : Hid (∀ g, (Value.slice Aa ps.length ca).ownBlock = some g → g ≠ w.heap.size + 1) := fun g hg e => by subst e; have := HA.out _ hg; omega
      have r2 := Lib.hid (Frm.row G1 hot.out (fun g hg e => hkt.out g hg e) (Nat.le_refl _))
      have g0 := GB.cell 0
      have g1 := GB.cell 1
      have g2 := GB.cell 2
      have g3 := GB.cell 3
      clear q0 q1 q2 q3 z0 z1 z2 z3 GB G1
      refine bodyPost_ret (v := .tuple #[u2, .agg #[.int .i64 1, .string (str n), .slice Aa ps.length ca, .int .i64 r]]) (by simp [results, Tryz.results54, go_sem, g0, g1, g2, g3]) rfl ⟨G2, _, _, rfl, ⟨_, ?_, icells_bds _ ps⟩, r2.out⟩
      rw [L.innerOf, List.length_map]
      exact r1.out
end Go.Proofs.YtpdbkdcdlafobaaGreatDoor
end
section
namespace Go.Proofs.YtpdbkdcdlafobaaGreatDoor
open Go.RowKit
section
variable {n0 R E F : Nat} {caps : Array Value} {V : L.Vst} {Inv : World → Prop} {P : Nat}
set_option maxRecDepth 100000 in
set_option maxHeartbeats 2000000 in
theorem read_row (hP1 : 1 ≤ P) (hG : L.Good P V) (hvis : Vis n0 R E F caps V Inv) (ts : List L.Tm) (hts : ∀ t ∈ ts, ReadOk n0 R E F caps V Inv P t) : ReadOk n0 R E F caps V Inv P (.row ts) := by
  intro w lo bs e v hrs hinv hn0 hb hP hrep
  have HREP := Lib.hid hrep
  have HRS := Lib.hid hrs
  have HI := Lib.hid hinv
  have HInv := Lib.hid hvis.1
  clear hrs hinv hvis
  obtain ⟨sl, vs, rfl, h2, hol, -, hrl⟩ := hrep
  obtain ⟨As, cl, rfl⟩ := own_form hol
  have HOL := Lib.hid hol
  have HRL := Lib.hid hrl
  have hcount := hrl.count
  have a0 := fun W => assert_row_yes W (.agg #[.slice As ts.length cl])
  have F1 := (Frm.refl (fun _ => False) w).alloc (.cells #[.slice As ts.length cl] 111)
  have RS1 := Lib.hid (HRS.out.frm F1)
  have KP1 : Hid (Kp R E lo w _) := Kp.frm F1
  have hnodes : P * L.nodesL ts ≤ 1000000 := Nat.le_trans (Nat.mul_le_mul_left P (by simp only [L.nodes]; omega)) hP
  have hlen : ts.length ≤ 1000000 := by have := Nat.le_mul_of_pos_left (L.nodesL ts) hP1; omega
  have hbt : ∀ t ∈ ts, bs.length + 4 * L.levels t ≤ 1000000 := fun t ht => by have := L.levelsL_mem ht; simp only [L.levels] at hb; omega
  have hpt : ∀ t ∈ ts, P * L.nodes t ≤ 1000000 := fun t ht => Nat.le_trans (Nat.mul_le_mul_left P (L.nodesL_mem ht)) hnodes
  have hz : ((L.rdL V bs ts e).1.flatMap L.stepsOf).length ≤ 1000000000 := Nat.le_trans (L.rdL_steps hP1 hG (RepL.ok hrl) bs e) (by omega)
  have hll := L.rdL_len V bs ts e
  have hne : (L.rdL V bs ts e).1 ≠ [] := List.ne_nil_of_length_pos (by omega)
  have HX : Hid (L.rd V bs (.row ts) e = (L.inRow (L.rdL V bs ts e).1, (L.rdL V bs ts e).2)) := show _ = _ by rw [L.rd]
  have HH := Lib.hid hts
  have HBT := Lib.hid hbt
  have HPT := Lib.hid hpt
  have HZ := Lib.hid hz
  have HNE := Lib.hid hne
  have HLL := Lib.hid hll
  clear hts hbt hpt hz hne hll hol hrl F1 hcount
  go_enter Tryz.func28, Tryz.ntmps28
  go_wp2_with fail
  refine (all_ok HInv.out HH.out RS1.out (HInv.out _ _ KP1.out.t HI.out) (Nat.le_trans hn0 KP1.out.1) HBT.out HPT.out hlen ((KP1.out.2 _ (by unfold Own3; decide)).row HOL.out) (HRL.out.kp KP1.out)).mono ?_
  rintro _ w2 ⟨⟨s2, y2, rfl, ho2, hr2⟩, rs2, k2⟩
  obtain ⟨A2, c2, rfl⟩ := own_form ho2
  have HO2 := Lib.hid ho2
  have HR2 := Lib.hid (hr2.sub (A' := fun b => b < n0 ∨ w.heap.size ≤ b) fun b hb _ => hb.imp id fun h => Nat.le_trans KP1.out.1 h)
  have RS2 := Lib.hid rs2
  have KP2 := Lib.hid (KP1.out.trans k2)
  clear ho2 hr2 rs2 k2
  go_wp2_with fail
  refine (inRow_any (fun b => b < n0 ∨ w.heap.size ≤ b) (fun b => b < n0 ∨ w.heap.size ≤ b) _ _ y2 w2 (by rw [HLL.out]; exact own_base HO2.out (Nat.zero_le _)) HR2.out (fun _ h => h) (fun b hb => .inr (Nat.le_trans KP2.out.1 hb)) HNE.out HZ.out).mono ?_
  rintro _ w3 ⟨u, rfl, hu, f3⟩
  obtain ⟨T3, x3, rfl⟩ := Rep.form hu
  have HU := Lib.hid hu
  have RS3 := Lib.hid (RS2.out.frm f3)
  have KP3 := Lib.hid (KP2.out.trans (Kp.frm f3))
  clear hu f3
  go_wp2_with fail
  go_ret
  exact ⟨⟨_, rfl, by rw [HX.out]; exact HU.out⟩, by rw [HX.out]; exact RS3.out, KP3.out⟩
set_option maxRecDepth 100000 in
set_option maxHeartbeats 2000000 in
theorem read_proc (hP1 : 1 ≤ P) (hvis : Vis n0 R E F caps V Inv) (of : Int) (n : L.Bytes) (ps : List (L.Bytes × Int)) (r : Int) {x0 : L.Tm} {x1 : L.Tm} (hx0 : ReadOk n0 R E F caps V Inv P x0) (hx1 : ReadOk n0 R E F caps V Inv P x1) : ReadOk n0 R E F caps V Inv P (.proc of n ps r x0 x1) := by
  intro w lo bs e v hrs hinv hn0 hb hP hrep
  have HREP := Lib.hid hrep
  have HRS := Lib.hid hrs
  have HI := Lib.hid hinv
  have HInv := Lib.hid hvis.1
  have HM := Lib.hid hvis.2.1
  have HV := Lib.hid hvis.2.2
  have hbs : bs.length ≤ 1000000 := by omega
  clear hrs hinv hvis
  obtain ⟨sl, w0, w1, rfl, hp3, hps, hpa, r0, r1⟩ := hrep
  obtain ⟨T0, c0, rfl⟩ := Rep.form r0
  have H0 := Lib.hid r0
  have I0 := Lib.hid hx0
  clear r0 hx0
  obtain ⟨T1, c1, rfl⟩ := Rep.form r1
  have H1 := Lib.hid r1
  have I1 := Lib.hid hx1
  clear r1 hx1
  obtain ⟨Ap, cp, rfl⟩ := own_form hps
  have HPS := Lib.hid hps
  have HPA := Lib.hid hpa
  clear hps hpa
  have a0 := fun W x => assert_row_no W 129 x (by decide)
  have a1 := fun W x => assert_assign_no W 129 x (by decide)
  have a2 := fun W x => assert_choice_no W 129 x (by decide)
  have a3 := fun W x => assert_loop_no W 129 x (by decide)
  have a4 := fun W x => assert_call_no W 129 x (by decide)
  have a5 := fun W x => assert_binary_no W 129 x (by decide)
  have a6 := fun W x => assert_doing_no W 129 x (by decide)
  have a7 := fun W x => assert_fresh_no W 129 x (by decide)
  have a8 := assert_proc_yes
  obtain ⟨sv, hbk, hR, hlo, hBn⟩ := HRS.out.rd
  have d1 : ∀ o, (w.alloc o).cell? ⟨R, 1, none⟩ = some (.func (.func F) #[] caps) := fun o => (hbk.alloc o).cell 1
  have HF : ∀ o, Frm (fun _ => False) w (w.alloc o) := fun o => (Frm.refl (fun _ => False) w).alloc o
  clear hbk hR hlo hBn
  go_enter Tryz.func28, Tryz.ntmps28
  go_wp2_with (refine wpList_callv rfl (.tmp 49) (.tmp 50) _ rfl F caps (.iface 129 (.agg #[.int .i64 of, .string (str n), .slice Ap ps.length cp, .int .i64 r, .iface T0 (.agg c0), .iface T1 (.agg c1)])) rfl rfl (HM.out _ _) ?_)
  intro KK hKK
  refine (HV.out _ lo bs e (.proc of n ps r x0 x1) _ (HRS.out.frm (HF _)) (HInv.out _ _ (Kt.frm (HF _)) HI.out) (by simp; omega) hbs (HREP.out.kt (Kt.frm (HF _))) rfl (Nat.le_trans (Nat.le_mul_of_pos_left _ hP1) hP)).mono ?_
  rintro _ w1 ⟨⟨v1, rfl, hv1⟩, rs1, k1⟩
  have HRS1 := Lib.hid rs1
  have HK1 := Lib.hid ((Kp.frm (HF _)).trans k1)
  clear rs1 k1 HF d1
  refine hKK _ _ ?_
  clear hKK KK
  cases hV : (V bs (.proc of n ps r x0 x1) e).2 with
  | some u =>
    rw [hV] at hv1
    have HX : Hid (L.rd V bs (.proc of n ps r x0 x1) e = (u, (V bs (.proc of n ps r x0 x1) e).1)) := show _ = _ by rw [L.rd, L.at_some hV]
    obtain ⟨T9, x9, rfl⟩ := Rep.form hv1
    have HU := Lib.hid (hv1.sub (A' := fun b => b < n0 ∨ w.heap.size ≤ b) fun b hb _ => .inl hb)
    clear hv1 hV
    go_wp2_with fail
    go_ret
    exact ⟨⟨_, rfl, by rw [HX.out]; exact HU.out⟩, by rw [HX.out]; exact HRS1.out, HK1.out⟩
  | none =>
    rw [hV] at hv1
    obtain rfl := hv1
    have hsz1 := HK1.out.1
    have HB1 := Lib.hid (Blk.new w1 129 #[.int .i64 of, .string (str n), .slice Ap ps.length cp, .int .i64 r, .iface T0 (.agg c0), .iface T1 (.agg c1)])
    have F1 := (Frm.refl (fun _ => False) w1).alloc (.cells #[.int .i64 of, .string (str n), .slice Ap ps.length cp, .int .i64 r, .iface T0 (.agg c0), .iface T1 (.agg c1)] 129)
    have RS1 := Lib.hid (HRS1.out.frm F1)
    have KP1 := Lib.hid (HK1.out.trans (Kp.frm F1))
    clear F1
    obtain ⟨e1, he1⟩ : ∃ e1, (V bs (.proc of n ps r x0 x1) e).1 = e1 := ⟨_, rfl⟩
    rw [he1] at RS1 HRS1
    have HX : Hid (L.rd V bs (.proc of n ps r x0 x1) e = (.proc of n ps r (L.rd V (bs ++ L.innerOf ps) x0 e1).1 (L.rd V (bs ++ [L.outerOf n ps r]) x1 (L.rd V (bs ++ L.innerOf ps) x0 e1).2).1, (L.rd V (bs ++ [L.outerOf n ps r]) x1 (L.rd V (bs ++ L.innerOf ps) x0 e1).2).2)) := show _ = _ by rw [L.rd, L.at_none hV, he1]
    clear hV he1
    have hP_0 : P * L.nodes x0 ≤ 1000000 := Nat.le_trans (Nat.mul_le_mul_left P (by simp only [L.nodes]; omega)) hP
    have hb_0 : bs.length + 3 + 4 * L.levels x0 ≤ 1000000 := by simp only [L.levels] at hb; omega
    have hP_1 : P * L.nodes x1 ≤ 1000000 := Nat.le_trans (Nat.mul_le_mul_left P (by simp only [L.nodes]; omega)) hP
    have hb_1 : bs.length + 1 + 4 * L.levels x1 ≤ 1000000 := by simp only [L.levels] at hb; omega
    have hil : (L.innerOf ps).length = ps.length := List.length_map _
    have HIL : Hid (bs.length + (L.innerOf ps).length + 4 * L.levels x0 ≤ 1000000) := show _ ≤ _ by rw [hil]; omega
    clear hil
    go_wp2_with fail
    refine (bindingsOf_any of n ps _ r _ _ _ T0 T1 c0 c1 rfl rfl ((KP1.out.2 _ (by unfold Own3; decide)).row HPS.out) hp3).mono ?_
    rintro _ w2 ⟨f2, iv, av, rfl, hiv, hav⟩
    have HIV := Lib.hid hiv
    obtain ⟨cs, hos, -⟩ := hiv
    obtain ⟨Ai, ci, rfl⟩ := own_form hos
    obtain ⟨Aa, ca, hea⟩ := own_form hav
    rw [List.length_map] at hea
    subst hea
    have HAV := Lib.hid hav
    have F2 := Lib.hid f2
    have G2 := (Frm.refl (fun _ => False) w2).alloc (.cells #[.int .i64 1, .string (str n), .slice Aa ps.length ca, .int .i64 r] 67)
    have HB2 := Lib.hid (G2.blk (F2.out.blk HB1.out id) id)
    have g2 := HB2.out.cell 4
    have RS2 := Lib.hid ((RS1.out.frm F2.out).narrow (.cells #[.int .i64 1, .string (str n), .slice Aa ps.length ca, .int .i64 r] 67))
    have KP2 : Hid (Kp R E lo w (w2.alloc (.cells #[.int .i64 1, .string (str n), .slice Aa ps.length ca, .int .i64 r] 67))) := KP1.out.trans (Kp.frm (F2.out.trans G2))
    have HIV2 : Hid (Bnds (w2.alloc (.cells #[.int .i64 1, .string (str n), .slice Aa ps.length ca, .int .i64 r] 67)) 0 (.slice Ai (L.innerOf ps).length ci) (L.innerOf ps)) := by
      obtain ⟨cs, h1, h2⟩ := HIV.out
      exact ⟨cs, G2.row h1 (fun _ _ h => h) (Nat.le_refl _), h2.keep G2.keeps0⟩
    have HO2 := Lib.hid (Blk.new w2 67 #[.int .i64 1, .string (str n), .slice Aa ps.length ca, .int .i64 r])
    have HAV2 := Lib.hid (G2.row HAV.out (fun _ _ h => h) (Nat.le_refl _))
    have hE2 : E < w2.heap.size := (F2.out.blk (RS1.out.err) id).lt
    have hR2 : R < w2.heap.size := by obtain ⟨⟨v, hb, _⟩, _⟩ := RS1.out.frm F2.out; exact hb.lt
    have hz2 := KP2.out.1
    have hnR : Hid (¬ lo R) := by obtain ⟨⟨v, _, h, _⟩, _⟩ := RS1.out; exact h
    clear hos hav f2 G2
    go_wp2_with fail
    refine (within_ok HInv.out I0.out RS2.out (HInv.out _ _ KP2.out.t HI.out) (Nat.le_trans hn0 KP2.out.1) HIL.out hP_0 (H0.out.kp KP2.out) HIV2.out).mono ?_
    rintro _ w3 ⟨⟨v3, rfl, hv3⟩, rs3, k3⟩
    have HB3 : Hid (Blk w3 w1.heap.size 129 #[.int .i64 of, .string (str n), .slice Ap ps.length cp, .int .i64 r, .iface T0 (.agg c0), .iface T1 (.agg c1)]) := (k3.2 _ (by unfold Own3; decide) _ _ HB2.out).trans HB2.out
    have HO3 : Hid (Blk w3 w2.heap.size 67 #[.int .i64 1, .string (str n), .slice Aa ps.length ca, .int .i64 r]) := k3.3.blk HO2.out (fun h => by rcases h with h | h | h; omega; omega; exact h.2 rfl)
    have HAV3 := Lib.hid ((k3.2 _ (by unfold Own3; decide)).row HAV2.out)
    obtain ⟨T0', c0', rfl⟩ := Rep.form hv3
    have U0_3 := Lib.hid (hv3.sub (A' := fun b => b < n0 ∨ w.heap.size ≤ b) fun b hb _ => hb.imp id fun h => Nat.le_trans KP2.out.1 h)
    have KP3 : Hid (Kp R E lo w w3) := KP2.out.trans (k3.wide fun _ _ h => h.1)
    have RS3 := Lib.hid (rs3.wide (fun _ h => h.1) hnR.out)
    have g3_0 : w3.cell? ⟨w1.heap.size, 5, none⟩ = _ := HB3.out.cell 5
    have o3_0 : w3.cell? ⟨w2.heap.size, 0, none⟩ = _ := HO3.out.cell 0
    have o3_1 : w3.cell? ⟨w2.heap.size, 1, none⟩ = _ := HO3.out.cell 1
    have o3_2 : w3.cell? ⟨w2.heap.size, 2, none⟩ = _ := HO3.out.cell 2
    have o3_3 : w3.cell? ⟨w2.heap.size, 3, none⟩ = _ := HO3.out.cell 3
    have G3 := (Frm.refl (fun _ => False) w3).alloc (.cells #[.int .i64 1, .string (str n), .slice Aa ps.length ca, .int .i64 r] 67)
    have RSB := Lib.hid (RS3.out.frm G3)
    have KPB := Lib.hid (KP3.out.trans (Kp.frm G3))
    have HBB := Lib.hid (G3.blk HB3.out id)
    have hsb := bnds_one (b := L.outerOf n ps r) (Blk.new w3 67 #[.int .i64 1, .string (str n), .slice Aa ps.length ca, .int .i64 r]) (G3.row HAV3.out (fun _ _ h => h) (Nat.le_refl _))
    have HSB := Lib.hid hsb
    have U0_B := Lib.hid (U0_3.out.kt (Kt.frm G3))
    clear hsb hv3 rs3 k3 G3 g2
    go_wp2_with fail
    refine (within_ok HInv.out I1.out RSB.out (HInv.out _ _ KPB.out.t HI.out) (Nat.le_trans hn0 KPB.out.1) (by simp only [List.length_singleton]; omega) hP_1 (H1.out.kp KPB.out) HSB.out).mono ?_
    rintro _ w4 ⟨⟨v4, rfl, hv4⟩, rs4, k4⟩
    have HB4 : Hid (Blk w4 w1.heap.size 129 #[.int .i64 of, .string (str n), .slice Ap ps.length cp, .int .i64 r, .iface T0 (.agg c0), .iface T1 (.agg c1)]) := (k4.2 _ (by unfold Own3; decide) _ _ HBB.out).trans HBB.out
    obtain ⟨T1', c1', rfl⟩ := Rep.form hv4
    have U1_4 := Lib.hid (hv4.sub (A' := fun b => b < n0 ∨ w.heap.size ≤ b) fun b hb _ => hb.imp id fun h => Nat.le_trans KPB.out.1 h)
    have U0_4 := Lib.hid (U0_B.out.kp k4)
    have RS4 := Lib.hid rs4
    have KP4 := Lib.hid (KPB.out.trans k4)
    have HPS4 := Lib.hid ((KP4.out.2 _ (by unfold Own3; decide)).row HPS.out)
    have g4_0 : w4.cell? ⟨w1.heap.size, 0, none⟩ = _ := HB4.out.cell 0
    have g4_1 : w4.cell? ⟨w1.heap.size, 1, none⟩ = _ := HB4.out.cell 1
    have g4_2 : w4.cell? ⟨w1.heap.size, 2, none⟩ = _ := HB4.out.cell 2
    have g4_3 : w4.cell? ⟨w1.heap.size, 3, none⟩ = _ := HB4.out.cell 3
    clear hv4 rs4 k4 g3_0 o3_0 o3_1 o3_2 o3_3
    go_wp2_with fail
    go_ret
    refine ⟨⟨_, rfl, ?_⟩, by rw [HX.out]; exact RS4.out, KP4.out⟩
    rw [HX.out]
    exact ⟨_, _, _, rfl, hp3, HPS4.out, fun g hg => .inl (HPA.out g hg), U0_4.out, U1_4.out⟩
/-- read at every term. -/
theorem read_ok (hP1 : 1 ≤ P) (hG : L.Good P V) (hvis : Vis n0 R E F caps V Inv) {t : L.Tm} (h : L.Ok t) : ReadOk n0 R E F caps V Inv P t := by
  induction h with
  | skip => exact read_skip hP1 hvis
  | stop t => exact read_stop hP1 hvis t
  | fault t => exact read_fault hP1 hvis t
  | row ts _ _ ih => exact read_row hP1 hG hvis ts ih
  | assign n x _ ih => exact read_assign hP1 hvis n ih
  | choice t x y z _ _ _ i0 i1 i2 => exact read_choice hP1 hvis t i0 i1 i2
  | loop x y _ _ i0 i1 => exact read_loop hP1 hvis i0 i1
  | fresh t n x y _ _ i0 i1 => exact read_fresh hP1 hvis t n i0 i1
  | call t n ts _ ih => exact read_call hP1 hvis t n ts ih
  | proc t n ps r x y _ _ i0 i1 => exact read_proc hP1 hvis t n ps r i0 i1
  | num i => exact read_num hP1 hvis i
  | read n => exact read_read hP1 hvis n
  | binary k x y _ _ i0 i1 => exact read_binary hP1 hvis k i0 i1
  | doing x y _ _ i0 i1 => exact read_doing hP1 hvis i0 i1
  | labelled n x _ ih => exact read_labelled hP1 hvis n ih
  | exit t n => exact read_exit hP1 hvis t n
end
end Go.Proofs.YtpdbkdcdlafobaaGreatDoor
end
section
namespace Go.Proofs.YtpdbkdcdlafobaaGreatDoor
open Go.RowKit
theorem dls_cells {w : World} {v : Value} {ds : List L.Decl} (h : Decls w 0 v ds) : ∃ A c, v = .slice A ds.length c ∧ ∀ k (hk : k < ds.length), ∃ g Aa ca, A = some ⟨g, 0, none⟩ ∧ w.cell? ⟨g, k * 3, none⟩ = some (.string (str ds[k].name)) ∧ w.cell? ⟨g, k * 3 + 1, none⟩ = some (.slice Aa ds[k].args.length ca) ∧ w.cell? ⟨g, k * 3 + 2, none⟩ = some (.int .i64 ds[k].result) ∧ Tys w 0 (.slice Aa ds[k].args.length ca) ds[k].args := by
  obtain ⟨cs, ho, hd⟩ := h
  have hc := @World.ownsRow.cells _ _ _ _ _ _ _ ho
  rcases ho.2 with ⟨rfl, hn⟩ | ⟨g, cap, cur, rfl, _⟩
  · exact ⟨none, 0, by rw [hn], fun k hk => by omega⟩
  · refine ⟨_, cap, rfl, fun k hk => ?_⟩
    obtain ⟨a, p0, p1, p2, ha⟩ := hd.at_ hk
    obtain ⟨Aa, ca, rfl, _⟩ := ha.form
    have h0 := hc rfl _ _ p0
    have h1 := hc rfl _ _ p1
    have h2 := hc rfl _ _ p2
    rw [add_zero_off] at h0 h1 h2
    exact ⟨g, Aa, ca, rfl, h0, h1, h2, ha⟩
theorem blk_at {w : World} {t : TypeId} {cs : Array Value} {n : Nat} (hn : w.heap.size = n) : Blk (w.alloc (.cells cs t)) n t cs := by subst hn; exact Blk.new w t cs
set_option maxRecDepth 100000 in
set_option maxHeartbeats 2000000 in
theorem newReader_any (v : Value) (ds : List L.Decl) (w : World) (h : Decls w 0 v ds) (hn : ds.length ≤ 1000) :
    Calls Tryz.prog 24 #[v] w fun e w' => e = .returned (.pointer (some ⟨w.heap.size, 0, none⟩)) ∧ RdAt w' w.heap.size (fun b => w.heap.size < b) (ds.map L.ofDecl) .nilFunc ∧ Frm (fun _ => False) w w' := by
  obtain ⟨A, c, rfl, hcs⟩ := dls_cells h
  have HC := Lib.hid hcs
  clear h hcs
  go_enter Tryz.func24, Tryz.ntmps24
  go_wp2_with fail
  go_loopg [10] (ds.length + 1) (fun m i wr => ∃ k : Nat, k ≤ ds.length ∧ m = ds.length + 1 - k ∧ i = .int .i64 k ∧ Hid (RdAt wr w.heap.size (fun b => w.heap.size < b) ((ds.take k).map L.ofDecl) .nilFunc) ∧ Hid (Frm (fun _ => False) w wr) ∧ w.heap.size < wr.heap.size)
  case atStart =>
    refine ⟨0, Nat.zero_le _, rfl, rfl, ⟨.slice none 0 0, Blk.new w _ _, by simp, fun b hb => by simp at hb; omega, [], World.ownsRow_nil _ _ _ _, (fun g hg => by cases hg), rfl⟩, (Frm.refl _ w).alloc _, by simp⟩
  case round =>
    obtain ⟨k, hk, rfl, rfl, HR, HF, hsz⟩ := hrel
    by_cases hlt : k < ds.length
    · obtain ⟨g, Aa, ca, hg0, hc0, hc1, hc2, hta⟩ := HC.out k hlt
      subst hg0
      have d0 := HF.out.cell id hc0
      have d1 := HF.out.cell id hc1
      have d2 := HF.out.cell id hc2
      have HS : Hid ((ds.take (k + 1)).map L.ofDecl = (ds.take k).map L.ofDecl ++ [L.ofDecl ds[k]]) := show _ = _ by rw [List.take_succ_eq_append_getElem hlt, List.map_append]; rfl
      have HT := Lib.hid (HF.out.row hta (fun _ _ h => h) (Nat.le_refl _))
      clear hc0 hc1 hc2 hta
      generalize ds[k] = d at *
      obtain ⟨nm, ats, res⟩ := d
      dsimp only at d0 d1 d2 HT
      have hbl : ((ds.take k).map L.ofDecl).length ≤ 1000 := by rw [List.length_map, List.length_take]; omega
      have HBL := Lib.hid hbl
      clear hbl
      have BX := Lib.hid (Blk.new wr 52 #[.string (str nm), .slice Aa ats.length ca, .int .i64 res]).drew
      have BY : Hid (∀ o, Blk ((wr.alloc (.cells #[.string (str nm), .slice Aa ats.length ca, .int .i64 res] 52)).drew.alloc o) wr.heap.size 52 #[.string (str nm), .slice Aa ats.length ca, .int .i64 res]) := fun o => BX.out.alloc o
      go_wp2_with fail
      go_region_held3 (fun w' => w'.cell? ⟨wr.heap.size, 0, none⟩ = some (.string (str nm)) ∧ w'.cell? ⟨wr.heap.size, 1, none⟩ = some (.slice Aa ats.length ca) ∧ w'.cell? ⟨wr.heap.size, 2, none⟩ = some (.int .i64 res))
        (first | exact ⟨BX.out.cell 0, BX.out.cell 1, BX.out.cell 2⟩ | exact ⟨(BY.out _).cell 0, (BY.out _).cell 1, (BY.out _).cell 2⟩ | exact ⟨Blk.cell (t := 52) (cs := #[.string (str nm), .slice Aa ats.length ca, .int .i64 res]) (by assumption) 0, Blk.cell (t := 52) (cs := #[.string (str nm), .slice Aa ats.length ca, .int .i64 res]) (by assumption) 1, Blk.cell (t := 52) (cs := #[.string (str nm), .slice Aa ats.length ca, .int .i64 res]) (by assumption) 2⟩)
        (first | (go_at_call 48; refine (bind_any (more := [L.ofDecl ⟨nm, ats, res⟩]) (HR.out.keep ((((Frm.refl (fun _ => False) wr).alloc _).drew).alloc _)) (bnds_one (b := L.ofDecl ⟨nm, ats, res⟩) (blk_at (by simp)) (Frm.row ((((Frm.refl (fun _ => False) wr).alloc _).drew).alloc _) HT.out (fun _ _ h => h) (Nat.le_refl _))) (by have := HBL.out; simp only [List.length_singleton]; omega)).mono ?_; rintro e w3 ⟨rfl, rd3, k3⟩; have hb3 : Blk w3 wr.heap.size 52 #[.string (str nm), .slice Aa ats.length ca, .int .i64 res] := (k3.2 _ (by unfold Own2; decide) _ _ (BY.out _)).trans (BY.out _)))
      have HR3 := Lib.hid rd3
      have hs3 := k3.1
      have HF3 : Hid (Frm (fun _ => False) w w3) := Frm.mono (E := fun b => b = w.heap.size ∨ w.heap.size < b) (Frm.trans (((HF.out.mono (fun _ _ h => h.elim)).alloc _).drew.alloc _) k3.3) fun b hb h => by omega
      clear BX BY hb3
      go_wp2_with fail
      go_roundg (ds.length + 1 - (k + 1))
      case measure => omega
      case rel =>
        refine ⟨k + 1, by omega, rfl, by go_num, ?_, ?_, by have := HF3.out.1; simp at hs3; omega⟩
        · exact show RdAt _ _ _ _ _ by rw [HS.out]; exact HR3.out
        · exact HF3.out
    · go_wp2_with fail
      go_ret
      have ek : k = ds.length := by omega
      subst ek
      rw [List.take_length] at HR
      exact ⟨rfl, HR.out, HF.out⟩
end Go.Proofs.YtpdbkdcdlafobaaGreatDoor
end
