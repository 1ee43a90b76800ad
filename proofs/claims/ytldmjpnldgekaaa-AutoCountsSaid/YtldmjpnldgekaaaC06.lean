/- gather. byEnd. A region that draws its order: its last operation is free of all others, what stands ahead of the tail only reads. classes. least$1: what a letter leads a class to. Contracts of the program's functions, with no condition beyond what each theorem states. -/
import Derived.Test.YtldmjpnldgekaaaC04
import Derived.Deep.RegionLaw
import Derived.Test.YtldmjpnldgekaaaC02
import Derived.Laws.AppendOwnNone
import Derived.WalkArith
section
namespace Go.Proofs.Ytldmjpnldgekaaa
open Go.RowKit
def srT : GT := ⟨37, 3, 1⟩
def inC (x : Int) : List Value := [.int .i64 x]
/-- The sources in memory. -/
def Srcs (w : World) (S : Nat → Prop) (ob : Nat) (acc : List (List Int)) : Prop := Rws srT inC w S ob acc
theorem cfOf_inC (acc : List (List Int)) (q : Nat) : cfOf inC acc q = (acc.getD q []).map (Value.int .i64) := by
  unfold cfOf inC
  induction acc.getD q [] with
  | nil => rfl
  | cons a l ih => rw [List.flatMap_cons, ih]; rfl
theorem grown_weak {w w' : World} {row : Option Nat} (h : w.grownBy w' none) : w.grownBy w' row := ⟨h.os, h.tape, h.output, h.size, fun k hk _ => h.block k hk (fun e => by cases e)⟩
theorem Grp.app {α : Type} {T : GT} {f : α → List Value} {w W w1 : World} {S : Nat → Prop} {ob : Nat} {vf : Nat → Value} {acc : List (List α)} (h : Grp T w S ob acc.length vf (lnOf acc) (cfOf f acc)) {q : Nat} (hq : q < acc.length) (x : α) {A0 : Option Addr} {n c : Nat} {v' : Value} (e : vf q = .slice A0 n c) (hW : w.grownBy W none) (hg : W.grownBy w1 (Value.slice A0 n c).ownBlock) (ho : w1.ownsRow 0 T.e T.sz v' (n + 1) (cfOf f acc q ++ f x)) (hl : v'.ownBlock = (Value.slice A0 n c).ownBlock ∨ ∀ g, v'.ownBlock = some g → w.heap.size ≤ g) :
    Rws T f (w1.setCell ⟨ob, q, none⟩ v') (fun b => S b ∨ w.heap.size ≤ b) ob (acc.set q (acc.getD q [] ++ [x])) ∧ Frm S w (w1.setCell ⟨ob, q, none⟩ v') ∧ w1.cell? ⟨ob, q, none⟩ = some (.slice A0 n c) ∧ w1.frozen? ⟨ob, q, none⟩ = false := by
  obtain ⟨A1, c', e', _⟩ := h.slot hq
  have hn : n = lnOf acc q := by rw [e'] at e; injection e with _ e2 _; exact e2.symm
  subst hn
  have hall : w.grownBy w1 (vf q).ownBlock := by rw [e]; exact (grown_weak hW).trans hg
  have hb : Blk w1 ob T.oty (cellsOf acc.length vf) := h.out.grown hall fun e2 => (h.lie q hq ob e2.symm).2 rfl
  refine ⟨h.add hq x hall ho (by rw [e]; exact hl), h.put_frm hq hall, ?_, hb.frozen q⟩
  rw [hb.cell q, cellsOf_get vf hq, e]
namespace A
abbrev Gs := List (List Int) × List Int
def gath1 (a : Ar) (s : Gs) : Option Gs :=
  if 0 ≤ a.2 ∧ a.2 < s.1.length ∧ (s.1.getD a.2.toNat []).length ≤ big ∧ s.2.length ≤ big then
    some (s.1.set a.2.toNat (s.1.getD a.2.toNat [] ++ [a.1]), if (s.1.getD a.2.toNat []).length = 0 then s.2 ++ [a.2] else s.2) else none
def gathW : List Ar → Gs → Option Gs
  | [], s => some s
  | a :: l, s => match gath1 a s with
    | none => none
    | some s' => gathW l s'
def gathS (acc : List (List Ar)) : List Int → Gs → Option Gs
  | [], s => some s
  | x :: l, s => if 0 ≤ x ∧ x < acc.length ∧ (acc.getD x.toNat []).length ≤ big then (match gathW (acc.getD x.toNat []) s with
    | none => none
    | some s' => gathS acc l s') else none
end A
/-- What the append to a source and the store behind it come to. -/
theorem gath_facts {V : World} {Sk : Nat → Prop} {ob wb t : Nat} {vf : Nat → Value} {sk : List (List Int)} {row : List Int} {A9 : Option Addr} {c9 : Nat} {a1 : Int} (h : Grp srT V Sk ob sk.length vf (lnOf sk) (cfOf inC sk)) (ht : t < sk.length) (e9 : vf t = .slice A9 row.length c9) (hrow : row = sk.getD t []) (hb : Blk V wb 110 #[.int .i64 a1, .int .i64 (t : Int)]) (hwb : ¬ Sk wb) :
    ∀ W : World, W = (V.alloc (.cells #[.int .i64 a1] 3)).drew → W.ownsRow 0 3 1 (.slice A9 row.length c9) row.length (row.map (Value.int .i64)) ∧ (∀ (j : Nat) (u : Value), [Value.int .i64 a1][j]? = some u → W.cell? ((⟨V.heap.size, 0, none⟩ : Addr).add j) = some u) ∧ W.heap.size = V.heap.size + 1 ∧ ∀ g' cap' w1, w1.ownsRow 0 3 1 (.slice (some ⟨g', 0, none⟩) (row.length + 1) cap') (row.length + 1) (row.map (Value.int .i64) ++ [.int .i64 a1]) → W.grownBy w1 (Value.slice A9 row.length c9).ownBlock → ((Value.slice A9 row.length c9).ownBlock = some g' ∨ g' = V.heap.size + 1) → Srcs (w1.setCell ⟨ob, t, none⟩ (.slice (some ⟨g', 0, none⟩) (row.length + 1) cap')) (fun b => Sk b ∨ V.heap.size ≤ b) ob (sk.set t (row ++ [a1])) ∧ Frm Sk V (w1.setCell ⟨ob, t, none⟩ (.slice (some ⟨g', 0, none⟩) (row.length + 1) cap')) ∧ w1.cell? ⟨ob, t, none⟩ = some (.slice A9 row.length c9) ∧ w1.frozen? ⟨ob, t, none⟩ = false ∧ w1.cell? ⟨wb, 0, none⟩ = some (.int .i64 a1) ∧ w1.cell? ⟨wb, 1, none⟩ = some (.int .i64 (t : Int)) := by
  intro W hW
  subst hW
  have how := h.own t ht
  have hln : lnOf sk t = (sk.getD t []).length := rfl
  rw [e9, cfOf_inC, hln, ← hrow] at how
  refine ⟨how.alloc _, cell_one_at rfl, by simp [World.drew], fun g' cap' w1 h1 h2 h3 => ?_⟩
  have hg0 : V.grownBy (V.alloc (.cells #[.int .i64 a1] 3)) none := World.grownBy_alloc _ _ _
  have := h.app ht a1 e9 (W := (V.alloc (.cells #[.int .i64 a1] 3)).drew) (w1 := w1) (v' := .slice (some ⟨g', 0, none⟩) (row.length + 1) cap') ⟨hg0.os, hg0.tape, hg0.output, hg0.size, hg0.block⟩ h2 (by rw [cfOf_inC, ← hrow]; exact h1) (by
    rcases h3 with h3 | h3
    · exact .inl h3.symm
    · exact .inr fun g hg => by simp only [Value.ownBlock, Option.some.injEq] at hg; omega)
  rw [← hrow] at this
  have hne : ∀ g, (Value.slice A9 row.length c9).ownBlock = some g → Sk g := fun g hg => (h.lie t ht g (by rw [e9]; exact hg)).1
  have hbw : Blk w1 wb 110 #[.int .i64 a1, .int .i64 (t : Int)] := Blk.grown (w := (V.alloc (.cells #[.int .i64 a1] 3)).drew) (hb.alloc _) h2 fun e => hwb (hne _ e.symm)
  exact ⟨this.1, this.2.1, this.2.2.1, this.2.2.2, hbw.cell 0, hbw.cell 1⟩
set_option maxRecDepth 100000 in
set_option maxHeartbeats 16000000 in
theorem gather_any {w : World} {Sa S Q : Nat → Prop} {oa ob : Nat} {v : Value} {ws ls : List Int} {acc : List (List A.Ar)} {srcs srcs' : List (List Int)} (ha : Ars w Sa oa acc) (hs : Srcs w S ob srcs) (hw : Ints w Q v ws) (hQ : ∀ b, Q b → ¬ S b) (hSa : ∀ b, Sa b → ¬ S b) (hg : A.gathS acc ws (srcs, []) = some (srcs', ls)) (hl : ws.length ≤ 1000000000) :
    Calls Try.prog 73 #[v, .slice (some ⟨oa, 0, none⟩) acc.length acc.length, .slice (some ⟨ob, 0, none⟩) srcs.length srcs.length] w fun r w' => ∃ u S', r = .returned u ∧ OwnInts w' w.heap.size u ls ∧ Srcs w' S' ob srcs' ∧ (∀ b, S' b → S b ∨ w.heap.size ≤ b) ∧ (∀ g, u.ownBlock = some g → ¬ S' g) ∧ srcs'.length = srcs.length ∧ Frm S w w' := by
  obtain ⟨A0, c0, rfl, hw⟩ := hw
  obtain ⟨N, hN⟩ : ∃ N, N = srcs.length := ⟨_, rfl⟩
  obtain ⟨M, hM⟩ : ∃ M, M = acc.length := ⟨_, rfl⟩
  rw [← hN, ← hM]
  have HN := Lib.hid hN.symm
  have HM := Lib.hid hM
  have HW := Lib.hid hw
  have HA := Lib.hid ha
  have HS : Hid (Srcs w (fun b => S b ∧ b < w.heap.size) ob srcs) := hs.mono fun b hb h => ⟨h, hb⟩
  obtain ⟨S0, hS0⟩ : ∃ S0 : Nat → Prop, S0 = fun b => S b ∧ b < w.heap.size := ⟨_, rfl⟩
  have HSS : Hid (∀ b, S0 b → (S b ∨ w.heap.size ≤ b) ∧ b < w.heap.size) := by rw [hS0]; exact fun b h => ⟨.inl h.1, h.2⟩
  rw [← hS0] at HS
  have HG : Hid (A.gathS acc (ws.drop 0) (srcs, []) = some (srcs', ls)) := hg
  obtain ⟨i0, hi0, hz0, hz1, hz2⟩ := info_parts info_int
  have HQ := Lib.hid hQ
  have HSA := Lib.hid hSa
  clear hw ha hs hQ hSa hg hN hM hS0
  go_enter Try.func73, Try.ntmps73
  go_wp2_with fail
  go_loopg [7, 14] (ws.length + 1) (fun n u i wr => ∃ (k : Nat) (sk : List (List Int)) (lk : List Int) (Sk : Nat → Prop), k ≤ ws.length ∧ n = ws.length + 1 - k ∧ i = .int .i64 (k : Int) ∧ Hid (sk.length = N) ∧ Hid (A.gathS acc (ws.drop k) (sk, lk) = some (srcs', ls)) ∧ Hid (OwnInts wr w.heap.size u lk) ∧ Hid (∀ g, u.ownBlock = some g → ¬ Sk g) ∧ Hid (Srcs wr Sk ob sk) ∧ Hid (∀ b, Sk b → (S b ∨ w.heap.size ≤ b) ∧ b < wr.heap.size) ∧ Hid (Frm S w wr))
  case atStart => exact ⟨0, srcs, [], S0, Nat.zero_le _, rfl, rfl, HN, HG, World.ownsRow_nil _ _ _ _, fun g h => (by cases h), HS, HSS, Frm.refl _ _⟩
  case round =>
    clear HG HS HSS HN
    obtain ⟨k, sk, lk, Sk, hk, rfl, rfl, HN, HG, HO, HNO, HS, HSS, HF⟩ := hrel
    obtain ⟨A7, c7, rfl⟩ := own_form HO.out
    by_cases hlt : k < ws.length
    · have hlt' : (k : Int) < (ws.length : Int) := by omega
      obtain ⟨g, o, rfl, hq, hc⟩ := HW.out k hlt
      have c1 := HF.out.cell (HQ.out g hq) hc
      have hg := HG.out
      rw [List.drop_eq_getElem_cons hlt] at hg
      unfold A.gathS at hg
      generalize ws[k]'hlt = x at *
      split at hg
      case isFalse => cases hg
      rename_i hx
      obtain ⟨hx0, hx1, hx2⟩ := hx
      obtain ⟨q, rfl⟩ : ∃ q : Nat, x = (q : Int) := ⟨x.toNat, by omega⟩
      rw [Int.toNat_natCast] at hg hx2
      have hq1 : q < acc.length := by omega
      have hq2 : (q : Int) < (M : Int) := by rw [HM.out]; omega
      obtain ⟨vf, hA⟩ := HA.out
      obtain ⟨A8, c8, e8, o8, f8, n8, _⟩ := hA.slot hq1
      have HGC : Hid (∀ j (hj : j < (acc.getD q []).length), ∃ g, A8 = some ⟨g, 0, none⟩ ∧ ¬ S g ∧ w.cell? ⟨g, j * 2, none⟩ = some (.int .i64 ((acc.getD q [])[j]'hj).1) ∧ w.cell? ⟨g, j * 2 + 1, none⟩ = some (.int .i64 ((acc.getD q [])[j]'hj).2)) := fun j hj => by
        obtain ⟨g, rfl⟩ := n8 (Nat.lt_of_le_of_lt (Nat.zero_le _) hj)
        obtain ⟨h1, h2⟩ := arC_get hj
        exact ⟨g, rfl, HSA.out g (hA.cell hq1 e8 h1).2.2.1, (hA.cell hq1 e8 h1).1, (hA.cell hq1 e8 h2).1⟩
      have o8' := HF.out.cell (HSA.out oa hA.so) o8
      have hln : lnOf acc q = (acc.getD q []).length := rfl
      rw [hln] at o8'
      have HX2 := Lib.hid hx2
      generalize acc.getD q [] = ys at *
      cases hgw : A.gathW ys (sk, lk) with
      | none => rw [hgw] at hg; cases hg
      | some s2 =>
      rw [hgw] at hg
      have HG2 : Hid (A.gathS acc (ws.drop (k + 1)) s2 = some (srcs', ls)) := hg
      have HGW : Hid (A.gathW (ys.drop 0) (sk, lk) = some s2) := hgw
      have hyl : ys.length ≤ 1000000000 := HX2.out
      clear hg hgw hA o8 f8 e8 n8 hln hc hx2 HG
      go_wp2_with fail
      go_loopg [7, 23] (ys.length + 1) (fun n u i wr => ∃ (j : Nat) (sk : List (List Int)) (lk : List Int) (Sk : Nat → Prop), j ≤ ys.length ∧ n = ys.length + 1 - j ∧ i = .int .i64 (j : Int) ∧ Hid (sk.length = N) ∧ Hid (A.gathW (ys.drop j) (sk, lk) = some s2) ∧ Hid (OwnInts wr w.heap.size u lk) ∧ Hid (∀ g, u.ownBlock = some g → ¬ Sk g) ∧ Hid (Srcs wr Sk ob sk) ∧ Hid (∀ b, Sk b → (S b ∨ w.heap.size ≤ b) ∧ b < wr.heap.size) ∧ Hid (Frm S w wr))
      case atStart => exact ⟨0, sk, lk, Sk, Nat.zero_le _, rfl, rfl, HN, HGW, HO, HNO, HS, HSS, HF⟩
      case round =>
        clear HGW HO HNO HS HSS HF HN c1 o8'
        obtain ⟨j, sk, lk, Sk, hj, rfl, rfl, HN, HGW, HO, HNO, HS, HSS, HF⟩ := hrel
        obtain ⟨A7, c7, rfl⟩ := own_form HO.out
        by_cases hltj : j < ys.length
        · have hltj' : (j : Int) < (ys.length : Int) := by omega
          obtain ⟨g8, rfl, hg8, d0, d1⟩ := HGC.out j hltj
          have d0' := HF.out.cell hg8 d0
          have d1' := HF.out.cell hg8 d1
          have hgw := HGW.out
          rw [List.drop_eq_getElem_cons hltj] at hgw
          unfold A.gathW at hgw
          generalize ys[j]'hltj = a at *
          obtain ⟨a1, a2⟩ := a
          dsimp only at d0' d1' d0 d1
          cases hg1 : A.gath1 (a1, a2) (sk, lk) with
          | none => rw [hg1] at hgw; cases hgw
          | some s3 =>
          rw [hg1] at hgw
          unfold A.gath1 at hg1
          dsimp only at hg1 hgw
          split at hg1
          case isFalse => cases hg1
          rename_i hcnd
          obtain ⟨k1, k2, k3, k4⟩ := hcnd
          obtain ⟨t, rfl⟩ : ∃ t : Nat, a2 = (t : Int) := ⟨a2.toNat, by omega⟩
          rw [Int.toNat_natCast] at hg1 k3
          have ht : t < sk.length := by omega
          have ht' : (t : Int) < (N : Int) := by rw [← HN.out]; omega
          obtain ⟨vf2, hG⟩ := HS.out
          obtain ⟨A9, c9, e9, o9, f9, n9, _⟩ := hG.slot ht
          have hob : ob < wr.heap.size := hG.out.lt
          have hln : lnOf sk t = (sk.getD t []).length := rfl
          rw [hln] at o9 e9
          have HG0 := Lib.hid hG
          have HE9 := Lib.hid e9
          have HOW := hG.own t ht
          rw [e9, cfOf_inC, hln] at HOW
          have HOW' := Lib.hid HOW
          have HK3 := Lib.hid k3
          have HK4 := Lib.hid k4
          have HG1 := Lib.hid hg1
          have HGW2 := Lib.hid hgw
          have o9' := fun o => ((Frm.refl (fun _ => False) wr).alloc o).cell id o9
          have f9' := fun o => (hG.out.alloc o).frozen t
          clear hG e9 HOW k3 k4 hg1 hgw HGW d0 d1 k2 hln n9
          obtain ⟨row, hrow⟩ : ∃ row, row = sk.getD t [] := ⟨_, rfl⟩
          rw [← hrow] at o9 HE9 HOW' HK3 HG1 o9'
          have HROW := Lib.hid hrow
          clear hrow
          by_cases hz : row.length = 0
          · have hzb : ((row.length : Int) == 0) = true := by rw [hz]; rfl
            have hst : s3 = (sk.set t (row ++ [a1]), lk ++ [(t : Int)]) := by have h := HG1.out; rw [if_pos hz] at h; simp only [Option.some.injEq] at h; exact h.symm
            have HST := Lib.hid hst
            clear hz
            have HGV0 := Lib.hid (HG0.out.frm0 ((Frm.refl (fun _ => False) wr).alloc (.cells #[.int .i64 a1, .int .i64 (t : Int)] 110)))
            have HBV0 := Lib.hid (Blk.new wr 110 #[.int .i64 a1, .int .i64 (t : Int)])
            have HWB : Hid (¬ Sk wr.heap.size) := fun h => by have := (HSS.out _ h).2; omega
            have HOV0 := Lib.hid (HO.out.frm (E := fun _ => False) ((Frm.refl (fun _ => False) wr).alloc (.cells #[.int .i64 a1, .int .i64 (t : Int)] 110)) fun _ _ => id)
            have HFV0 := Lib.hid (HF.out.alloc (.cells #[.int .i64 a1, .int .i64 (t : Int)] 110))
            have HWR : Hid (w.heap.size ≤ wr.heap.size) := HF.out.1
            have HNLW : Hid (∀ g, (Value.slice A7 lk.length c7).ownBlock = some g → g ≠ wr.heap.size) := fun g hg => by have := (own_lt HO.out g hg).2; omega
            clear hst o9 f9 o9' f9'
            have o9' := fun o => ((Frm.refl (fun _ => False) wr).alloc o).cell id (show wr.cell? ⟨ob, t, none⟩ = some (.slice A9 row.length c9) by have h := HG0.out.out.cell t; rw [cellsOf_get _ ht, HE9.out] at h; exact h)
            go_wp2_with (at_builtin; refine wpList_append_own_at _ rfl _ _ 37 rfl w.heap.size 3 i0 (.int .i64 0) 1 8 Try.underlying37 hi0 hz0 hz1 hz2 rfl (by decide) _ _ _ rfl (HOV0.out.alloc _) ⟨wr.heap.size + 1, 0, none⟩ 1 1 [.int .i64 (t : Int)] rfl rfl ?y1 ?y2 ?y3 ?y4 ?y5 ?_)
            case y1 => exact cell_one_at (by simp)
            case y2 => simp [Value.oneCell']
            case y3 => have := HK4.out; unfold A.big at this; unfold maxLen; omega
            case y4 => have := HK4.out; unfold A.big at this; omega
            case y5 => have := HWR.out; simp; omega
            intro v' V hown1 hgrow _ hat
            obtain ⟨AV, cV, rfl⟩ := own_form hown1
            have fV : Frm (fun b => (Value.slice A7 lk.length c7).ownBlock = some b) (wr.alloc (.cells #[.int .i64 a1, .int .i64 (t : Int)] 110)) V := ((Frm.refl _ _).alloc _).grown hgrow fun g hg _ => hg
            have HGV : Hid (Grp srT V Sk ob sk.length vf2 (lnOf sk) (cfOf inC sk)) := HGV0.out.frm fV fun b _ hs h => HNO.out b h hs
            have HBV : Hid (Blk V wr.heap.size 110 #[.int .i64 a1, .int .i64 (t : Int)]) := fV.blk HBV0.out fun h => HNLW.out _ h rfl
            have HOV : Hid (OwnInts V w.heap.size (.slice AV (lk.length + 1) cV) (lk ++ [(t : Int)])) := OwnInts.grown rfl hown1
            have HNOV : Hid (∀ g, (Value.slice AV (lk.length + 1) cV).ownBlock = some g → ¬ Sk g) := fun g hg hs => by
              rcases hat with h | h
              · rw [h] at hg; exact HNO.out g hg hs
              · rw [h] at hg; have := (HSS.out g hs).2; simp at hg; omega
            have HFV : Hid (Frm S w V) := Frm.mono (E := fun b => S b ∨ w.heap.size ≤ b) ((HFV0.out.mono fun _ _ h => .inl h).trans (fV.mono fun b _ h => .inr (own_lt HO.out b h).1)) fun b hb h => h.resolve_right (by omega)
            have HLL : Hid ((lk ++ [(t : Int)]).length = lk.length + 1) := show _ = _ by simp
            rw [← HLL.out] at HOV HNOV ⊢
            clear hown1 hgrow hat fV HGV0 HBV0 HOV0 HFV0 o9'
            generalize lk ++ [(t : Int)] = lk2 at *
            have HGF := Lib.hid (gath_facts HGV.out ht HE9.out HROW.out HBV.out HWB.out)
            have HGD : Hid (∀ W' : World, Srcs W' (fun b => Sk b ∨ V.heap.size ≤ b) ob (sk.set t (row ++ [a1])) → Frm Sk V W' → OwnInts W' w.heap.size (.slice AV lk2.length cV) lk2 ∧ (∀ g, (Value.slice AV lk2.length cV).ownBlock = some g → ¬ ((Sk g ∨ V.heap.size ≤ g) ∧ g < W'.heap.size)) ∧ Srcs W' (fun b => (Sk b ∨ V.heap.size ≤ b) ∧ b < W'.heap.size) ob (sk.set t (row ++ [a1])) ∧ (∀ b, ((Sk b ∨ V.heap.size ≤ b) ∧ b < W'.heap.size) → (S b ∨ w.heap.size ≤ b) ∧ b < W'.heap.size) ∧ Frm S w W') := fun W' h1 h2 => by
              have hvw := HFV.out.1
              refine ⟨h2.row HOV.out (fun g hg => HNOV.out g hg) (Nat.le_refl _), fun g hg h => ?_, h1.mono fun b hb hs => ⟨hs, hb⟩, fun b h => ⟨?_, h.2⟩, ?_⟩
              · have := (own_lt HOV.out g hg).2
                rcases h.1 with h3 | h3
                · exact HNOV.out g hg h3
                · omega
              · rcases h.1 with h3 | h3
                · exact (HSS.out b h3).1
                · exact .inr (by omega)
              · exact Frm.mono (E := fun b => S b ∨ w.heap.size ≤ b) ((HFV.out.mono fun _ _ h => .inl h).trans (h2.mono fun b _ h => (HSS.out b h).1)) fun b hb h => h.resolve_right (by omega)
            have v0 := HBV.out.cell 0
            have v1 := HBV.out.cell 1
            have v0' := fun o => (HBV.out.alloc o).cell 0
            have v1' := fun o => (HBV.out.alloc o).cell 1
            have o9 := HGV.out.out.cell t
            rw [cellsOf_get _ ht, HE9.out] at o9
            have o9' := fun o => ((Frm.refl (fun _ => False) V).alloc o).cell id o9
            clear HGV HBV HWB HOV HNOV HFV HSS HNO HO HF HG0 d0' d1' HGC HX2 HG2 HW HA HM HQ HSA
            go_wp2_with fail
            go_region_law (refine step_append_lies _ rfl (.tmp 46) (.tmp 49) 37 rfl 0 3 i0 (.int .i64 0) 1 8 Try.underlying37 hi0 hz0 hz1 hz2 rfl (by decide) (.slice A9 row.length c9) row.length (row.map (Value.int .i64)) (by simp [Act.eval]) (HGF.out _ rfl).1 ⟨V.heap.size, 0, none⟩ 1 1 [.int .i64 a1] (by simp [Act.eval]) rfl (HGF.out _ rfl).2.1 (by simp [Value.oneCell']) (by decide) (by have := HK3.out; unfold A.big at this; unfold maxLen; omega) (by have := HK3.out; unfold A.big at this; omega) (Nat.zero_le _) (V.heap.size + 1) (HGF.out _ rfl).2.2.1 ?_; intro g' cap' w1 hown1 hgrow hat hlt1; obtain ⟨q1, q2, p5, f5, w50, w51⟩ := (HGF.out _ rfl).2.2.2 g' cap' w1 hown1 hgrow hat; have HQ1 := Lib.hid q1; have HQ2 := Lib.hid q2; clear q1 q2 hown1 hgrow hat)
            all_goals (
              obtain ⟨z1, z2, z3, z4, z5⟩ := HGD.out _ HQ1.out HQ2.out
              have R1 := Lib.hid z1
              have R2 := Lib.hid z2
              have R3 := Lib.hid z3
              have R4 := Lib.hid z4
              have R5 := Lib.hid z5
              clear z1 z2 z3 z4 z5 HQ1 HQ2 HGD HGF p5 f5 w50 w51 v0 v1 v0' v1' o9 o9'
              go_wp2_with fail
              go_roundg (ys.length + 1 - (j + 1))
              case measure => omega
              case rel => exact ⟨j + 1, sk.set t (row ++ [a1]), lk2, _, by omega, rfl, by go_num, (show _ = _ by rw [List.length_set]; exact HN.out), (by rw [← HST.out]; exact HGW2), R1, R2, R3, R4, R5⟩)
          · have hzb : ((row.length : Int) == 0) = false := by rw [beq_eq_false_iff_ne]; omega
            have hst : s3 = (sk.set t (row ++ [a1]), lk) := by have h := HG1.out; rw [if_neg hz] at h; simp only [Option.some.injEq] at h; exact h.symm
            have HST := Lib.hid hst
            have HGV := Lib.hid (HG0.out.frm0 ((Frm.refl (fun _ => False) wr).alloc (.cells #[.int .i64 a1, .int .i64 (t : Int)] 110)))
            have HBV := Lib.hid (Blk.new wr 110 #[.int .i64 a1, .int .i64 (t : Int)])
            have HWB : Hid (¬ Sk wr.heap.size) := fun h => by have := (HSS.out _ h).2; omega
            have HOV := Lib.hid (HO.out.frm (E := fun _ => False) ((Frm.refl (fun _ => False) wr).alloc (.cells #[.int .i64 a1, .int .i64 (t : Int)] 110)) fun _ _ => id)
            have HNOV := HNO
            have HFV := Lib.hid (HF.out.alloc (.cells #[.int .i64 a1, .int .i64 (t : Int)] 110))
            clear hst o9 f9 o9' f9'
            have o9' := fun o => ((Frm.refl (fun _ => False) wr).alloc o).cell id (show wr.cell? ⟨ob, t, none⟩ = some (.slice A9 row.length c9) by have h := HG0.out.out.cell t; rw [cellsOf_get _ ht, HE9.out] at h; exact h)
            go_wp2_with fail
            clear o9'
            generalize wr.alloc (.cells #[.int .i64 a1, .int .i64 (t : Int)] 110) = V at HGV HBV HOV HFV ⊢
            have HGF := Lib.hid (gath_facts HGV.out ht HE9.out HROW.out HBV.out HWB.out)
            have HGD : Hid (∀ W' : World, Srcs W' (fun b => Sk b ∨ V.heap.size ≤ b) ob (sk.set t (row ++ [a1])) → Frm Sk V W' → OwnInts W' w.heap.size (.slice A7 lk.length c7) lk ∧ (∀ g, (Value.slice A7 lk.length c7).ownBlock = some g → ¬ ((Sk g ∨ V.heap.size ≤ g) ∧ g < W'.heap.size)) ∧ Srcs W' (fun b => (Sk b ∨ V.heap.size ≤ b) ∧ b < W'.heap.size) ob (sk.set t (row ++ [a1])) ∧ (∀ b, ((Sk b ∨ V.heap.size ≤ b) ∧ b < W'.heap.size) → (S b ∨ w.heap.size ≤ b) ∧ b < W'.heap.size) ∧ Frm S w W') := fun W' h1 h2 => by
              have hvw := HFV.out.1
              refine ⟨h2.row HOV.out (fun g hg => HNOV.out g hg) (Nat.le_refl _), fun g hg h => ?_, h1.mono fun b hb hs => ⟨hs, hb⟩, fun b h => ⟨?_, h.2⟩, ?_⟩
              · have := (own_lt HOV.out g hg).2
                rcases h.1 with h3 | h3
                · exact HNOV.out g hg h3
                · omega
              · rcases h.1 with h3 | h3
                · exact (HSS.out b h3).1
                · exact .inr (by omega)
              · exact Frm.mono (E := fun b => S b ∨ w.heap.size ≤ b) ((HFV.out.mono fun _ _ h => .inl h).trans (h2.mono fun b _ h => (HSS.out b h).1)) fun b hb h => h.resolve_right (by omega)
            have v0 := HBV.out.cell 0
            have v1 := HBV.out.cell 1
            have v0' := fun o => (HBV.out.alloc o).cell 0
            have v1' := fun o => (HBV.out.alloc o).cell 1
            have o9 := HGV.out.out.cell t
            rw [cellsOf_get _ ht, HE9.out] at o9
            have o9' := fun o => ((Frm.refl (fun _ => False) V).alloc o).cell id o9
            clear HGV HBV HWB HOV HNOV HFV HSS HNO HO HF HG0 d0' d1' HGC HX2 HG2 HW HA HM HQ HSA
            go_region_law (refine step_append_lies _ rfl (.tmp 46) (.tmp 49) 37 rfl 0 3 i0 (.int .i64 0) 1 8 Try.underlying37 hi0 hz0 hz1 hz2 rfl (by decide) (.slice A9 row.length c9) row.length (row.map (Value.int .i64)) (by simp [Act.eval]) (HGF.out _ rfl).1 ⟨V.heap.size, 0, none⟩ 1 1 [.int .i64 a1] (by simp [Act.eval]) rfl (HGF.out _ rfl).2.1 (by simp [Value.oneCell']) (by decide) (by have := HK3.out; unfold A.big at this; unfold maxLen; omega) (by have := HK3.out; unfold A.big at this; omega) (Nat.zero_le _) (V.heap.size + 1) (HGF.out _ rfl).2.2.1 ?_; intro g' cap' w1 hown1 hgrow hat hlt1; obtain ⟨q1, q2, p5, f5, w50, w51⟩ := (HGF.out _ rfl).2.2.2 g' cap' w1 hown1 hgrow hat; have HQ1 := Lib.hid q1; have HQ2 := Lib.hid q2; clear q1 q2 hown1 hgrow hat)
            all_goals (
              obtain ⟨z1, z2, z3, z4, z5⟩ := HGD.out _ HQ1.out HQ2.out
              have R1 := Lib.hid z1
              have R2 := Lib.hid z2
              have R3 := Lib.hid z3
              have R4 := Lib.hid z4
              have R5 := Lib.hid z5
              clear z1 z2 z3 z4 z5 HQ1 HQ2 HGD HGF p5 f5 w50 w51 v0 v1 v0' v1' o9 o9'
              go_wp2_with fail
              go_roundg (ys.length + 1 - (j + 1))
              case measure => omega
              case rel => exact ⟨j + 1, sk.set t (row ++ [a1]), lk, _, by omega, rfl, by go_num, (show _ = _ by rw [List.length_set]; exact HN.out), (by rw [← HST.out]; exact HGW2), R1, R2, R3, R4, R5⟩)
        · have hltj' : ¬ (j : Int) < (ys.length : Int) := by omega
          have hgw := HGW.out
          rw [List.drop_of_length_le (by omega)] at hgw
          simp only [A.gathW, Option.some.injEq] at hgw
          subst hgw
          clear HGW
          go_wp2_with fail
          go_roundg (ws.length + 1 - (k + 1))
          case measure => omega
          case rel => exact ⟨k + 1, sk, lk, Sk, by omega, rfl, by go_num, HN, HG2, HO, HNO, HS, HSS, HF⟩
    · have hlt' : ¬ (k : Int) < (ws.length : Int) := by omega
      have hg := HG.out
      rw [List.drop_of_length_le (by omega)] at hg
      simp only [A.gathS, Option.some.injEq, Prod.mk.injEq] at hg
      obtain ⟨rfl, rfl⟩ := hg
      clear HG
      go_wp2_with fail
      go_ret
      first | exact ⟨_, rfl, HO.out, Sk, HS.out, fun b hs => (HSS.out b hs).1, HNO.out, HN.out, HF.out⟩ | exact ⟨_, Sk, rfl, HO.out, HS.out, fun b hs => (HSS.out b hs).1, HNO.out, HN.out, HF.out⟩
end Go.Proofs.Ytldmjpnldgekaaa
end
section
namespace Go.Proofs.Ytldmjpnldgekaaa
open Go.RowKit
set_option maxRecDepth 100000 in
set_option maxHeartbeats 4000000 in
theorem one_q {w : World} {S : Nat → Prop} {pb : Nat} {d : A.Pd} {k b : Nat} (h : Pt w S pb d) (h1 : k < d.beg.length) (h2 : d.beg.getD k 0 = (b : Int)) (h3 : b < d.row.length) :
    Calls Try.prog 56 #[.pointer (some ⟨pb, 0, none⟩), .int .i64 k] w fun e w' => e = .returned (.int .i64 (d.row.getD b 0)) ∧ ∃ m, w' = w.drewN m := by
  obtain ⟨vf, h⟩ := h
  obtain ⟨g3, c3, e3, o3, f3, k3, l3, _⟩ := h.at_ (i := 3) (j := k) (by decide) h1
  obtain ⟨g0, c0, e0, o0, f0, k0, l0, _⟩ := h.at_ (i := 0) (j := b) (by decide) h3
  have hk' : (k : Int) < ((d.f 3).length : Int) := by have : k < (d.f 3).length := h1; omega
  have hb' : (b : Int) < ((d.f 0).length : Int) := by have : b < (d.f 0).length := h3; omega
  rw [show (d.f 3).getD k 0 = (b : Int) from h2] at k3
  have HX : Hid ((d.f 0).getD b 0 = d.row.getD b 0) := rfl
  generalize (d.f 0).getD b 0 = x at *
  generalize (d.f 0).length = n0 at *
  generalize (d.f 3).length = n3 at *
  rw [← HX.out]
  clear h1 h2 h3 h e0 e3
  go_enter Try.func56, Try.ntmps56
  go_wp2_with fail
  go_quiet (fail)
  go_wp2_with fail
  go_ret
  exact ⟨rfl, nq, rfl⟩
namespace A
/-- The row and the places behind the first k states, those that are alive with End b put in. -/
def endTo (m : Mac) (al : List Bool) (b : Bool) (d : Pd) : Nat → Pd
  | 0 => d
  | k + 1 => if al.getD k false && (m.fin.getD k false == b) then { endTo m al b d k with place := (endTo m al b d k).place.set k ((endTo m al b d k).row.length : Int), row := (endTo m al b d k).row ++ [(k : Int)] } else endTo m al b d k
def roundB (m : Mac) (al : List Bool) (b : Bool) (d : Pd) : Pd := if d.row.length < (endTo m al b d m.next.length).row.length then (endTo m al b d m.next.length).added d.row.length (endTo m al b d m.next.length).row.length else endTo m al b d m.next.length
def pd0 (n : Nat) : Pd := ⟨[], List.replicate n 0, List.replicate n 0, [], [], []⟩
def stage (m : Mac) (al : List Bool) : Nat → Pd
  | 0 => pd0 m.next.length
  | k + 1 => roundB m al (decide (k = 0)) (stage m al k)
def deadTo (al : List Bool) (cls : List Int) : Nat → List Int
  | 0 => cls
  | k + 1 => if al.getD k false then deadTo al cls k else (deadTo al cls k).set k (-1)
def byEndP (m : Mac) (al : List Bool) : Pd := { stage m al 2 with cls := deadTo al (stage m al 2).cls m.next.length }
/-- What holds of the partition at each step: n states, and bounds. -/
structure Pi (n B : Nat) (d : Pd) : Prop where
  pl : d.place.length = n
  cl : d.cls.length = n
  rw : ∀ x ∈ d.row, 0 ≤ x ∧ x < n
  rl : d.row.length ≤ B
  bl : d.beg.length ≤ B
  fl : d.fin.length ≤ B
  ml : d.mkd.length ≤ B
theorem Pi.mono {n B B' : Nat} {d : Pd} (h : Pi n B d) (hB : B ≤ B') : Pi n B' d := ⟨h.pl, h.cl, h.rw, Nat.le_trans h.rl hB, Nat.le_trans h.bl hB, Nat.le_trans h.fl hB, Nat.le_trans h.ml hB⟩
theorem Pi.put {n B k : Nat} {d : Pd} (h : Pi n B d) (hk : k < n) : Pi n (B + 1) { d with place := d.place.set k (d.row.length : Int), row := d.row ++ [(k : Int)] } :=
  ⟨by simp [h.pl], h.cl, fun x hx => by
    simp only [List.mem_append, List.mem_singleton] at hx
    rcases hx with hx | hx
    · exact h.rw x hx
    · omega, by have := h.rl; simp; omega, by have := h.bl; dsimp only; omega, by have := h.fl; dsimp only; omega, by have := h.ml; dsimp only; omega⟩
theorem Pi.added {n B b e : Nat} {d : Pd} (h : Pi n B d) : Pi n (B + 1) (d.added b e) :=
  ⟨h.pl, by unfold Pd.added; dsimp only; rw [clsTo_len]; exact h.cl, h.rw, by have := h.rl; unfold Pd.added; dsimp only; omega, by have := h.bl; unfold Pd.added; simp; omega, by have := h.fl; unfold Pd.added; simp; omega, by have := h.ml; unfold Pd.added; simp; omega⟩
theorem Pi.row_at {n B : Nat} {d : Pd} (h : Pi n B d) {i : Nat} (hi : i < d.row.length) : 0 ≤ d.row.getD i 0 ∧ d.row.getD i 0 < d.cls.length := by
  have := h.rw _ (List.getElem_mem hi)
  rw [h.cl]
  simpa [hi] using this
theorem endTo_pi {m : Mac} {al : List Bool} {b : Bool} {n B : Nat} {d : Pd} (h : Pi n B d) : ∀ k, k ≤ n → Pi n (B + k) (endTo m al b d k)
  | 0, _ => h
  | k + 1, hk => by
    have ih := endTo_pi (m := m) (al := al) (b := b) h k (by omega)
    unfold endTo
    split
    · exact ih.put (by omega)
    · exact ih.mono (by omega)
theorem roundB_pi {m : Mac} {al : List Bool} {b : Bool} {B : Nat} {d : Pd} (h : Pi m.next.length B d) : Pi m.next.length (B + (m.next.length + 1)) (roundB m al b d) := by
  have h1 := endTo_pi (m := m) (al := al) (b := b) h m.next.length (Nat.le_refl _)
  unfold roundB
  split
  · exact h1.added.mono (by omega)
  · exact h1.mono (by omega)
theorem stage_pi (m : Mac) (al : List Bool) : ∀ k, Pi m.next.length (k * (m.next.length + 1)) (stage m al k)
  | 0 => ⟨by simp [stage, pd0], by simp [stage, pd0], fun x hx => by simp [stage, pd0] at hx, by simp [stage, pd0], by simp [stage, pd0], by simp [stage, pd0], by simp [stage, pd0]⟩
  | k + 1 => by
    have := roundB_pi (al := al) (b := decide (k = 0)) (stage_pi m al k)
    unfold stage
    exact this.mono (by rw [Nat.add_mul]; omega)
theorem deadTo_len (al : List Bool) (cls : List Int) (k : Nat) : (deadTo al cls k).length = cls.length := by
  induction k with
  | zero => rfl
  | succ k ih => unfold deadTo; split <;> simp [ih]
end A
def ptVf (N pa pc : Nat) : Nat → Value
  | 1 => .slice (some ⟨pa, 0, none⟩) N N
  | 2 => .slice (some ⟨pc, 0, none⟩) N N
  | _ => .slice none 0 0
theorem pt_new {w W : World} {N pa pc : Nat} (hN : N ≤ 100000) (hp : pa = w.heap.size ∧ pc = w.heap.size + 1 ∨ pa = w.heap.size + 1 ∧ pc = w.heap.size) (hW : W = (((w.alloc (.cells (madeCells #[.int .i64 0] N) 3)).alloc (.cells (madeCells #[.int .i64 0] N) 3)).alloc (.cells #[.slice none 0 0, .slice (some ⟨pa, 0, none⟩) N N, .slice (some ⟨pc, 0, none⟩) N N, .slice none 0 0, .slice none 0 0, .slice none 0 0] 82)).drew) :
    Pt W (fun b => w.heap.size ≤ b ∧ b < w.heap.size + 3) (w.heap.size + 2) (A.pd0 N) := by
  subst hW
  refine ⟨ptVf N pa pc, ?_⟩
  have hrow : ∀ p, p = w.heap.size ∨ p = w.heap.size + 1 → ((((w.alloc (.cells (madeCells #[.int .i64 0] N) 3)).alloc (.cells (madeCells #[.int .i64 0] N) 3)).alloc (.cells #[.slice none 0 0, .slice (some ⟨pa, 0, none⟩) N N, .slice (some ⟨pc, 0, none⟩) N N, .slice none 0 0, .slice none 0 0, .slice none 0 0] 82)).drew).ownsRow 0 3 1 (.slice (some ⟨p, 0, none⟩) N N) N ((List.replicate N 0).map (Value.int .i64)) := fun p hp => by
    refine ⟨by simp, .inr ⟨p, N, madeCells #[.int .i64 0] N, rfl, Nat.zero_le _, ?_, Nat.le_refl _, by unfold maxLen; omega, by simp [madeCells], by rw [toList_madeCells_one]; simp⟩⟩
    rcases hp with rfl | rfl
    · exact ((Blk.new w 3 (madeCells #[.int .i64 0] N)).alloc _).alloc _
    · exact (blk_at (w := w.alloc (.cells (madeCells #[.int .i64 0] N) 3)) (by simp)).alloc _
  have hnil : ∀ W : World, W.ownsRow 0 3 1 (.slice none 0 0) 0 (([] : List Int).map (Value.int .i64)) := fun W => World.ownsRow_nil _ _ _ _
  have hpa : pa = w.heap.size ∨ pa = w.heap.size + 1 := by omega
  have hpc : pc = w.heap.size ∨ pc = w.heap.size + 1 := by omega
  refine ⟨?_, ⟨by omega, by omega⟩, fun i hi => ?_, fun i hi g hg => ?_, fun i j hi hj hne g hg hg' => ?_⟩
  · exact blk_at (w := (w.alloc (.cells (madeCells #[.int .i64 0] N) 3)).alloc (.cells (madeCells #[.int .i64 0] N) 3)) (by simp)
  · match i, hi with
    | 0, _ => exact hnil _
    | 1, _ =>
      have := hrow pa hpa
      simpa [ptVf, ptT, A.pd0, A.Pd.f] using this
    | 2, _ =>
      have := hrow pc hpc
      simpa [ptVf, ptT, A.pd0, A.Pd.f] using this
    | 3, _ => exact hnil _
    | 4, _ => exact hnil _
    | 5, _ => exact hnil _
  · match i, hi with
    | 0, _ => cases hg
    | 1, _ => simp only [ptVf, Value.ownBlock, Option.some.injEq] at hg; omega
    | 2, _ => simp only [ptVf, Value.ownBlock, Option.some.injEq] at hg; omega
    | 3, _ => cases hg
    | 4, _ => cases hg
    | 5, _ => cases hg
  · match i, j, hi, hj, hne with
    | 0, _, _, _, _ => cases hg
    | 1, 0, _, _, _ => cases hg'
    | 1, 1, _, _, h => exact h rfl
    | 1, 2, _, _, _ => simp only [ptVf, Value.ownBlock, Option.some.injEq] at hg hg'; omega
    | 1, 3, _, _, _ => cases hg'
    | 1, 4, _, _, _ => cases hg'
    | 1, 5, _, _, _ => cases hg'
    | 2, 0, _, _, _ => cases hg'
    | 2, 1, _, _, _ => simp only [ptVf, Value.ownBlock, Option.some.injEq] at hg hg'; omega
    | 2, 2, _, _, h => exact h rfl
    | 2, 3, _, _, _ => cases hg'
    | 2, 4, _, _, _ => cases hg'
    | 2, 5, _, _, _ => cases hg'
    | 3, _, _, _, _ => cases hg
    | 4, _, _, _, _ => cases hg
    | 5, _, _, _, _ => cases hg
set_option maxRecDepth 100000 in
set_option maxHeartbeats 8000000 in
theorem byEnd_any {w : World} {P : Nat → Prop} {v : Value} {m : A.Mac} {ga : Nat} {al : List Bool} (h : MachAt w P v m) (hf : A.Fits m) (hn : m.next.length ≤ 100000) (ha : Blk w ga 4 (boolCs al)) (hal : al.length = m.next.length) :
    Calls Try.prog 72 #[v, .slice (some ⟨ga, 0, none⟩) m.next.length m.next.length] w fun e w' => ∃ pb, e = .returned (.pointer (some ⟨pb, 0, none⟩)) ∧ Pt w' (fun b => w.heap.size ≤ b) pb (A.byEndP m al) ∧ Frm (fun _ => False) w w' := by
  obtain ⟨A1, c1, A2, c2, rfl⟩ := h.form
  obtain ⟨N, hN⟩ : ∃ N, N = m.next.length := ⟨_, rfl⟩
  have hNf : N = m.fin.length := by rw [hN]; exact hf.fin
  have HM := Lib.hid h
  have HA := Lib.hid ha
  have HB0 : Hid (Blk (w.alloc (.cells #[.int .i64 m.letters, .int .i64 m.start, .slice A1 m.next.length c1, .slice A2 m.fin.length c2] 25)) w.heap.size 25 #[.int .i64 m.letters, .int .i64 m.start, .slice A1 m.next.length c1, .slice A2 m.fin.length c2]) := Blk.new w _ _
  rw [← hN, ← hNf] at HB0
  rw [← hN] at hn hal ⊢
  rw [← hNf]
  have HN := Lib.hid hN
  have HNF := Lib.hid hNf
  have HAL := Lib.hid hal
  clear h hf hN hNf ha hal
  have hmk := run_make_row' (P := Try.prog) 37 3 (.int .i64 0) 8 Try.underlying37 info_int rfl .i64 .i64 N (by omega) (by omega)
  go_enter Try.func72, Try.ntmps72
  go_wp2_with fail
  have HALL : Hid (∀ pa pc W, (pa = w.heap.size + 1 ∧ pc = w.heap.size + 1 + 1 ∨ pa = w.heap.size + 1 + 1 ∧ pc = w.heap.size + 1) → W = ((((w.alloc (.cells #[.int .i64 m.letters, .int .i64 m.start, .slice A1 N c1, .slice A2 N c2] 25)).alloc (.cells (madeCells #[.int .i64 0] N) 3)).alloc (.cells (madeCells #[.int .i64 0] N) 3)).alloc (.cells #[.slice none 0 0, .slice (some ⟨pa, 0, none⟩) N N, .slice (some ⟨pc, 0, none⟩) N N, .slice none 0 0, .slice none 0 0, .slice none 0 0] 82)).drew → Pt W (fun b => w.heap.size + 1 ≤ b ∧ b < w.heap.size + 4) (w.heap.size + 1 + 1 + 1) (A.pd0 N) ∧ Blk W w.heap.size 25 #[.int .i64 m.letters, .int .i64 m.start, .slice A1 N c1, .slice A2 N c2] ∧ Frm (fun _ => False) w W ∧ w.heap.size + 4 ≤ W.heap.size) := fun pa pc W hp hW => by
    have hs : (w.alloc (.cells #[.int .i64 m.letters, .int .i64 m.start, .slice A1 N c1, .slice A2 N c2] 25)).heap.size = w.heap.size + 1 := by simp
    have h1 := pt_new (w := (w.alloc (.cells #[.int .i64 m.letters, .int .i64 m.start, .slice A1 N c1, .slice A2 N c2] 25))) (N := N) (pa := pa) (pc := pc) hn (by rw [hs]; exact hp) hW
    rw [hs] at h1
    refine ⟨h1, ?_, ?_, ?_⟩
    · rw [hW]; exact ((HB0.out.alloc _).alloc _).alloc _
    · rw [hW]; exact ((((Frm.refl _ w).alloc _).alloc _).alloc _).alloc _
    · rw [hW]; simp [World.drew]
  go_region
  all_goals (
    first
    | (obtain ⟨W, hW⟩ : ∃ W, W = ((((w.alloc (.cells #[.int .i64 m.letters, .int .i64 m.start, .slice A1 N c1, .slice A2 N c2] 25)).alloc (.cells (madeCells #[.int .i64 0] N) 3)).alloc (.cells (madeCells #[.int .i64 0] N) 3)).alloc (.cells #[.slice none 0 0, .slice (some ⟨w.heap.size + 1, 0, none⟩) N N, .slice (some ⟨w.heap.size + 1 + 1, 0, none⟩) N N, .slice none 0 0, .slice none 0 0, .slice none 0 0] 82)).drew := ⟨_, rfl⟩
       rw [← hW]
       obtain ⟨z1, z2, z3, z4⟩ := HALL.out (w.heap.size + 1) (w.heap.size + 1 + 1) W (.inl ⟨rfl, rfl⟩) hW
       clear hW
       have HP := Lib.hid z1
       have HB := Lib.hid z2
       have HF := Lib.hid z3
       have HL := Lib.hid z4
       clear z1 z2 z3 z4)
    | (obtain ⟨W, hW⟩ : ∃ W, W = ((((w.alloc (.cells #[.int .i64 m.letters, .int .i64 m.start, .slice A1 N c1, .slice A2 N c2] 25)).alloc (.cells (madeCells #[.int .i64 0] N) 3)).alloc (.cells (madeCells #[.int .i64 0] N) 3)).alloc (.cells #[.slice none 0 0, .slice (some ⟨w.heap.size + 1 + 1, 0, none⟩) N N, .slice (some ⟨w.heap.size + 1, 0, none⟩) N N, .slice none 0 0, .slice none 0 0, .slice none 0 0] 82)).drew := ⟨_, rfl⟩
       rw [← hW]
       obtain ⟨z1, z2, z3, z4⟩ := HALL.out (w.heap.size + 1 + 1) (w.heap.size + 1) W (.inr ⟨rfl, rfl⟩) hW
       clear hW
       have HP := Lib.hid z1
       have HB := Lib.hid z2
       have HF := Lib.hid z3
       have HL := Lib.hid z4
       clear z1 z2 z3 z4))
  all_goals (
    obtain ⟨pb, hpb⟩ : ∃ pb, pb = w.heap.size + 1 + 1 + 1 := ⟨_, rfl⟩
    have HPB : Hid (w.heap.size + 1 ≤ pb ∧ pb < w.heap.size + 4) := ⟨by omega, by omega⟩
    rw [← hpb] at HP ⊢
    have HP0 : Hid (Pt W (fun b => w.heap.size + 1 ≤ b ∧ b < w.heap.size + 4) pb (A.stage m al 0)) := by
      have h := HP.out
      rw [HN.out] at h
      exact h
    clear HALL hmk hpb HP HB0
    obtain ⟨bl, hbl⟩ : ∃ bl, bl = W.heap.size := ⟨_, rfl⟩
    have HP1 : Hid (Pt (W.alloc (.cells #[.bool true, .bool false] 4)) (fun b => w.heap.size + 1 ≤ b ∧ b < w.heap.size + 4) pb (A.stage m al 0)) := HP0.out.frm ((Frm.refl (fun _ => False) W).alloc _) fun _ _ _ => id
    have HB1 := Lib.hid (HB.out.alloc (.cells #[.bool true, .bool false] 4))
    have HF1 := Lib.hid (HF.out.alloc (.cells #[.bool true, .bool false] 4))
    have HT1 : Hid (Blk (W.alloc (.cells #[.bool true, .bool false] 4)) bl 4 (boolCs [true, false])) := blk_at hbl.symm
    have HS1 : Hid (∀ b, (w.heap.size + 1 ≤ b ∧ b < w.heap.size + 4) → w.heap.size + 1 ≤ b ∧ b < (W.alloc (.cells #[.bool true, .bool false] 4)).heap.size ∧ b ≠ bl) := fun b hb => by have := HL.out; simp; omega
    clear HB HF HP0
    obtain ⟨S0, hS0⟩ : ∃ S0 : Nat → Prop, S0 = fun b => w.heap.size + 1 ≤ b ∧ b < w.heap.size + 4 := ⟨_, rfl⟩
    rw [← hS0] at HP1
    have HS2 : Hid (∀ b, S0 b → w.heap.size + 1 ≤ b ∧ b < (W.alloc (.cells #[.bool true, .bool false] 4)).heap.size ∧ b ≠ bl) := by rw [hS0]; exact HS1
    clear hS0 HS1
    go_wp2_with fail
    try rw [← hbl]
    clear hbl
    generalize W.alloc (.cells #[.bool true, .bool false] 4) = W2 at HP1 HB1 HF1 HT1 HS2 ⊢
    go_loopg [21] 3 (fun n i wr => ∃ (k : Nat) (Sk : Nat → Prop), k ≤ 2 ∧ n = 3 - k ∧ i = .int .i64 (k : Int) ∧ Hid (Pt wr Sk pb (A.stage m al k)) ∧ Hid (∀ b, Sk b → w.heap.size + 1 ≤ b ∧ b < wr.heap.size ∧ b ≠ bl) ∧ Hid (Blk wr bl 4 (boolCs [true, false])) ∧ Hid (Blk wr w.heap.size 25 #[.int .i64 m.letters, .int .i64 m.start, .slice A1 N c1, .slice A2 N c2]) ∧ Hid (Frm (fun _ => False) w wr))
    case atStart => exact ⟨0, S0, by omega, rfl, rfl, HP1, HS2, HT1, HB1, HF1⟩
    case round =>
      clear HP1 HS2 HT1 HB1 HF1
      obtain ⟨k, Sk, hk, rfl, rfl, HP, HS, HT, HB, HF⟩ := hrel
      by_cases hlt : k < 2
      · have hlt' : (k : Int) < 2 := by omega
        have hcell : wr.cell? ⟨bl, k, none⟩ = some (.bool (decide (k = 0))) := by
          rw [HT.out.cell k]
          rcases (show k = 0 ∨ k = 1 by omega) with rfl | rfl <;> rfl
        have HPI : Hid (A.Pi N (k * (N + 1)) (A.stage m al k)) := by have := A.stage_pi m al k; rw [← HN.out] at this; exact this
        have HR : Hid (A.stage m al (k + 1) = A.roundB m al (decide (k = 0)) (A.stage m al k)) := rfl
        have HKN : Hid (k * (N + 1) ≤ 200002) := Nat.le_trans (Nat.mul_le_mul (show k ≤ 2 by omega) (show N + 1 ≤ 100001 by omega)) (by omega)
        generalize k * (N + 1) = B at *
        generalize decide (k = 0) = bv at *
        generalize A.stage m al k = d0 at *
        obtain ⟨vf, hP⟩ := HP.out
        obtain ⟨A0, c0, e0, o0, f0, _⟩ := hP.slot (i := 0) (by decide)
        have hl0 : (d0.f 0).length = d0.row.length := rfl
        rw [hl0] at o0
        have HE0 : Hid (Pt wr Sk pb (A.endTo m al bv d0 0)) := HP
        clear hP e0 hl0 HP
        go_wp2_with fail
        go_loopg [32] (N + 1) (fun n i wr => ∃ (j : Nat) (Sj : Nat → Prop), j ≤ N ∧ n = N + 1 - j ∧ i = .int .i64 (j : Int) ∧ Hid (Pt wr Sj pb (A.endTo m al bv d0 j)) ∧ Hid (∀ b, Sj b → w.heap.size + 1 ≤ b ∧ b < wr.heap.size ∧ b ≠ bl) ∧ Hid (Blk wr bl 4 (boolCs [true, false])) ∧ Hid (Blk wr w.heap.size 25 #[.int .i64 m.letters, .int .i64 m.start, .slice A1 N c1, .slice A2 N c2]) ∧ Hid (Frm (fun _ => False) w wr))
        case atStart => exact ⟨0, Sk, Nat.zero_le _, rfl, rfl, HE0, HS, HT, HB, HF⟩
        case round =>
          clear HE0 HS HT HB HF hcell o0 f0
          obtain ⟨j, Sj, hj, rfl, rfl, HP, HS, HT, HB, HF⟩ := hrel
          by_cases hltj : j < N
          · have hltj' : (j : Int) < (N : Int) := by omega
            have hjf : j < m.fin.length := by rw [← HNF.out]; exact hltj
            obtain ⟨g, o, hA, hc⟩ := HM.out.fin_at hjf
            subst hA
            have q1 := HF.out.cell id hc
            have q2 := HF.out.cell id ((HA.out.cell j).trans (boolCs_getD (by rw [HAL.out]; exact hltj)))
            have q3 := HB.out.cell 3
            have hfe : m.fin.getD j false = m.fin[j]'hjf := by simp [hjf]
            rw [← hfe] at q1
            have HX : Hid (A.endTo m al bv d0 (j + 1) = if al.getD j false && (m.fin.getD j false == bv) then { A.endTo m al bv d0 j with place := (A.endTo m al bv d0 j).place.set j ((A.endTo m al bv d0 j).row.length : Int), row := (A.endTo m al bv d0 j).row ++ [(j : Int)] } else A.endTo m al bv d0 j) := rfl
            have HPJ : Hid (A.Pi N (B + j) (A.endTo m al bv d0 j)) := A.endTo_pi HPI.out j hj
            generalize al.getD j false = a at *
            generalize m.fin.getD j false = f at *
            generalize A.endTo m al bv d0 j = dj at *
            clear hc hfe
            by_cases hcond : (a && (f == bv)) = true
            · obtain ⟨rfl, hfb⟩ : a = true ∧ f = bv := by
                rw [Bool.and_eq_true] at hcond
                exact ⟨hcond.1, by simpa using hcond.2⟩
              subst hfb
              have HX2 : Hid (A.endTo m al f d0 (j + 1) = { dj with place := dj.place.set j (dj.row.length : Int), row := dj.row ++ [(j : Int)] }) := show _ = _ by rw [HX.out, if_pos hcond]
              obtain ⟨vf, hP⟩ := HP.out
              have hjp : j < (dj.f 1).length := show j < dj.place.length by rw [HPJ.out.pl]; exact hltj
              obtain ⟨A0, c0, e0, o0, f0, _⟩ := hP.slot (i := 0) (by decide)
              obtain ⟨g1, cc1, e1, o1, f1, k1, l1, _⟩ := hP.at_ (i := 1) (j := j) (by decide) hjp
              have hl0 : (dj.f 0).length = dj.row.length := rfl
              rw [hl0] at o0
              have hjn : (j : Int) < ((dj.f 1).length : Int) := by omega
              have HPV := Lib.hid hP
              have HE1 := Lib.hid e1
              have HJP : Hid (j < dj.place.length) := hjp
              generalize (dj.f 1).length = n1 at *
              generalize (dj.f 1).getD j 0 = z at k1
              clear HX hcond hP e0 e1 hl0 hjp HP
              go_wp2_with fail
              go_region
              have P1 : PtV (wr.setCell ⟨g1, j, none⟩ (.int .i64 (dj.row.length : Int))).drew Sj pb vf { dj with place := dj.place.set j (dj.row.length : Int) } := (HPV.out.set_ (i := 1) (by decide) HE1.out HJP.out (dj.row.length : Int)).drew
              have F1 : Frm Sj wr (wr.setCell ⟨g1, j, none⟩ (.int .i64 (dj.row.length : Int))).drew := (HPV.out.set_frm (i := 1) (by decide) HE1.out j (dj.row.length : Int)).drew
              generalize (wr.setCell ⟨g1, j, none⟩ (.int .i64 (dj.row.length : Int))).drew = W4 at P1 F1 ⊢
              have HP4 := Lib.hid P1
              have HF4 := Lib.hid F1
              clear P1 F1 o0 f0 o1 f1 k1 l1 q1 q2 q3
              obtain ⟨A0, c0, e0, o0, f0, _⟩ := HP4.out.slot (i := 0) (by decide)
              have hl0 : (({ dj with place := dj.place.set j (dj.row.length : Int) } : A.Pd).f 0).length = dj.row.length := rfl
              have hO := Grp.own HP4.out 0 (by decide)
              rw [e0, hl0] at hO
              rw [hl0] at o0 e0
              have HE0 := Lib.hid e0
              have HO0 := Lib.hid hO
              have HRL : Hid (dj.row.length ≤ 400000) := by have := HPJ.out.rl; have := HKN.out; exact Nat.le_trans ‹_› (by omega)
              obtain ⟨i0, hi0, hz0, hz1, hz2⟩ := info_parts info_int
              clear e0 hO hl0
              go_wp2_with (at_builtin; refine wpList_append_own_at _ rfl _ _ 37 rfl 0 3 i0 (.int .i64 0) 1 8 Try.underlying37 hi0 hz0 hz1 hz2 rfl (by decide) _ _ _ rfl (HO0.out.alloc _) ⟨W4.heap.size, 0, none⟩ 1 1 [.int .i64 (j : Int)] rfl rfl (cell_one_at rfl) (by simp [Value.oneCell']) (by have := HRL.out; unfold maxLen; omega) (by have := HRL.out; omega) (Nat.zero_le _) ?_)
              intro v' w5 hown1 hgrow _ hat
              obtain ⟨A9, c9, rfl⟩ := own_form hown1
              obtain ⟨Q1, F5, p1, r1⟩ := HP4.out.app (i := 0) (by decide) HE0.out hown1 hgrow hat (by simp)
              have HP5 : Hid (Pt (w5.setCell ⟨pb, 0, none⟩ (.slice A9 (dj.row.length + 1) c9)) (fun b => (Sj b ∨ W4.heap.size ≤ b) ∧ b < (w5.setCell ⟨pb, 0, none⟩ (.slice A9 (dj.row.length + 1) c9)).heap.size) pb (A.endTo m al f d0 (j + 1))) := by
                rw [HX2.out]
                exact ⟨_, Grp.mono Q1 fun b hb hs => ⟨hs, hb⟩⟩
              have hbl : bl < wr.heap.size := HT.out.lt
              have h45 := F5.1
              have h4r := HF4.out.1
              have HS5 : Hid (∀ b, ((Sj b ∨ W4.heap.size ≤ b) ∧ b < (w5.setCell ⟨pb, 0, none⟩ (.slice A9 (dj.row.length + 1) c9)).heap.size) → w.heap.size + 1 ≤ b ∧ b < (w5.setCell ⟨pb, 0, none⟩ (.slice A9 (dj.row.length + 1) c9)).heap.size ∧ b ≠ bl) := fun b hb => by
                have hw : w.heap.size < wr.heap.size := HB.out.lt
                rcases hb.1 with h | h
                · exact ⟨(HS.out b h).1, hb.2, (HS.out b h).2.2⟩
                · exact ⟨by omega, hb.2, by omega⟩
              have FJ : Frm Sj wr (w5.setCell ⟨pb, 0, none⟩ (.slice A9 (dj.row.length + 1) c9)) := HF4.out.trans F5
              have HT5 := Lib.hid (FJ.blk HT.out fun h => (HS.out _ h).2.2 rfl)
              have HB5 := Lib.hid (FJ.blk HB.out fun h => by have := (HS.out _ h).1; omega)
              have HF5 : Hid (Frm (fun _ => False) w (w5.setCell ⟨pb, 0, none⟩ (.slice A9 (dj.row.length + 1) c9))) := Frm.mono (E := fun b => w.heap.size + 1 ≤ b) ((HF.out.mono fun _ _ h => h.elim).trans (FJ.mono fun b _ h => (HS.out b h).1)) fun b hb h => by omega
              clear Q1 F5 FJ hown1 hgrow hat hbl h45 h4r
              go_wp2_with fail
              go_roundg (N + 1 - (j + 1))
              case measure => omega
              case rel => exact ⟨j + 1, _, by omega, rfl, by go_num, HP5, HS5, HT5, HB5, HF5⟩
            · have HX2 : Hid (A.endTo m al bv d0 (j + 1) = dj) := show _ = _ by rw [HX.out, if_neg hcond]
              have HP5 : Hid (Pt wr Sj pb (A.endTo m al bv d0 (j + 1))) := by rw [HX2.out]; exact HP
              clear HX
              cases a with
              | false =>
                clear hcond
                go_wp2_with fail
                go_roundg (N + 1 - (j + 1))
                case measure => omega
                case rel => exact ⟨j + 1, _, by omega, rfl, by go_num, HP5, HS, HT, HB, HF⟩
              | true =>
                have hfb : (f == bv) = false := by simpa using hcond
                clear hcond
                go_wp2_with fail
                go_roundg (N + 1 - (j + 1))
                case measure => omega
                case rel => exact ⟨j + 1, _, by omega, rfl, by go_num, HP5, HS, HT, HB, HF⟩
          · have hltj' : ¬ (j : Int) < (N : Int) := by omega
            obtain rfl : j = N := by omega
            have HPJ : Hid (A.Pi j (B + j) (A.endTo m al bv d0 j)) := A.endTo_pi HPI.out j (Nat.le_refl _)
            have HRR : Hid (A.roundB m al bv d0 = if d0.row.length < (A.endTo m al bv d0 j).row.length then (A.endTo m al bv d0 j).added d0.row.length (A.endTo m al bv d0 j).row.length else A.endTo m al bv d0 j) := show _ = _ by unfold A.roundB; rw [← HN.out]
            generalize A.endTo m al bv d0 j = dj at *
            obtain ⟨vf, hP⟩ := HP.out
            obtain ⟨A0, c0, e0, o0, f0, _⟩ := hP.slot (i := 0) (by decide)
            have hl0 : (dj.f 0).length = dj.row.length := rfl
            rw [hl0] at o0
            clear hP e0 hl0
            by_cases hbe : d0.row.length < dj.row.length
            · have hbe' : (d0.row.length : Int) < (dj.row.length : Int) := by omega
              go_wp2_with fail
              have hbig : B + j + 1 ≤ 1000000000 := by have := HKN.out; exact Nat.le_trans (Nat.add_le_add_right (Nat.add_le_add_right ‹_› _) _) (by omega)
              have HBIG := Lib.hid hbig
              clear hbig
              refine (add_any (b := d0.row.length) (e := dj.row.length) HP.out ⟨hbe, Nat.le_refl _, fun i _ h2 => HPJ.out.row_at h2, by have := HPJ.out.rl; have := HBIG.out; omega, by have := HPJ.out.bl; have := HBIG.out; omega, by have := HPJ.out.fl; have := HBIG.out; omega, by have := HPJ.out.ml; have := HBIG.out; omega⟩).mono ?_
              rintro _ w5 ⟨rfl, Q1, F5⟩
              have h45 := F5.1
              have HP5 : Hid (Pt w5 (fun b => (Sj b ∨ wr.heap.size ≤ b) ∧ b < w5.heap.size) pb (A.stage m al (k + 1))) := by
                rw [HR.out, HRR.out, if_pos hbe]
                exact Q1.mono fun b hb hs => ⟨hs, hb⟩
              have hbl : bl < wr.heap.size := HT.out.lt
              have HS5 : Hid (∀ b, ((Sj b ∨ wr.heap.size ≤ b) ∧ b < w5.heap.size) → w.heap.size + 1 ≤ b ∧ b < w5.heap.size ∧ b ≠ bl) := fun b hb => by
                have hw : w.heap.size < wr.heap.size := HB.out.lt
                rcases hb.1 with h | h
                · exact ⟨(HS.out b h).1, hb.2, (HS.out b h).2.2⟩
                · exact ⟨by omega, hb.2, by omega⟩
              have HT5 := Lib.hid (F5.blk HT.out fun h => (HS.out _ h).2.2 rfl)
              have HB5 := Lib.hid (F5.blk HB.out fun h => by have := (HS.out _ h).1; omega)
              have HF5 : Hid (Frm (fun _ => False) w w5) := Frm.mono (E := fun b => w.heap.size + 1 ≤ b) ((HF.out.mono fun _ _ h => h.elim).trans (F5.mono fun b _ h => (HS.out b h).1)) fun b hb h => by omega
              clear Q1 F5 hbl h45 o0 f0
              go_wp2_with fail
              go_roundg (3 - (k + 1))
              case measure => omega
              case rel => exact ⟨k + 1, _, by omega, rfl, by go_num, HP5, HS5, HT5, HB5, HF5⟩
            · have hbe' : ¬ (d0.row.length : Int) < (dj.row.length : Int) := by omega
              have HP5 : Hid (Pt wr Sj pb (A.stage m al (k + 1))) := by
                rw [HR.out, HRR.out, if_neg hbe]
                exact HP
              go_wp2_with fail
              go_roundg (3 - (k + 1))
              case measure => omega
              case rel => exact ⟨k + 1, _, by omega, rfl, by go_num, HP5, HS, HT, HB, HF⟩
      · have hlt' : ¬ (k : Int) < 2 := by omega
        obtain rfl : k = 2 := by omega
        have HPI : Hid (A.Pi N (2 * (N + 1)) (A.stage m al 2)) := by have := A.stage_pi m al 2; rw [← HN.out] at this; exact this
        have HBE : Hid (A.byEndP m al = { A.stage m al 2 with cls := A.deadTo al (A.stage m al 2).cls N }) := show _ = _ by rw [HN.out]; rfl
        generalize A.stage m al 2 = d0 at *
        have HP0 : Hid (Pt wr Sk pb { d0 with cls := A.deadTo al d0.cls 0 }) := HP
        have HS0 : Hid (∀ b, Sk b → w.heap.size + 1 ≤ b) := fun b h => (HS.out b h).1
        clear HP HS HT HB hk hlt hlt'
        go_wp2_with fail
        go_loopg [88] (N + 1) (fun n i wr => ∃ j : Nat, j ≤ N ∧ n = N + 1 - j ∧ i = .int .i64 (j : Int) ∧ Hid (Pt wr Sk pb { d0 with cls := A.deadTo al d0.cls j }) ∧ Hid (Frm (fun _ => False) w wr))
        case atStart => exact ⟨0, Nat.zero_le _, rfl, rfl, HP0, HF⟩
        case round =>
          clear HP0 HF
          obtain ⟨j, hj, rfl, rfl, HP, HF⟩ := hrel
          by_cases hltj : j < N
          · have hltj' : (j : Int) < (N : Int) := by omega
            have q2 := HF.out.cell id ((HA.out.cell j).trans (boolCs_getD (by rw [HAL.out]; exact hltj)))
            have HX : Hid (A.deadTo al d0.cls (j + 1) = if al.getD j false then A.deadTo al d0.cls j else (A.deadTo al d0.cls j).set j (-1)) := rfl
            generalize al.getD j false = a at *
            cases a with
            | true =>
              have HP5 : Hid (Pt wr Sk pb { d0 with cls := A.deadTo al d0.cls (j + 1) }) := by rw [HX.out]; exact HP
              clear HX
              go_wp2_with fail
              go_roundg (N + 1 - (j + 1))
              case measure => omega
              case rel => exact ⟨j + 1, by omega, rfl, by go_num, HP5, HF⟩
            | false =>
              obtain ⟨vf, hP⟩ := HP.out
              have hjc : j < (A.deadTo al d0.cls j).length := by rw [A.deadTo_len, HPI.out.cl]; exact hltj
              obtain ⟨g2, cc2, e2, o2, f2, k2, l2, _⟩ := hP.at_ (i := 2) (j := j) (by decide) hjc
              have HP5 : Hid (Pt (wr.setCell ⟨g2, j, none⟩ (.int .i64 (-1))) Sk pb { d0 with cls := A.deadTo al d0.cls (j + 1) }) := by
                rw [HX.out]
                exact ⟨vf, hP.set_ (i := 2) (by decide) e2 hjc (-1)⟩
              have HF5 : Hid (Frm (fun _ => False) w (wr.setCell ⟨g2, j, none⟩ (.int .i64 (-1)))) := Frm.mono (E := fun b => w.heap.size + 1 ≤ b) ((HF.out.mono fun _ _ h => h.elim).trans ((hP.set_frm (i := 2) (by decide) e2 j (-1)).mono fun b _ h => HS0.out b h)) fun b hb h => by omega
              have hjn : (j : Int) < (((({ d0 with cls := A.deadTo al d0.cls j } : A.Pd).f 2).length : Nat) : Int) := by have : j < (({ d0 with cls := A.deadTo al d0.cls j } : A.Pd).f 2).length := hjc; omega
              generalize (({ d0 with cls := A.deadTo al d0.cls j } : A.Pd).f 2).length = n2 at *
              generalize (({ d0 with cls := A.deadTo al d0.cls j } : A.Pd).f 2).getD j 0 = z at k2
              clear HX hP e2 hjc
              go_wp2_with fail
              go_roundg (N + 1 - (j + 1))
              case measure => omega
              case rel => exact ⟨j + 1, by omega, rfl, by go_num, HP5, HF5⟩
          · have hltj' : ¬ (j : Int) < (N : Int) := by omega
            obtain rfl : j = N := by omega
            have HP5 : Hid (Pt wr Sk pb (A.byEndP m al)) := by rw [HBE.out]; exact HP
            go_wp2_with fail
            go_ret
            exact ⟨pb, rfl, HP5.out.mono fun b _ h => by have := HS0.out b h; omega, HF.out⟩)
end Go.Proofs.Ytldmjpnldgekaaa
end
section
namespace Go.Proofs.Ytldmjpnldgekaaa
open Go.RowKit
section
variable {P : Program} {Q : Exit → Act → World → Prop}
theorem getD_push {l : Array Bool} {m i : Nat} {d : Bool} (h : l.size = m) (hi : i ≠ m) : (l.push true).getD i d = l.getD i d := by
  simp only [Array.getD_eq_getD_getElem?, Array.getElem?_push, h, hi, if_false]
theorem ready_push {L : List Oper} {m : Nat} (hL : L.length = m + 1) (hno : ∀ o ∈ L.take m, ∀ e ∈ o.after, e.on ≠ m) {listed : Array Bool} (hs : listed.size = m) : Region.ready .any L.toArray (listed.push true) = Region.ready .any (L.take m).toArray listed := by
  unfold Region.ready
  have e1 : L.toArray.size = m + 1 := by simpa using hL
  have e2 : (L.take m).toArray.size = m := by simp [hL]
  rw [e1, e2, List.range_succ, List.filter_append]
  have e3 : ([m].filter fun i => !(listed.push true).getD i true && ((L.toArray[i]?).map (·.after.all fun e => !Region.binds .any e || (listed.push true).getD e.on false)).getD false) = [] := by
    have : (listed.push true).getD m true = true := by subst hs; simp
    simp only [List.filter_cons, this, Bool.not_true, Bool.false_and, Bool.false_eq_true, if_false, List.filter_nil]
  rw [e3, List.append_nil]
  apply List.filter_congr
  intro i hi
  have him : i < m := List.mem_range.1 hi
  rw [getD_push hs (by omega)]
  have e4 : L.toArray[i]? = (L.take m).toArray[i]? := by simp [him]
  rw [e4]
  cases ho : (L.take m).toArray[i]? with
  | none => rfl
  | some o =>
    have hmem : o ∈ L.take m := by
      have : (L.take m)[i]? = some o := by simpa using ho
      exact List.mem_of_getElem? this
    congr 1
    simp only [Option.map_some, Option.getD_some]
    rw [Bool.eq_iff_iff]
    simp only [Array.all_eq_true_iff_forall_mem]
    constructor
    · intro h e he
      have := h e he
      rwa [getD_push hs (hno o hmem e he)] at this
    · intro h e he
      rw [getD_push hs (hno o hmem e he)]
      exact h e he
theorem wpAny_push {L : List Oper} {m : Nat} (hL : L.length = m + 1) (hno : ∀ o ∈ L.take m, ∀ e ∈ o.after, e.on ≠ m) (hg : ∀ o ∈ L, o.guard = none) : ∀ (fuel : Nat) (listed : Array Bool) (a : Act) (w : World), listed.size = m → wpAny P .any (L.take m).toArray Q fuel listed a w → wpAny P .any L.toArray Q fuel (listed.push true) a w
  | 0, listed, a, w, hs, h => by
    unfold wpAny at h ⊢
    rw [ready_push hL hno hs]
    exact h
  | fuel + 1, listed, a, w, hs, h => by
    unfold wpAny at h ⊢
    rw [ready_push hL hno hs]
    refine ⟨h.1, fun i hi => ?_⟩
    have h1 := h.2 i hi
    have him : i < m := by
      have := (List.mem_filter.1 hi).1
      have e2 : (L.take m).toArray.size = m := by simp [hL]
      rw [e2] at this
      exact List.mem_range.1 this
    have e4 : L.toArray[i]? = (L.take m).toArray[i]? := by simp [him]
    have e5 : (listed.push true).setIfInBounds i true = (listed.setIfInBounds i true).push true := by
      apply Array.toList_inj.1
      simp only [Array.toList_setIfInBounds, Array.toList_push]
      rw [List.set_append_left _ _ (by simpa [hs] using him)]
    unfold wpOp at h1 ⊢
    rw [e4]
    cases ho : (L.take m).toArray[i]? with
    | none =>
      rw [ho] at h1
      rw [e5]
      exact wpAny_push hL hno hg fuel _ a w (by simpa using hs) h1
    | some o =>
      rw [ho] at h1
      dsimp only at h1 ⊢
      have hmem : o ∈ L := by
        have : (L.take m)[i]? = some o := by simpa using ho
        exact List.mem_of_mem_take (List.mem_of_getElem? this)
      have hw : ∀ ops : Array Oper, Region.wanted o (yielded ops a.tmps) = true := fun ops => by simp [Region.wanted, hg o hmem]
      rw [if_pos (hw _)] at h1 ⊢
      rcases h1 with h1 | h1
      · refine .inl (Oper.wp_mono (fun a' w' h' => ?_) h1)
        rw [e5]
        exact wpAny_push hL hno hg fuel _ a' w' (by simpa using hs) h'
      · exact .inr h1
theorem wp_region_still_last {id : Nat} {a : Act} {w : World} {L : List Oper} {ol : Oper} {v : Value} (n m : Nat) (hm : P.follows .mixedOrders = true) (hL : L.length = m + 1) (hi : L.toArray[m]? = some ol)
    (hns : Region.noSelect L.toArray = true) (hfree : Region.free .any L.toArray (Array.replicate L.toArray.size false) m = true) (hr : (Region.ready .any L.toArray (Array.replicate L.toArray.size false)).contains m = true)
    (hno : (L.take m).all (fun o => o.after.all fun e => e.on != m) = true) (hg : L.all (fun o => o.guard.isNone) = true)
    (hQ : ∀ c a w, Q (.panic c) (a.put ol.dst v) w → Q (.panic c) a w) (hy : Yields P L.toArray ol v a) (hB : Region.lexTailB .any (L.take m).toArray n = true)
    (h : wpStill P (L.take m).toArray { w with drawn := w.drawn + 1 } (fun a' => wpList P (L.take m).toArray Q ((L.take m).drop n) a' { w with drawn := w.drawn + 1 }) ((L.take m).take n) (a.put ol.dst v)) : (Code.region id L.toArray true).wp P Q a w := by
  have hno' : ∀ o ∈ L.take m, ∀ e ∈ o.after, e.on ≠ m := fun o ho e he => by
    have h1 := List.all_eq_true.1 hno o ho
    have h2 := Array.all_eq_true_iff_forall_mem.1 h1 e he
    simpa using h2
  have hg' : ∀ o ∈ L, o.guard = none := fun o ho => by simpa using List.all_eq_true.1 hg o ho
  have hsz : L.toArray.size = m + 1 := by simpa using hL
  refine wp_region_any hm ?_
  rw [hsz]
  rw [hsz] at hfree hr
  refine wpAny_take (i := m) hi hns hfree hr hQ hy ?_
  have e6 : (Array.replicate (m + 1) false).setIfInBounds m true = (Array.replicate m false).push true := by
    apply Array.toList_inj.1
    simp only [Array.toList_setIfInBounds, Array.toList_push, Array.toList_replicate]
    rw [List.replicate_succ', List.set_append_right _ _ (by simp)]
    simp
  rw [e6]
  refine wpAny_push hL hno' hg' m _ _ _ (by simp) ?_
  obtain ⟨l, hl⟩ : ∃ l, l = L.take m := ⟨_, rfl⟩
  rw [← hl] at h hB ⊢
  have hlm : l.length = m := by rw [hl, List.length_take]; omega
  have hB2 := hB
  simp only [Region.lexTailB, Bool.and_eq_true, decide_eq_true_eq] at hB
  obtain ⟨⟨⟨⟨hsel, hn⟩, hs⟩, hc⟩, hlex⟩ := hB
  have hn' : n < l.length := by simpa using hn
  have H := wpAnyL_lex (P := P) (w := { w with drawn := w.drawn + 1 }) (md := .any) (g := l.toArray.size - n) hsel hs hc hn (l.take n) 0 (Array.replicate l.toArray.size false) (a.put ol.dst v)
    (fun j hj => by have : j < n := by rw [List.length_take] at hj; omega
                    simp [this])
    (by rw [List.length_take]; omega)
    ⟨by simp, fun j oj _ hl => (by rw [getD_replicate_false] at hl; cases hl), fun t _ ht => getD_in (by simpa using ht) (getD_replicate_false _ _)⟩
    (by rw [List.length_take, Nat.min_eq_left (Nat.le_of_lt hn')]; exact hlex) h
  have H2 := wpAny_of_head (Q' := Q) (g := l.toArray.size - n) (fun listed a' hq => by
    have h3 := wpAny_of_seq (md := .any) (Q' := Q) (l.drop n) n listed a' { w with drawn := w.drawn + 1 } (fun j => by simp [List.getElem?_drop]) (by rw [List.length_drop]; simpa using hq.1) hq.2
    rw [List.length_drop] at h3
    simpa using h3) _ _ _ H
  have e7 : (l.take n).length + (l.toArray.size - n) = m := by simp; omega
  have e8 : l.toArray.size = m := by simpa using hlm
  rw [e7, e8] at H2
  exact H2
end
end Go.Proofs.Ytldmjpnldgekaaa
end
section
namespace Go.Proofs.Ytldmjpnldgekaaa
open Go.RowKit
/-- An append of a row, nil or not, onto a row of the call's own; where the new row lies. -/
theorem wpList_append_src_at {P : Program} {w : World} {ops : Array Oper} {rest : List Oper} {o : Oper} {a : Act} {Q : Exit → Act → World → Prop} (hgd : o.guard = none) (s x : Operand) (t : TypeId)
    (ho : o.op = .call { callee := .builtin .append, args := #[s, x], argTypes := #[t, t] })
    (base lo : Nat) (e : TypeId) (i : TypeInfo) (z : Value) (size bytes : Nat) (ht : P.underlying t = some (.slice e)) (hi : P.info? e = some i) (hz : i.zero = some z)
    (hsize : i.size = size) (hby : i.bytes = bytes) (hzs : z.cells.size = size) (hsz : 0 < size)
    (v : Value) (n : Nat) (xs : List Value) (hs : a.eval s = v) (hown : w.ownsRow base e size v n xs)
    (vx : Value) (m : Nat) (news : List Value) (hx : a.eval x = vx) (hsrc : w.ownsRow lo e size vx m news) (h1 : ∀ u ∈ news, u.oneCell' = true)
    (h63 : n + m ≤ maxLen) (hbytes : (n + m) * bytes ≤ 140737488355328) (hbase : base ≤ w.heap.size)
    (h : ∀ v' w', w'.ownsRow base e size v' (n + m) (xs ++ news) → w.grownBy w' v.ownBlock → (v'.ownBlock = v.ownBlock ∨ v'.ownBlock = some w.heap.size) → wpList P ops Q rest (a.put o.dst v') w') : wpList P ops Q (o :: rest) a w := by
  have hl := hsrc.1
  have hc := @World.ownsRow.cells _ _ _ _ _ _ _ hsrc
  rcases hsrc.2 with ⟨rfl, hn⟩ | ⟨g, cap, cur, rfl, _⟩
  · subst hn
    have hnews : news = [] := List.length_eq_zero_iff.1 (by omega)
    subst hnews
    exact wpList_append_own_none (w := w) hgd s x t ho base e i size ht hi v n xs hs hown hx (h v w (by simpa using hown) (World.grownBy.refl w _) (.inl rfl))
  · exact wpList_append_own_at (w := w) hgd s x t ho base e i z size bytes ht hi hz hsize hby hzs hsz v n xs hs hown ⟨g, 0, none⟩ m cap news hx hl (hc rfl) h1 h63 hbytes hbase fun v' w' a1 a2 _ a4 => h v' w' a1 a2 a4
theorem OwnInts.ints {w : World} {base : Nat} {v : Value} {l : List Int} (h : OwnInts w base v l) : Ints w (fun g => v.ownBlock = some g) v l := by
  obtain ⟨A0, c, rfl⟩ := own_form h
  refine ⟨A0, c, rfl, fun k hk => ?_⟩
  obtain ⟨g, rfl, _, hc⟩ := OwnInts.at_ h hk
  refine ⟨g, 0, rfl, rfl, ?_⟩
  rw [Nat.zero_add, hc]
  simp [hk]
theorem ints_one_ (l : List Int) : ∀ u ∈ l.map (Value.int .i64), u.oneCell' = true := fun u hu => by
  obtain ⟨x, _, rfl⟩ := List.mem_map.1 hu
  rfl
theorem info_intS : (Try.prog.info? 37).map (fun i => (i.zero, i.size, i.bytes)) = some (some (.slice none 0 0), 1, 24) := by kernel_rfl
section
variable {w w' : World} {S E : Nat → Prop} {ob : Nat} {acc : List (List Int)}
/-- A source emptied. -/
theorem Grp.cut0 {vf : Nat → Value} (h : Grp srT w S ob acc.length vf (lnOf acc) (cfOf inC acc)) {q : Nat} (hq : q < acc.length) {A0 : Option Addr} {n c : Nat} (e : vf q = .slice A0 n c) (hp : 0 < n) : Srcs (w.setCell ⟨ob, q, none⟩ (.slice A0 0 c)) S ob (acc.set q []) := by
  refine ⟨updF vf q (.slice A0 0 c), ?_⟩
  rw [List.length_set, lnOf_set acc hq, cfOf_set inC acc hq]
  have ho := h.own q hq
  have hown : w.ownsRow 0 srT.e srT.sz (.slice A0 0 c) 0 [] := by
    refine ⟨by simp, ?_⟩
    rcases ho.2 with ⟨e', hn⟩ | ⟨g, cap, cur, e', h1, h2, h3, h4, h5, h6⟩
    · rw [e] at e'; injection e' with _ e2 _; omega
    · rw [e] at e'
      injection e' with e1 e2 e3
      subst e1 e3
      exact .inr ⟨g, c, cur, rfl, h1, h2, Nat.zero_le _, h4, h5, by simp⟩
  have := h.put hq (w1 := w) (v' := .slice A0 0 c) (m := 0) (xs := []) (World.grownBy.refl w _) hown (.inl (by rw [e]; cases A0 <;> rfl))
  refine Grp.mono (this.congr (fun i _ => rfl) (fun i _ => by rfl)) fun b hb hs => ?_
  rcases hs with hs | hs
  · exact hs
  · simp at hb; omega
end
namespace A
def partOf (d : Pd) (b e : Nat) : List Int := (d.row.drop b).take (e - b)
def lettersO : List Int → Pd → List (List Int) → List Int → Option (Pd × List (List Int) × List Int)
  | [], d, srcs, tl => some (d, srcs, tl)
  | x :: l, d, srcs, tl => if 0 ≤ x ∧ x < srcs.length ∧ 0 < (srcs.getD x.toNat []).length ∧ (srcs.getD x.toNat []).length ≤ 100000000 then (match divideO d (srcs.getD x.toNat []) with
    | none => none
    | some (d', fs) => if tl.length + fs.length ≤ big then lettersO l d' (srcs.set x.toNat []) (tl ++ fs) else none) else none
def classO (acc : List (List Ar)) : Nat → Pd → List (List Int) → List Int → Option Pd
  | f, d, srcs, tl => if tl.length = 0 then some d else (match f with
    | 0 => none
    | n + 1 => if 0 ≤ tl.getD (tl.length - 1) 0 then (match natO d.beg (tl.getD (tl.length - 1) 0).toNat with
      | none => none
      | some b => match natO d.fin (tl.getD (tl.length - 1) 0).toNat with
        | none => none
        | some e => if b < e ∧ e ≤ d.row.length ∧ d.row.length ≤ big then (match gathS acc (partOf d b e) (srcs, []) with
          | none => none
          | some (srcs', ls) => if ls.length ≤ big then (match lettersO ls d srcs' (tl.take (tl.length - 1)) with
            | none => none
            | some (d', srcs'', tl') => classO acc n d' srcs'' tl') else none) else none) else none)
def upto (n : Nat) : List Int := (List.range n).map fun (i : Nat) => (i : Int)
theorem upto_succ (n : Nat) : upto (n + 1) = upto n ++ [(n : Int)] := by simp [upto, List.range_succ]
theorem upto_len (n : Nat) : (upto n).length = n := by simp [upto]
def classesO (f : Nat) (m : Mac) (acc : List (List Ar)) (al : List Bool) : Option Pd := if (byEndP m al).beg.length ≤ big then classO acc f (byEndP m al) (List.replicate m.letters.toNat []) (upto (byEndP m al).beg.length) else none
end A
/-- What a run of classes keeps: the partition, the sources, and what is still to look at, each by itself. -/
def Cl (B : Nat) (wr : World) (pb ob : Nat) (d : A.Pd) (srcs : List (List Int)) (u : Value) (tl : List Int) : Prop := ∃ Sp Ss : Nat → Prop, Pt wr Sp pb d ∧ Srcs wr Ss ob srcs ∧ OwnInts wr B u tl ∧ (∀ b, Sp b → ¬ Ss b) ∧ (∀ b, Sp b ∨ Ss b → B ≤ b ∧ b < wr.heap.size) ∧ (∀ g, u.ownBlock = some g → ¬ Sp g ∧ ¬ Ss g)
section
variable {B pb ob : Nat} {wr w1 : World} {d : A.Pd} {srcs : List (List Int)} {u : Value} {tl : List Int}
theorem Cl.push (h : Cl B wr pb ob d srcs u tl) {v' : Value} {m : Nat} {tl' : List Int} (F : Frm (fun b => u.ownBlock = some b) wr w1) (ho : OwnInts w1 B v' tl') (hl : v'.ownBlock = u.ownBlock ∨ v'.ownBlock = some m) (hm : wr.heap.size ≤ m) : Cl B w1 pb ob d srcs v' tl' := by
  obtain ⟨Sp, Ss, h1, h2, h3, h4, h5, h6⟩ := h
  refine ⟨Sp, Ss, h1.frm F fun b _ hs he => (h6 b he).1 hs, h2.frm F fun b _ hs he => (h6 b he).2 hs, ho, h4, fun b hb => ⟨(h5 b hb).1, Nat.lt_of_lt_of_le (h5 b hb).2 F.1⟩, fun g hg => ?_⟩
  rcases hl with e | e
  · rw [e] at hg; exact h6 g hg
  · rw [e] at hg
    injection hg with hg
    exact ⟨fun hs => by have := (h5 g (.inl hs)).2; omega, fun hs => by have := (h5 g (.inr hs)).2; omega⟩
theorem OwnInts.take {w : World} {base c : Nat} {A0 : Option Addr} {l : List Int} (h : OwnInts w base (.slice A0 l.length c) l) {k : Nat} (hk : k ≤ l.length) (hp : 0 < l.length) : OwnInts w base (.slice A0 k c) (l.take k) := by
  have e : (l.take k).length = k := by simp; omega
  unfold OwnInts
  rw [e]
  refine ⟨by simp; omega, ?_⟩
  rcases h.2 with ⟨e', hn⟩ | ⟨g, cap, cur, e', h1, h2, h3, h4, h5, h6⟩
  · omega
  · injection e' with e1 e2 e3
    subst e1 e3
    refine .inr ⟨g, c, cur, rfl, h1, h2, by omega, h4, h5, ?_⟩
    rw [List.map_take, ← h6, List.take_take, Nat.mul_one, Nat.mul_one, Nat.min_eq_left hk]
end
/-- The same, with the letters that were gathered. -/
def Cl2 (B : Nat) (wr : World) (pb ob : Nat) (d : A.Pd) (srcs : List (List Int)) (u : Value) (tl : List Int) (vl : Value) (ls : List Int) : Prop := ∃ Sp Ss : Nat → Prop, Pt wr Sp pb d ∧ Srcs wr Ss ob srcs ∧ OwnInts wr B u tl ∧ (∀ b, Sp b → ¬ Ss b) ∧ (∀ b, Sp b ∨ Ss b → B ≤ b ∧ b < wr.heap.size) ∧ (∀ g, u.ownBlock = some g → ¬ Sp g ∧ ¬ Ss g) ∧ OwnInts wr B vl ls ∧ (∀ g, vl.ownBlock = some g → ¬ Sp g ∧ ¬ Ss g ∧ u.ownBlock ≠ some g)
section
variable {B pb ob : Nat} {wr w1 : World} {d d' : A.Pd} {srcs srcs' : List (List Int)} {u vl : Value} {tl ls : List Int} {Sp Ss : Nat → Prop}
theorem Cl2.cl (h : Cl2 B wr pb ob d srcs u tl vl ls) : Cl B wr pb ob d srcs u tl := by
  obtain ⟨Sp, Ss, h1, h2, h3, h4, h5, h6, _⟩ := h
  exact ⟨Sp, Ss, h1, h2, h3, h4, h5, h6⟩
theorem cl2_gather (h1 : Pt wr Sp pb d) (h3 : OwnInts wr B u tl) (h4 : ∀ b, Sp b → ¬ Ss b) (h5 : ∀ b, Sp b ∨ Ss b → B ≤ b ∧ b < wr.heap.size) (h6 : ∀ g, u.ownBlock = some g → ¬ Sp g ∧ ¬ Ss g) {S5 : Nat → Prop} (hO : OwnInts w1 wr.heap.size vl ls) (hS : Srcs w1 S5 ob srcs') (hb : ∀ b, S5 b → Ss b ∨ wr.heap.size ≤ b) (hU : ∀ g, vl.ownBlock = some g → ¬ S5 g) (F : Frm Ss wr w1) (hB : B ≤ wr.heap.size) : Cl2 B w1 pb ob d srcs' u tl vl ls := by
  have hsz := F.1
  refine ⟨Sp, fun b => S5 b ∧ b < w1.heap.size, h1.frm F fun b _ hs => h4 b hs, Rws.mono hS fun b hb hs => ⟨hs, hb⟩, F.row h3 (fun g hg => (h6 g hg).2) (Nat.le_refl _), fun b hs ⟨hs5, _⟩ => ?_, fun b hs => ?_, fun g hg => ⟨(h6 g hg).1, fun ⟨hs, _⟩ => ?_⟩, own_base hO hB, fun g hg => ⟨fun hs => ?_, fun ⟨hs, _⟩ => hU g hg hs, fun hu => ?_⟩⟩
  · rcases hb b hs5 with h | h
    · exact h4 b hs h
    · have := (h5 b (.inl hs)).2; omega
  · rcases hs with hs | ⟨hs, hl⟩
    · have := h5 b (.inl hs); exact ⟨this.1, by omega⟩
    · rcases hb b hs with h | h
      · have := h5 b (.inr h); exact ⟨this.1, hl⟩
      · exact ⟨by omega, hl⟩
  · rcases hb g hs with h | h
    · exact (h6 g hg).2 h
    · have := (own_lt h3 g hg).2; omega
  · have := (h5 g (.inl hs)).2; have := (own_lt hO g hg).1; omega
  · have := (own_lt h3 g hu).2; have := (own_lt hO g hg).1; omega
theorem cl2_divide (h2 : Srcs wr Ss ob srcs) (h3 : OwnInts wr B u tl) (h4 : ∀ b, Sp b → ¬ Ss b) (h5 : ∀ b, Sp b ∨ Ss b → B ≤ b ∧ b < wr.heap.size) (h6 : ∀ g, u.ownBlock = some g → ¬ Sp g ∧ ¬ Ss g) (h7 : OwnInts wr B vl ls) (h8 : ∀ g, vl.ownBlock = some g → ¬ Sp g ∧ ¬ Ss g ∧ u.ownBlock ≠ some g) (hp : Pt w1 (fun b => Sp b ∨ wr.heap.size ≤ b) pb d') (F : Frm Sp wr w1) (hB : B ≤ wr.heap.size) : Cl2 B w1 pb ob d' srcs u tl vl ls := by
  have hsz := F.1
  refine ⟨fun b => (Sp b ∨ wr.heap.size ≤ b) ∧ b < w1.heap.size, Ss, hp.mono fun b hb hs => ⟨hs, hb⟩, Rws.frm h2 F fun b _ hs hp => h4 b hp hs, F.row h3 (fun g hg => (h6 g hg).1) (Nat.le_refl _), fun b hs hss => ?_, fun b hs => ?_, fun g hg => ⟨fun ⟨hs, _⟩ => ?_, (h6 g hg).2⟩, F.row h7 (fun g hg => (h8 g hg).1) (Nat.le_refl _), fun g hg => ⟨fun ⟨hs, _⟩ => ?_, (h8 g hg).2⟩⟩
  · rcases hs.1 with h | h
    · exact h4 b h hss
    · have := (h5 b (.inr hss)).2; omega
  · rcases hs with ⟨hs, hl⟩ | hs
    · rcases hs with h | h
      · exact ⟨(h5 b (.inl h)).1, hl⟩
      · exact ⟨by omega, hl⟩
    · have := h5 b (.inr hs); exact ⟨this.1, by omega⟩
  · rcases hs with h | h
    · exact (h6 g hg).1 h
    · have := (own_lt h3 g hg).2; omega
  · rcases hs with h | h
    · exact (h8 g hg).1 h
    · have := (own_lt h7 g hg).2; omega
theorem Cl2.push (h : Cl2 B wr pb ob d srcs u tl vl ls) {v' : Value} {m : Nat} {tl' : List Int} (F : Frm (fun b => u.ownBlock = some b) wr w1) (ho : OwnInts w1 B v' tl') (hl : v'.ownBlock = u.ownBlock ∨ v'.ownBlock = some m) (hm : wr.heap.size ≤ m) : Cl2 B w1 pb ob d srcs v' tl' vl ls := by
  obtain ⟨Sp, Ss, h1, h2, h3, h4, h5, h6, h7, h8⟩ := h
  refine ⟨Sp, Ss, h1.frm F fun b _ hs he => (h6 b he).1 hs, h2.frm F fun b _ hs he => (h6 b he).2 hs, ho, h4, fun b hb => ⟨(h5 b hb).1, Nat.lt_of_lt_of_le (h5 b hb).2 F.1⟩, fun g hg => ?_, F.row h7 (fun g hg he => (h8 g hg).2.2 he) (Nat.le_refl _), fun g hg => ⟨(h8 g hg).1, (h8 g hg).2.1, fun hv => ?_⟩⟩
  · rcases hl with e | e
    · rw [e] at hg; exact h6 g hg
    · rw [e] at hg
      injection hg with hg
      exact ⟨fun hs => by have := (h5 g (.inl hs)).2; omega, fun hs => by have := (h5 g (.inr hs)).2; omega⟩
  · rcases hl with e | e
    · rw [e] at hv; exact (h8 g hg).2.2 hv
    · rw [e] at hv
      injection hv with hv
      have := (own_lt h7 g hg).2
      omega
/-- The source q emptied. -/
theorem Cl2.cut (h : Cl2 B wr pb ob d srcs u tl vl ls) {q : Nat} (hq : q < srcs.length) (hp : 0 < (srcs.getD q []).length) : ∃ g c, wr.cell? ⟨ob, q, none⟩ = some (.slice (some ⟨g, 0, none⟩) (srcs.getD q []).length c) ∧ wr.frozen? ⟨ob, q, none⟩ = false ∧ 0 < c ∧ Cl2 B (wr.setCell ⟨ob, q, none⟩ (.slice (some ⟨g, 0, none⟩) 0 c)) pb ob d (srcs.set q []) u tl vl ls ∧ Frm (fun b => B ≤ b) wr (wr.setCell ⟨ob, q, none⟩ (.slice (some ⟨g, 0, none⟩) 0 c)) := by
  obtain ⟨Sp, Ss, h1, ⟨vf, hg⟩, h3, h4, h5, h6, h7, h8⟩ := h
  obtain ⟨A0, c, e, o1, o2, o3, o4⟩ := hg.slot hq
  have hln : lnOf srcs q = (srcs.getD q []).length := rfl
  rw [hln] at e o1 o3 o4
  obtain ⟨g, rfl⟩ := o3 hp
  have F : Frm (fun b => b = ob) wr (wr.setCell ⟨ob, q, none⟩ (.slice (some ⟨g, 0, none⟩) 0 c)) := Frm.one _ _ _
  refine ⟨g, c, o1, o2, by omega, ⟨Sp, Ss, h1.frm F fun b _ hs hb => by subst hb; exact h4 b hs hg.so, hg.cut0 hq e hp, F.row h3 (fun g' hg' hb => by subst hb; exact (h6 _ hg').2 hg.so) (Nat.le_refl _), h4, fun b hb => by have := h5 b hb; simpa using this, h6, F.row h7 (fun g' hg' hb => by subst hb; exact (h8 _ hg').2.1 hg.so) (Nat.le_refl _), h8⟩, F.mono fun b _ hb => by subst hb; exact (h5 b (.inr hg.so)).1⟩
end
set_option maxRecDepth 100000 in
set_option maxHeartbeats 16000000 in
theorem classes_any {w : World} {P Sa : Nat → Prop} {v : Value} {m : A.Mac} {ga oa f : Nat} {al : List Bool} {acc : List (List A.Ar)} {d : A.Pd} (h : MachAt w P v m) (hf : A.Fits m) (hn : m.next.length ≤ 100000) (hl3 : m.letters ≤ 300) (hin : Ars w Sa oa acc) (hacc : acc.length = m.next.length) (ha : Blk w ga 4 (boolCs al)) (hal : al.length = m.next.length) (hc : A.classesO f m acc al = some d) :
    Calls Try.prog 53 #[v, .slice (some ⟨oa, 0, none⟩) m.next.length m.next.length, .slice (some ⟨ga, 0, none⟩) m.next.length m.next.length] w fun e w' => ∃ pb, e = .returned (.pointer (some ⟨pb, 0, none⟩)) ∧ Pt w' (fun b => w.heap.size ≤ b) pb d ∧ Frm (fun _ => False) w w' := by
  obtain ⟨A1, c1, A2, c2, rfl⟩ := h.form
  have HB0 : Hid (Blk (w.alloc (.cells #[.int .i64 m.letters, .int .i64 m.start, .slice A1 m.next.length c1, .slice A2 m.fin.length c2] 25)) w.heap.size 25 #[.int .i64 m.letters, .int .i64 m.start, .slice A1 m.next.length c1, .slice A2 m.fin.length c2]) := Blk.new w _ _
  have F0 : Frm (fun _ => False) w (w.alloc (.cells #[.int .i64 m.letters, .int .i64 m.start, .slice A1 m.next.length c1, .slice A2 m.fin.length c2] 25)) := (Frm.refl _ w).alloc _
  have HM := Lib.hid (h.keep0 F0)
  have HA := Lib.hid (F0.blk ha id)
  have HF0 := Lib.hid F0
  have HFI := Lib.hid hf
  have HIN : Hid (Ars w (fun b => Sa b ∧ b < w.heap.size) oa acc) := hin.mono fun b hb hs => ⟨hs, hb⟩
  have HC := Lib.hid hc
  have hlet := hf.letters
  have HSZ0 : Hid ((w.alloc (.cells #[.int .i64 m.letters, .int .i64 m.start, .slice A1 m.next.length c1, .slice A2 m.fin.length c2] 25)).heap.size = w.heap.size + 1) := show _ = _ by simp
  clear h F0 hf hin ha hc
  have x0 := HB0.out.cell 0
  have x1 := HB0.out.cell 1
  have x2 := HB0.out.cell 2
  have x3 := HB0.out.cell 3
  go_enter Try.func53, Try.ntmps53
  go_wp2_with fail
  refine (byEnd_any HM.out HFI.out hn HA.out hal).mono ?_
  rintro _ w1 ⟨pb, rfl, p1, f1⟩
  have HP1 := Lib.hid p1
  have HF1 := Lib.hid (HF0.out.trans f1)
  have HB1 := Lib.hid (f1.blk HB0.out id)
  have hw1 := f1.1
  clear p1 f1 x0 x1 x2 x3
  have x0 := HB1.out.cell 0
  obtain ⟨L, hL⟩ : ∃ L : Nat, m.letters = (L : Int) := ⟨m.letters.toNat, by omega⟩
  have hmk := run_make_row' (P := Try.prog) 22 37 (.slice none 0 0) 24 Try.underlying22 info_intS rfl .i64 .i64 L (by omega) (by omega)
  obtain ⟨W2, hW2⟩ : ∃ W2, W2 = w1.alloc (.cells (madeCells #[.slice none 0 0] L) 37) := ⟨_, rfl⟩
  have HCL : Hid (Cl (w.heap.size + 1) W2 pb w1.heap.size (A.byEndP m al) (List.replicate L []) (.slice none 0 0) []) := by
    have hs0 := HSZ0.out
    rw [hs0] at hw1
    refine ⟨fun b => w.heap.size + 1 ≤ b ∧ b < w1.heap.size, fun b => w1.heap.size ≤ b ∧ b < W2.heap.size, ?_, ?_, World.ownsRow_nil _ _ _ _, fun b h1 h2 => by omega, fun b hb => ?_, fun g hg => (by cases hg)⟩
    · rw [hW2]
      exact (HP1.out.mono fun b hb hs => ⟨by rw [← hs0]; exact hs, hb⟩).frm ((Frm.refl (fun _ => False) w1).alloc _) fun _ _ _ => id
    · have := Grp.made srT w1 L
      rw [hW2]
      exact (Grp.rws0 this).mono fun b hb hs => ⟨hs, hb⟩
    · have : W2.heap.size = w1.heap.size + 1 := by rw [hW2]; simp
      rcases hb with hb | hb <;> omega
  have HB2 : Hid (Blk W2 w.heap.size 25 #[.int .i64 m.letters, .int .i64 m.start, .slice A1 m.next.length c1, .slice A2 m.fin.length c2]) := by rw [hW2]; exact HB1.out.alloc _
  have HF2 : Hid (Frm (fun _ => False) w W2) := by rw [hW2]; exact HF1.out.alloc _
  have hc := HC.out
  unfold A.classesO at hc
  split at hc
  case isFalse => cases hc
  rename_i hbeg
  have HC2 : Hid (A.classO acc f (A.byEndP m al) (List.replicate L []) (A.upto (A.byEndP m al).beg.length) = some d) := by
    have e : m.letters.toNat = L := by omega
    rw [e] at hc
    exact hc
  generalize A.byEndP m al = d0 at *
  have HBG := Lib.hid hbeg
  have HLL := Lib.hid hL
  rw [← hL] at hmk
  clear HC hc hbeg HP1 hL
  obtain ⟨Sp0, Ss0, ⟨vf0, hv0⟩, _⟩ := HCL.out
  obtain ⟨A3, c3, _, o3, f3, _⟩ := hv0.slot (i := 3) (by decide)
  have hl3' : (d0.f 3).length = d0.beg.length := rfl
  rw [hl3', hW2] at o3
  clear hv0 f3 hl3'
  go_wp2_with fail
  rw [← hW2]
  clear hW2 hmk o3
  have hbig := HBG.out
  unfold A.big at hbig
  go_loopg [9, 25] (d0.beg.length + 1) (fun n u i wr => ∃ k : Nat, k ≤ d0.beg.length ∧ n = d0.beg.length + 1 - k ∧ i = .int .i64 (k : Int) ∧ Hid (Cl (w.heap.size + 1) wr pb w1.heap.size d0 (List.replicate L []) u (A.upto k)) ∧ Hid (Blk wr w.heap.size 25 #[.int .i64 m.letters, .int .i64 m.start, .slice A1 m.next.length c1, .slice A2 m.fin.length c2]) ∧ Hid (Frm (fun _ => False) w wr))
  case atStart => exact ⟨0, Nat.zero_le _, rfl, rfl, HCL, HB2, HF2⟩
  case round =>
    clear HCL HB2 HF2
    obtain ⟨k, hk, rfl, rfl, HCL, HB, HF⟩ := hrel
    have hown : OwnInts wr (w.heap.size + 1) u9 (A.upto k) := by obtain ⟨_, _, _, _, h, _⟩ := HCL.out; exact h
    obtain ⟨A9, c9, rfl⟩ := own_form hown
    by_cases hlt : k < d0.beg.length
    · have hlt' : (k : Int) < (d0.beg.length : Int) := by omega
      have HO := Lib.hid hown
      have HUL : Hid ((A.upto k).length = k) := A.upto_len k
      obtain ⟨i0, hi0, hz0, hz1, hz2⟩ := info_parts info_int
      clear hown
      go_wp2_with (at_builtin; refine wpList_append_own_at _ rfl _ _ 37 rfl (w.heap.size + 1) 3 i0 (.int .i64 0) 1 8 Try.underlying37 hi0 hz0 hz1 hz2 rfl (by decide) _ _ _ rfl (HO.out.alloc _) ⟨wr.heap.size, 0, none⟩ 1 1 [.int .i64 (k : Int)] rfl rfl ?y1 ?y2 ?y3 ?y4 ?y5 ?_)
      case y1 => exact cell_one_at rfl
      case y2 => simp [Value.oneCell']
      case y3 => rw [HUL.out]; unfold maxLen; omega
      case y4 => rw [HUL.out]; omega
      case y5 => have := HB.out.lt; simp; omega
      intro v' w4 hown1 hgrow _ hat
      obtain ⟨AV, cV, rfl⟩ := own_form hown1
      have f4 : Frm (fun b => (Value.slice A9 (A.upto k).length c9).ownBlock = some b) wr w4 := ((Frm.refl _ wr).alloc _).grown hgrow fun g hg _ => hg
      have ho4 : OwnInts w4 (w.heap.size + 1) (.slice AV ((A.upto k).length + 1) cV) (A.upto (k + 1)) := by rw [A.upto_succ]; exact OwnInts.grown rfl hown1
      have HCL4 : Hid (Cl (w.heap.size + 1) w4 pb w1.heap.size d0 (List.replicate L []) (.slice AV ((A.upto k).length + 1) cV) (A.upto (k + 1))) := HCL.out.push f4 ho4 hat (by simp)
      have HB4 := Lib.hid (f4.blk HB.out fun h => by have := (own_lt HO.out _ h).1; omega)
      have HF4 : Hid (Frm (fun _ => False) w w4) := Frm.mono (E := fun b => w.heap.size + 1 ≤ b) ((HF.out.mono fun _ _ h => h.elim).trans (f4.mono fun b _ h => (own_lt HO.out b h).1)) fun b hb h => by omega
      clear f4 ho4 hown1 hgrow hat
      go_wp2_with fail
      go_roundg (d0.beg.length + 1 - (k + 1))
      case measure => omega
      case rel => exact ⟨k + 1, by omega, rfl, by go_num, HCL4, HB4, HF4⟩
    · have hlt' : ¬ (k : Int) < (d0.beg.length : Int) := by omega
      obtain rfl : k = d0.beg.length := by omega
      have HTL : Hid ((A.upto d0.beg.length).length ≤ A.big) := show _ ≤ _ by rw [A.upto_len]; exact HBG.out
      have HLN : Hid ((List.replicate L ([] : List Int)).length = L) := show _ = _ by simp
      generalize A.upto d0.beg.length = tl0 at *
      generalize List.replicate L ([] : List Int) = srcs0 at *
      obtain ⟨ob, hob⟩ : ∃ ob, ob = w1.heap.size := ⟨_, rfl⟩
      rw [← hob] at HCL ⊢
      clear hown hk hlt hob
      go_wp2_with fail
      go_loopg [9] f (fun n u wr => ∃ (dk : A.Pd) (sk : List (List Int)) (tk : List Int), Hid (A.classO acc n dk sk tk = some d) ∧ Hid (tk.length ≤ A.big) ∧ Hid (sk.length = L) ∧ Hid (Cl (w.heap.size + 1) wr pb ob dk sk u tk) ∧ Hid (Blk wr w.heap.size 25 #[.int .i64 m.letters, .int .i64 m.start, .slice A1 m.next.length c1, .slice A2 m.fin.length c2]) ∧ Hid (Frm (fun _ => False) w wr))
      case atStart => exact ⟨d0, srcs0, tl0, HC2, HTL, HLN, HCL, HB, HF⟩
      case round =>
        clear HC2 HTL HLN HCL HB HF
        obtain ⟨dk, sk, tk, HC, HTL, HLN, HCL, HB, HF⟩ := hrel
        have hown : OwnInts wr (w.heap.size + 1) u9 tk := by obtain ⟨_, _, _, _, h, _⟩ := HCL.out; exact h
        obtain ⟨A9, c9, rfl⟩ := own_form hown
        have hc := HC.out
        unfold A.classO at hc
        by_cases h0 : tk.length = 0
        · rw [if_pos h0] at hc
          have HC2 := Lib.hid hc
          have h0' : ¬ ((0 : Int) < (tk.length : Int)) := by omega
          have HO := Lib.hid hown
          clear hc h0 hown
          go_wp2_with fail
          go_ret
          refine ⟨pb, rfl, ?_, HF.out⟩
          obtain ⟨Sp, Ss, h1, _, _, _, h5, _⟩ := HCL.out
          rw [← show dk = d from by injection HC2.out]
          exact h1.mono fun b _ hs => by have := (h5 b (.inl hs)).1; omega
        · rw [if_neg h0] at hc
          have h0' : (0 : Int) < (tk.length : Int) := by omega
          cases gk with
          | zero => cases hc
          | succ n =>
          dsimp only at hc
          split at hc
          case isFalse => cases hc
          rename_i hcl0
          obtain ⟨T, hT⟩ : ∃ T, T = tk.length - 1 := ⟨_, rfl⟩
          have hTl : tk.length = T + 1 := by omega
          rw [← hT] at hc hcl0
          obtain ⟨g9, rfl, hg9, k9⟩ := OwnInts.at_ (l := tk) hown (k := T) (by omega)
          have hot := hown.take (k := T) (by omega) (by omega)
          generalize hcl : tk.getD T 0 = cl at *
          obtain ⟨cn, rfl⟩ : ∃ cn : Nat, cl = (cn : Int) := ⟨cl.toNat, by omega⟩
          rw [Int.toNat_natCast] at hc
          cases hb : A.natO dk.beg cn with
          | none => rw [hb] at hc; cases hc
          | some b =>
          rw [hb] at hc
          dsimp only at hc
          cases he : A.natO dk.fin cn with
          | none => rw [he] at hc; cases hc
          | some e =>
          rw [he] at hc
          dsimp only at hc
          split at hc
          case isFalse => cases hc
          rename_i hbe
          cases hga : A.gathS acc (A.partOf dk b e) (sk, []) with
          | none => rw [hga] at hc; cases hc
          | some gr =>
          obtain ⟨sk2, ls⟩ := gr
          rw [hga] at hc
          dsimp only at hc
          split at hc
          case isFalse => cases hc
          rename_i hls
          cases hle : A.lettersO ls dk sk2 (tk.take T) with
          | none => rw [hle] at hc; cases hc
          | some lr =>
          obtain ⟨d3, sk3, tk3⟩ := lr
          rw [hle] at hc
          dsimp only at hc
          obtain ⟨Sp, Ss, ⟨vf, hv⟩, hsr, _, hds, hbd, hut⟩ := HCL.out
          obtain ⟨nb1, nb2⟩ := A.natO_some hb
          obtain ⟨ne1, ne2⟩ := A.natO_some he
          obtain ⟨hbe1, hbe2, hbe3⟩ := hbe
          obtain ⟨g3, c3, e3, o3, f3, k3, l3, _⟩ := hv.at_ (i := 3) (j := cn) (by decide) nb1
          obtain ⟨g4, c4, e4, o4, f4, k4, l4, _⟩ := hv.at_ (i := 4) (j := cn) (by decide) ne1
          obtain ⟨g0, c0, e0, o0, f0, k0, l0, _⟩ := hv.at_ (i := 0) (j := b) (by decide) (show b < dk.row.length by omega)
          obtain ⟨_, _, e0', -, -, hc0⟩ := hv.slot (i := 0) (by decide)
          rw [e0] at e0'
          injection e0' with q1 _ q3
          subst q1 q3
          rw [show (dk.f 3).getD cn 0 = (b : Int) from nb2] at k3
          rw [show (dk.f 4).getD cn 0 = (e : Int) from ne2] at k4
          have hn3 : (cn : Int) < ((dk.f 3).length : Int) := by have : cn < (dk.f 3).length := nb1; omega
          have hn4 : (cn : Int) < ((dk.f 4).length : Int) := by have : cn < (dk.f 4).length := ne1; omega
          have b1 : (b : Int) ≤ (e : Int) := by omega
          have b2 : (e : Int) ≤ (c0 : Int) := by have : e ≤ (dk.f 0).length := hbe2; omega
          have b3 : (b : Int) < (c0 : Int) := by omega
          have b5 : (e : Int) ≤ 1000000000 := by unfold A.big at hbe3; omega
          have hcb : ¬ c0 = b := by omega
          have t1 : (tk.length : Int) - 1 = (T : Int) := by omega
          have t2 : (T : Int) < (tk.length : Int) := by omega
          have t4 : tk.length ≤ c9 ∧ c9 ≤ maxLen := by
            rcases hown.2 with ⟨e', _⟩ | ⟨g', cap, cur, e', _, _, h3, h4, _⟩
            · cases e'
            · injection e' with _ _ e'; subst e'; exact ⟨h3, h4⟩
          have t3 : (T : Int) ≤ (c9 : Int) := by omega
          have t5 : 0 < c9 := by omega
          have t6 : (tk.length : Int) ≤ 1000000000 := by have h := HTL.out; unfold A.big at h; omega
          have HINTS : Hid (Ints wr Sp (.slice (some ⟨g0, b, none⟩) (e - b) (c0 - b)) (A.partOf dk b e)) := by
            have hpl : (A.partOf dk b e).length = e - b := by unfold A.partOf; rw [List.length_take, List.length_drop]; omega
            refine ⟨some ⟨g0, b, none⟩, c0 - b, by rw [hpl], fun k hk => ?_⟩
            rw [hpl] at hk
            have hk2 : b + k < dk.row.length := by omega
            obtain ⟨z1, _⟩ := hv.get (i := 0) (j := b + k) (by decide) e0 hk2
            refine ⟨g0, b, rfl, (Grp.lie hv 0 (by decide) g0 (by rw [e0]; rfl)).1, ?_⟩
            rw [z1]
            have : (dk.f 0).getD (b + k) 0 = (A.partOf dk b e)[k]'(by rw [hpl]; exact hk) := by
              unfold A.partOf
              rw [List.getElem_take, List.getElem_drop]
              show dk.row.getD (b + k) 0 = _
              simp [hk2]
            rw [this]
          have HSR := Lib.hid hsr
          have HPV := Lib.hid hv
          have HDS := Lib.hid hds
          have HBD := Lib.hid hbd
          have HUT := Lib.hid hut
          have HOT := Lib.hid hot
          have HC2 := Lib.hid hc
          have HGA := Lib.hid hga
          have HLE := Lib.hid hle
          have HLS := Lib.hid hls
          have HPLEN : Hid ((A.partOf dk b e).length ≤ 1000000000) := show _ ≤ _ by unfold A.partOf; rw [List.length_take]; omega
          generalize (dk.f 3).length = n3 at *
          generalize (dk.f 4).length = n4 at *
          generalize (dk.f 0).length = n0 at *
          clear hc hle hga hls hv hsr hds hbd hut hot hown hb he nb1 nb2 ne1 ne2 e3 e4 e0 k0 l0 l3 l4 f3 f4 f0 hcl hcl0 HC hc0 hbe2 hbe3 t4 hT
          have HGC : Hid (Calls Try.prog 73 #[.slice (some ⟨g0, b, none⟩) (e - b) (c0 - b), .slice (some ⟨oa, 0, none⟩) m.next.length m.next.length, .slice (some ⟨ob, 0, none⟩) L L] wr.drew fun r w' => ∃ u S', r = .returned u ∧ OwnInts w' wr.heap.size u ls ∧ Srcs w' S' ob sk2 ∧ (∀ b, S' b → Ss b ∨ wr.heap.size ≤ b) ∧ (∀ g, u.ownBlock = some g → ¬ S' g) ∧ sk2.length = L ∧ Frm Ss wr w') := by
            have h1 : Ars wr.drew (fun b => Sa b ∧ b < w.heap.size) oa acc := Rws.frm HIN.out HF.out.drew fun _ _ _ => id
            have h2 : Srcs wr.drew Ss ob sk := Rws.frm HSR.out ((Frm.refl (fun _ => False) wr).drew) fun _ _ _ => id
            have h3 : Ints wr.drew Sp (.slice (some ⟨g0, b, none⟩) (e - b) (c0 - b)) (A.partOf dk b e) := HINTS.out.keep ((Frm.refl (fun _ => False) wr).drew) fun _ _ => id
            have := gather_any h1 h2 h3 HDS.out (fun b hb hs => by have := (HBD.out b (.inr hs)).1; omega) HGA.out HPLEN.out
            rw [hacc, HLN.out] at this
            exact this
          go_wp2_with fail
          refine wp_region_still_last 21 23 (by kernel_rfl) rfl rfl (by kernel_rfl) (by kernel_rfl) (by kernel_rfl) (by kernel_rfl) (by kernel_rfl) (fun _ _ _ h => h) (v := .int .i64 0) (Or.inl ⟨by rfl, by (intro w; go_simp)⟩) (by kernel_rfl) ?_
          simp only [List.take_succ_cons, List.take_zero, List.drop_succ_cons, List.drop_zero]
          repeat still_step
          try refine wpStill_nil ?_
          change wpList _ _ _ _ _ wr.drew
          have HBW : Hid (w.heap.size + 1 ≤ wr.heap.size) := HB.out.lt
          go_wp2_with fail
          refine HGC.out.mono ?_
          rintro _ w5 ⟨ul, S5, rfl, hO5, hS5, hS5b, hU5, hL5, f5⟩
          obtain ⟨AL, cL, rfl⟩ := own_form hO5
          have HCL5 : Hid (Cl2 (w.heap.size + 1) w5 pb ob dk sk2 (.slice (some ⟨g9, 0, none⟩) T c9) (tk.take T) (.slice AL ls.length cL) ls) := cl2_gather ⟨vf, HPV.out⟩ HOT.out HDS.out HBD.out (fun g hg => HUT.out g hg) hO5 hS5 hS5b hU5 f5 HBW.out
          have HB5 := Lib.hid (f5.blk HB.out fun h => by have := (HBD.out _ (.inr h)).1; omega)
          have HF5 : Hid (Frm (fun _ => False) w w5) := Frm.mono (E := fun b => w.heap.size + 1 ≤ b) ((HF.out.mono fun _ _ h => h.elim).trans (f5.mono fun b _ h => (HBD.out b (.inr h)).1)) fun b hb h => by omega
          have HLE0 : Hid (A.lettersO (ls.drop 0) dk sk2 (tk.take T) = some (d3, sk3, tk3)) := HLE
          have HTT : Hid ((tk.take T).length ≤ A.big) := show _ ≤ _ by rw [List.length_take]; have := HTL.out; omega
          have hls2 : ls.length ≤ 1000000000 := HLS.out
          clear hO5 hS5 hS5b hU5 f5 o0 o3 o4 k3 k4 k9 HGC HINTS HSR HPV HDS HBD HUT HOT HCL HB HF HGA HLE HTL
          generalize tk.take T = tt at *
          have HL5 : Hid (sk2.length = L) := hL5
          clear hL5
          go_wp2_with fail
          go_loopg [9, 70] (ls.length + 1) (fun nn u i wr => ∃ (j : Nat) (dj : A.Pd) (sj : List (List Int)) (tj : List Int), j ≤ ls.length ∧ nn = ls.length + 1 - j ∧ i = .int .i64 (j : Int) ∧ Hid (A.lettersO (ls.drop j) dj sj tj = some (d3, sk3, tk3)) ∧ Hid (tj.length ≤ A.big) ∧ Hid (sj.length = L) ∧ Hid (Cl2 (w.heap.size + 1) wr pb ob dj sj u tj (.slice AL ls.length cL) ls) ∧ Hid (Blk wr w.heap.size 25 #[.int .i64 m.letters, .int .i64 m.start, .slice A1 m.next.length c1, .slice A2 m.fin.length c2]) ∧ Hid (Frm (fun _ => False) w wr))
          case atStart => exact ⟨0, dk, sk2, tt, Nat.zero_le _, rfl, rfl, HLE0, HTT, HL5, HCL5, HB5, HF5⟩
          case round =>
            clear HLE0 HTT HL5 HCL5 HB5 HF5
            obtain ⟨j, dj, sj, tj, hj, rfl, rfl, HLE, HTT, HL5, HCL, HB, HF⟩ := hrel
            have hown : OwnInts wr (w.heap.size + 1) u9 tj := by obtain ⟨_, _, _, _, h, _⟩ := HCL.out; exact h
            obtain ⟨A9, c9, rfl⟩ := own_form hown
            by_cases hltj : j < ls.length
            · have hltj' : (j : Int) < (ls.length : Int) := by omega
              obtain ⟨Sp, Ss, h1, h2, h3, h4, h5, h6, h7, h8⟩ := HCL.out
              obtain ⟨gl, rfl, _, kl⟩ := OwnInts.at_ (l := ls) h7 hltj
              have hle := HLE.out
              rw [List.drop_eq_getElem_cons hltj] at hle
              have hge : ls.getD j 0 = ls[j]'hltj := by simp [hltj]
              rw [← hge] at hle
              unfold A.lettersO at hle
              generalize ls.getD j 0 = x at *
              split at hle
              case isFalse => cases hle
              rename_i hx
              obtain ⟨hx0, hx1, hx2, hx3⟩ := hx
              obtain ⟨t, rfl⟩ : ∃ t : Nat, x = (t : Int) := ⟨x.toNat, by omega⟩
              rw [Int.toNat_natCast] at hle hx2 hx3
              have ht : t < sj.length := by omega
              have htL : (t : Int) < (L : Int) := by rw [← HL5.out]; omega
              obtain ⟨vf, hG⟩ := h2
              obtain ⟨AR, cR, eR, oR, fR, nR, _⟩ := hG.slot ht
              have hln : lnOf sj t = (sj.getD t []).length := rfl
              rw [hln] at eR oR nR
              have hri : Ints wr Ss (.slice AR (sj.getD t []).length cR) (sj.getD t []) := by
                have ho := hG.own t ht
                rw [eR, cfOf_inC, hln] at ho
                have ho2 : OwnInts wr 0 (.slice AR (sj.getD t []).length cR) (sj.getD t []) := ho
                obtain ⟨AX, cX, eX, hX⟩ := ho2.ints
                refine ⟨AX, cX, eX, fun k hk => ?_⟩
                obtain ⟨g, o, z1, z2, z3⟩ := hX k hk
                exact ⟨g, o, z1, (hG.lie t ht g (by rw [eR]; exact z2)).1, z3⟩
              have HCUT : Hid (0 < (sj.getD t []).length) := hx2
              obtain ⟨row, hrow⟩ : ∃ row, row = sj.getD t [] := ⟨_, rfl⟩
              rw [← hrow] at hle hx2 hx3 oR hri
              cases hdv : A.divideO dj row with
              | none => rw [hdv] at hle; cases hle
              | some dr =>
              obtain ⟨d4, fs⟩ := dr
              rw [hdv] at hle
              dsimp only at hle
              split at hle
              case isFalse => cases hle
              rename_i htf
              have HLE2 := Lib.hid hle
              have HTF := Lib.hid htf
              have HDV := Lib.hid hdv
              have HRI := Lib.hid hri
              have HH1 := Lib.hid h1
              have HH2 : Hid (Srcs wr Ss ob sj) := ⟨vf, hG⟩
              have HH3 := Lib.hid h3
              have HH4 := Lib.hid h4
              have HH5 := Lib.hid h5
              have HH6 := Lib.hid h6
              have HH7 := Lib.hid h7
              have HH8 := Lib.hid h8
              have HROW := Lib.hid hrow
              have HX3 := Lib.hid hx3
              have HTLT := Lib.hid ht
              clear hle htf hdv hri h1 h3 h4 h5 h6 h7 h8 hrow hG eR nR hln hge hown HCL HLE hx2 hx3 ht fR
              go_wp2_with fail
              have hdc := divide_any HH1.out HRI.out (fun b hb hs => HH4.out b hs hb) HDV.out HX3.out
              refine hdc.mono ?_
              rintro _ w6 ⟨uf, rfl, hO6, hp6, f6⟩
              have HC6 : Hid (Cl2 (w.heap.size + 1) w6 pb ob d4 sj (.slice A9 tj.length c9) tj (.slice (some ⟨gl, 0, none⟩) ls.length cL) ls) := cl2_divide HH2.out HH3.out HH4.out HH5.out (fun g hg => HH6.out g hg) HH7.out (fun g hg => HH8.out g hg) hp6 f6 HB.out.lt
              have HB6 := Lib.hid (f6.blk HB.out fun h => by have := (HH5.out _ (.inl h)).1; omega)
              have HF6 : Hid (Frm (fun _ => False) w w6) := Frm.mono (E := fun b => w.heap.size + 1 ≤ b) ((HF.out.mono fun _ _ h => h.elim).trans (f6.mono fun b _ h => (HH5.out b (.inl h)).1)) fun b hb h => by omega
              have HO6 := Lib.hid hO6
              have HU6 : Hid (OwnInts w6 (w.heap.size + 1) (.slice A9 tj.length c9) tj) := by obtain ⟨_, _, _, _, h, _⟩ := HC6.out; exact h
              obtain ⟨i0, hi0, hz0, hz1, hz2⟩ := info_parts info_int
              clear hdc hO6 hp6 f6 oR kl HH1 HH2 HH3 HH4 HH5 HH6 HH7 HH8 HRI
              go_wp2_with (at_builtin; refine wpList_append_src_at rfl _ _ 37 rfl (w.heap.size + 1) wr.heap.size 3 i0 (.int .i64 0) 1 8 Try.underlying37 hi0 hz0 hz1 hz2 rfl (by decide) _ _ _ rfl HU6.out _ _ _ rfl HO6.out (ints_one_ _) ?z1 ?z2 ?z3 ?_)
              case z1 => have h := HTF.out; unfold A.big at h; unfold maxLen; omega
              case z2 => have h := HTF.out; unfold A.big at h; omega
              case z3 => exact HB6.out.lt
              intro v' w7 hown1 hgrow hat
              obtain ⟨AV, cV, rfl⟩ := own_form hown1
              have f7 : Frm (fun b => (Value.slice A9 tj.length c9).ownBlock = some b) w6 w7 := (Frm.refl _ w6).grown hgrow fun g hg _ => hg
              have ho7 : OwnInts w7 (w.heap.size + 1) (.slice AV (tj.length + fs.length) cV) (tj ++ fs) := by
                unfold OwnInts
                rw [List.length_append, List.map_append]
                exact hown1
              have HC7 : Hid (Cl2 (w.heap.size + 1) w7 pb ob d4 sj (.slice AV (tj.length + fs.length) cV) (tj ++ fs) (.slice (some ⟨gl, 0, none⟩) ls.length cL) ls) := HC6.out.push f7 ho7 hat (Nat.le_refl _)
              have HB7 := Lib.hid (f7.blk HB6.out fun h => by have := (own_lt HU6.out _ h).1; omega)
              have HF7 : Hid (Frm (fun _ => False) w w7) := Frm.mono (E := fun b => w.heap.size + 1 ≤ b) ((HF6.out.mono fun _ _ h => h.elim).trans (f7.mono fun b _ h => (own_lt HU6.out b h).1)) fun b hb h => by omega
              obtain ⟨gr, cr, oc, fc, cp, hcut, fcut⟩ := HC7.out.cut HTLT.out HCUT.out
              rw [← HROW.out] at oc
              have HC8 := Lib.hid hcut
              have HB8 := Lib.hid (fcut.blk HB7.out (by omega))
              have HF8 : Hid (Frm (fun _ => False) w (w7.setCell ⟨ob, t, none⟩ (.slice (some ⟨gr, 0, none⟩) 0 cr))) := Frm.mono (E := fun b => w.heap.size + 1 ≤ b) ((HF7.out.mono fun _ _ h => h.elim).trans fcut) fun b hb h => by omega
              have HTF2 : Hid ((tj ++ fs).length ≤ A.big) := show _ ≤ _ by rw [List.length_append]; exact HTF.out
              have HSL : Hid ((sj.set t []).length = L) := show _ = _ by rw [List.length_set]; exact HL5.out
              have cpi : (0 : Int) ≤ (cr : Int) := by omega
              clear hown1 hgrow hat f7 ho7 hcut fcut HC6 HB6 HF6 HU6 HO6 HC7 HB7 HF7
              go_wp2_with fail
              go_roundg (ls.length + 1 - (j + 1))
              case measure => omega
              case rel => exact ⟨j + 1, d4, sj.set t [], tj ++ fs, by omega, rfl, by go_num, HLE2, HTF2, HSL, HC8, HB8, HF8⟩
            · have hltj' : ¬ (j : Int) < (ls.length : Int) := by omega
              have hle := HLE.out
              rw [List.drop_of_length_le (by omega)] at hle
              simp only [A.lettersO, Option.some.injEq, Prod.mk.injEq] at hle
              obtain ⟨rfl, rfl, rfl⟩ := hle
              have HC9 := Lib.hid HCL.out.cl
              clear HLE hown
              go_wp2_with fail
              go_roundg n
              case measure => omega
              case rel => exact ⟨dj, sj, tj, HC2, HTT, HL5, HC9, HB, HF⟩
end Go.Proofs.Ytldmjpnldgekaaa
end
section
namespace Go.Proofs.Ytldmjpnldgekaaa
open Go.RowKit
namespace A
/-- The class that a class's first state is led to by a letter; none where a number lies outside. -/
def nxt (m : Mac) (d : Pd) (x k : Int) : Option Int :=
  if x < 0 ∨ (d.beg.length : Int) ≤ x then none else
  if d.beg.getD x.toNat 0 < 0 ∨ (d.row.length : Int) ≤ d.beg.getD x.toNat 0 then none else
  if d.row.getD (d.beg.getD x.toNat 0).toNat 0 < 0 ∨ (m.next.length : Int) ≤ d.row.getD (d.beg.getD x.toNat 0).toNat 0 then none else
  if k < 0 ∨ ((m.next.getD (d.row.getD (d.beg.getD x.toNat 0).toNat 0).toNat []).length : Int) ≤ k then none else
  if (m.next.getD (d.row.getD (d.beg.getD x.toNat 0).toNat 0).toNat []).getD k.toNat 0 = -1 then some (-1) else
  if (m.next.getD (d.row.getD (d.beg.getD x.toNat 0).toNat 0).toNat []).getD k.toNat 0 < 0 ∨ (d.cls.length : Int) ≤ (m.next.getD (d.row.getD (d.beg.getD x.toNat 0).toNat 0).toNat []).getD k.toNat 0 then none else
  if d.cls.getD ((m.next.getD (d.row.getD (d.beg.getD x.toNat 0).toNat 0).toNat []).getD k.toNat 0).toNat 0 < -1000000 ∨ 1000000 < d.cls.getD ((m.next.getD (d.row.getD (d.beg.getD x.toNat 0).toNat 0).toNat []).getD k.toNat 0).toNat 0 then none else
  some (d.cls.getD ((m.next.getD (d.row.getD (d.beg.getD x.toNat 0).toNat 0).toNat []).getD k.toNat 0).toNat 0)
end A
theorem okI_small {x : Int} (h : -1000000 ≤ x) (h' : x ≤ 1000000) : okI x := WalkArith.wf_i64 ⟨by omega, by omega⟩
theorem Pt.drewN {w : World} {S : Nat → Prop} {pb : Nat} {d : A.Pd} (h : Pt w S pb d) (n : Nat) : Pt (w.drewN n) S pb d := by
  obtain ⟨vf, h⟩ := h
  exact ⟨vf, h.drewN n⟩
set_option maxRecDepth 100000 in
set_option maxHeartbeats 4000000 in
theorem least1_q {w : World} {P S : Nat → Prop} {m : A.Mac} {d : A.Pd} {mb cb pb : Nat} {x k y : Int} {A1 A2 : Option Addr} {c1 c2 : Nat} (h : MachAt w P (.agg #[.int .i64 m.letters, .int .i64 m.start, .slice A1 m.next.length c1, .slice A2 m.fin.length c2]) m) (hb : Blk w mb 25 #[.int .i64 m.letters, .int .i64 m.start, .slice A1 m.next.length c1, .slice A2 m.fin.length c2]) (hc : w.cell? ⟨cb, 0, none⟩ = some (.pointer (some ⟨pb, 0, none⟩))) (hp : Pt w S pb d) (hy : A.nxt m d x k = some y) :
    okI y ∧ Calls Try.prog 55 #[.int .i64 x, .int .i64 k, .pointer (some ⟨mb, 0, none⟩), .pointer (some ⟨cb, 0, none⟩)] w fun e w' => e = .returned (.int .i64 y) ∧ ∃ n, w' = w.drewN n := by
  unfold A.nxt at hy
  split at hy
  · cases hy
  rename_i hx
  obtain ⟨x, rfl⟩ : ∃ q : Nat, x = (q : Int) := ⟨x.toNat, by omega⟩
  simp only [Int.toNat_natCast] at hy
  obtain ⟨b0, hb0⟩ : ∃ b0, b0 = d.beg.getD x 0 := ⟨_, rfl⟩
  rw [← hb0] at hy
  split at hy
  · cases hy
  rename_i hbb
  obtain ⟨b, rfl⟩ : ∃ q : Nat, b0 = (q : Int) := ⟨b0.toNat, by omega⟩
  simp only [Int.toNat_natCast] at hy
  obtain ⟨s0, hs0⟩ : ∃ s0, s0 = d.row.getD b 0 := ⟨_, rfl⟩
  rw [← hs0] at hy
  split at hy
  · cases hy
  rename_i hss
  obtain ⟨s, rfl⟩ : ∃ q : Nat, s0 = (q : Int) := ⟨s0.toNat, by omega⟩
  simp only [Int.toNat_natCast] at hy
  have hsl : s < m.next.length := by omega
  obtain ⟨g, o, A3, c3, rfl, r1, r2⟩ := h.next_at hsl
  rw [show m.next.getD s [] = m.next[s] by simp [hsl]] at hy
  generalize m.next[s] = row at *
  split at hy
  · cases hy
  rename_i hkk
  obtain ⟨k, rfl⟩ : ∃ q : Nat, k = (q : Int) := ⟨k.toNat, by omega⟩
  simp only [Int.toNat_natCast] at hy
  have hkl : k < row.length := by omega
  obtain ⟨g3, o3, rfl, _, r3⟩ := r2 k hkl
  rw [show row.getD k 0 = row[k] by simp [hkl]] at hy
  generalize row[k] = t at *
  have HONE : Hid (∀ n, Calls Try.prog 56 #[.pointer (some ⟨pb, 0, none⟩), .int .i64 x] (w.drewN n) fun e w' => e = .returned (.int .i64 (s : Int)) ∧ ∃ m, w' = (w.drewN n).drewN m) := fun n => by
    have := one_q (hp.drewN n) (k := x) (b := b) (by omega) hb0.symm (by omega)
    rw [← hs0] at this
    exact this
  have x1 := hb.cell 2
  have hsl' : (s : Int) < (m.next.length : Int) := by omega
  have hkl' : (k : Int) < (row.length : Int) := by omega
  have HP := Lib.hid hp
  by_cases ht : t = -1
  · subst ht
    rw [if_pos rfl] at hy
    injection hy with hy
    subst hy
    refine ⟨okI_small (by decide) (by decide), ?_⟩
    clear hx hbb hss hkk hb0 hs0 r2 hp h hb
    go_enter Try.func55, Try.ntmps55
    go_wp2_with fail
    go_quiet ((go_at_call 56; exact Calls.quiet_of (HONE.out _)))
    go_wp2_with fail
    go_ret
    exact ⟨rfl, nq, rfl⟩
  · rw [if_neg ht] at hy
    split at hy
    · cases hy
    rename_i htt
    obtain ⟨t, rfl⟩ : ∃ q : Nat, t = (q : Int) := ⟨t.toNat, by omega⟩
    simp only [Int.toNat_natCast] at hy
    split at hy
    · cases hy
    rename_i hcc
    injection hy with hy
    have htl : t < d.cls.length := by omega
    refine ⟨okI_small (by omega) (by omega), ?_⟩
    obtain ⟨vf, hv⟩ := hp
    obtain ⟨gq, cq, e2, o2, f2, k2, l2, _⟩ := hv.at_ (i := 2) (j := t) (by decide) htl
    have htl' : (t : Int) < ((d.f 2).length : Int) := by have : t < (d.f 2).length := htl; omega
    rw [show (d.f 2).getD t 0 = y from hy] at k2
    generalize (d.f 2).length = n2 at *
    have HT := Lib.hid ht
    clear hx hbb hss hkk hb0 hs0 r2 h hb htt hcc hy htl hv e2
    go_enter Try.func55, Try.ntmps55
    go_wp2_with fail
    go_quiet ((go_at_call 56; exact Calls.quiet_of (HONE.out _)))
    go_wp2_with fail
    go_ret
    exact ⟨rfl, nq, rfl⟩
end Go.Proofs.Ytldmjpnldgekaaa
end
