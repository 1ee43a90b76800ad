/- The reference's Count. Words of two machines, of both and of either: counted, they are together those of the one and of the other; plain. wp_region_inv, where some operations are passed over. small. What comes in, as it lies in memory: ints, rows of ints, bools, pairs, machines. What comes in, as it lies in memory, with the bounds that the reach gives. What AutoCounts needs besides its own walk. Contracts of the program's functions, with no condition beyond what each theorem states. -/
import Derived.Test.YtldmjpnldgekaaaC05
import Derived.Test.YtldmjpnldgekaaaC10
import Derived.Test.YtldmjpnldgekaaaC09
import Derived.Test.YtldmjpnldgekaaaC08
import Derived.Test.YtldmjpnldgekaaaC02
import Derived.Deep.Matrix
import Derived.Deep.SlicePairs
import Derived.Lib.SmallJoins
import Derived.WalkKit
import Derived.ProofKit
import Derived.OpenShut
import Derived.SizedLaws
section
namespace Go.Proofs.Ytldmjpnldgekaaa
open Go.RowKit
namespace A
theorem getD_setU {l : List Int} {i : Nat} {v : Int} (h : i < l.length) : (l.set i v).getD i 0 = v := by simp [h]
end A
set_option maxRecDepth 100000 in
set_option maxHeartbeats 16000000 in
theorem rcount_any {w : World} {P : Nat → Prop} {v : Value} {m : A.Mac} {n : Int} (h : MachAt w P v m) (hs : Sized m) :
    Calls Try.prog 14 #[v, .int .i64 n] w fun e w' => e = .returned (.tuple #[.int .u64 (A.count m n).1, .int .i64 (A.count m n).2]) ∧ Frm (fun _ => False) w w' := by
  obtain ⟨A1, c1, A2, c2, rfl⟩ := h.form
  have bx := Blk.new w 25 #[.int .i64 m.letters, .int .i64 m.start, .slice A1 m.next.length c1, .slice A2 m.fin.length c2]
  have HB0 := Lib.hid bx
  have HF0 : Hid (Frm (fun _ => False) w (w.alloc (.cells #[.int .i64 m.letters, .int .i64 m.start, .slice A1 m.next.length c1, .slice A2 m.fin.length c2] 25))) := (Frm.refl _ w).alloc _
  have HM := Lib.hid h
  have HS := Lib.hid hs
  have HX : Hid (A.count m n = if A.valid m = 0 ∧ 0 ≤ n ∧ n ≤ 1000 then (if m.start = -1 then (0, 0) else ((A.longN m n.toNat (A.words0 m)).getD m.start.toNat 0, 0)) else (0, 1)) := rfl
  clear h hs
  have e0 := bx.cell 0
  have e1 := bx.cell 1
  have e2 := bx.cell 2
  have e3 := bx.cell 3
  clear bx
  go_enter Try.func14, Try.ntmps14
  go_wp2_with fail
  clear e0 e1 e2 e3
  refine (rvalid_any (HM.out.keep0 HF0.out) HS.out).mono ?_
  rintro _ w1 ⟨rfl, f1⟩
  have HF1 := Lib.hid (HF0.out.trans f1)
  have HB1 := Lib.hid (f1.blk HB0.out id)
  clear f1 HF0 HB0
  by_cases hv : A.valid m = 0
  case neg =>
    have hv' : (A.valid m != 0) = true := by rw [bne_iff_ne]; exact hv
    have HY : Hid (A.count m n = (0, 1)) := show _ = _ by rw [HX.out, if_neg (fun h => hv h.1)]
    clear hv
    go_wp2_with fail
    refine bodyPost_ret (v := .tuple #[.int .u64 0, .int .i64 1]) (by simp [results, Try.results14, go_sem]) rfl ⟨by rw [HY.out], HF1.out⟩
  by_cases hn0 : n < 0
  · have HY : Hid (A.count m n = (0, 1)) := show _ = _ by rw [HX.out, if_neg (fun h => by omega)]
    rw [hv]
    clear hv
    go_wp2_with fail
    refine bodyPost_ret (v := .tuple #[.int .u64 0, .int .i64 1]) (by simp [results, Try.results14, go_sem]) rfl ⟨by rw [HY.out], HF1.out⟩
  have hn0' : 0 ≤ n := by omega
  by_cases hn1 : 1000 < n
  · have HY : Hid (A.count m n = (0, 1)) := show _ = _ by rw [HX.out, if_neg (fun h => by omega)]
    rw [hv]
    clear hv
    go_wp2_with fail
    refine bodyPost_ret (v := .tuple #[.int .u64 0, .int .i64 1]) (by simp [results, Try.results14, go_sem]) rfl ⟨by rw [HY.out], HF1.out⟩
  have hn1' : n ≤ 1000 := by omega
  obtain ⟨hf, hl3, hN4⟩ := A.valid_fits hv
  have HY : Hid (A.count m n = (if m.start = -1 then (0, 0) else ((A.longN m n.toNat (A.words0 m)).getD m.start.toNat 0, 0))) := show _ = _ by rw [HX.out, if_pos ⟨hv, hn0', hn1'⟩]
  obtain ⟨c, rfl⟩ := Int.eq_ofNat_of_zero_le hn0'
  obtain ⟨N, hN⟩ : ∃ N, N = m.next.length := ⟨_, rfl⟩
  have hNf : N = m.fin.length := by rw [hN]; exact hf.fin
  obtain ⟨L, hL⟩ := Int.eq_ofNat_of_zero_le hf.letters
  have HFI := Lib.hid hf
  have HNN := Lib.hid hN
  have HNF := Lib.hid hNf
  have HL := Lib.hid hL
  have hN4' : N ≤ 4000 := by omega
  have hL3 : L ≤ 300 := by omega
  rw [hv]
  rw [hL, ← hN, ← hNf] at HB1
  rw [Int.toNat_natCast] at HY
  clear hf hN hNf hL hn0 hn1 hl3 hN4 hv HX
  have x2 := HB1.out.cell 2
  have hmk := run_make_row' (P := Try.prog) 51 33 (.int .u64 0) 8 Try.underlying51 info_u64 rfl .i64 .i64 N (by omega) (by omega)
  go_wp2_with fail
  obtain ⟨n1, hn1⟩ : ∃ n1, n1 = w1.heap.size := ⟨_, rfl⟩
  have HW1 : Hid (w.heap.size < n1) := show _ < _ by rw [hn1]; exact HB1.out.lt
  have HXB1 : Hid (∀ {V : World}, Frm (fun b => n1 ≤ b) w1 V → Blk V w.heap.size 25 #[.int .i64 (L : Int), .int .i64 m.start, .slice A1 N c1, .slice A2 N c2]) := fun F => F.blk HB1.out (by have := HW1.out; omega)
  have HXF1 : Hid (∀ {V : World}, Frm (fun b => n1 ≤ b) w1 V → Frm (fun _ => False) w V) := fun F => ((HF1.out.mono fun _ _ h => h.elim).trans F).mono fun b hb h => by have := HW1.out; omega
  have HG0 : Hid (Blk (w1.alloc (.cells (madeCells #[.int .u64 0] N) 33)) n1 33 (u64Cs (A.firstTo m 0))) := show Blk _ _ _ _ by
    have e : A.firstTo m 0 = List.replicate N 0 := by unfold A.firstTo; rw [← HNF.out]; simp
    rw [e, ← u64Cs_made, hn1]
    exact Blk.new w1 _ _
  have HFF : Hid (Frm (fun b => n1 ≤ b) w1 (w1.alloc (.cells (madeCells #[.int .u64 0] N) 33))) := (Frm.refl _ w1).alloc _
  rw [← hn1]
  generalize (w1.alloc (.cells (madeCells #[.int .u64 0] N) 33)) = w2 at *
  clear x2 hn1
  go_loopg [7] (N + 1) (fun nn u wr => ∃ i : Nat, i ≤ N ∧ nn = N + 1 - i ∧ u = .int .i64 (i : Int) ∧ Hid (Blk wr n1 33 (u64Cs (A.firstTo m i))) ∧ Hid (Frm (fun b => n1 ≤ b) w1 wr))
  case atStart => exact ⟨0, Nat.zero_le _, rfl, rfl, HG0, HFF⟩
  case round =>
    clear HG0 HFF
    obtain ⟨i, hi, rfl, rfl, HG, HF⟩ := hrel
    by_cases hlt : i < N
    · have hlt' : (i : Int) < (N : Int) := by omega
      have hif : i < m.fin.length := by rw [← HNF.out]; exact hlt
      obtain ⟨gf, of, rfl, cf⟩ := HM.out.fin_at hif
      have d0 := (HXF1.out HF.out).cell id cf
      have x3 := (HXB1.out HF.out).cell 3
      cases hb : m.fin[i] with
      | false =>
        rw [hb] at d0
        have HG2 : Hid (Blk wr n1 33 (u64Cs (A.firstTo m (i + 1)))) := show Blk _ _ _ _ by rw [← A.firstTo_skip m hif hb]; exact HG.out
        clear cf hb HG
        go_wp2_with fail
        go_roundg (N + 1 - (i + 1))
        case measure => omega
        case rel => exact ⟨i + 1, by omega, rfl, by go_num, HG2, HF⟩
      | true =>
        rw [hb] at d0
        have hlen := A.firstTo_len m (k := i) (by omega)
        have z0 := (HG.out.cell i).trans (u64Cs_getD (by omega))
        have z1 := HG.out.frozen i
        have FS : Frm (fun b => b = n1) wr (wr.setCell ⟨n1, i, none⟩ (.int .u64 1)) := Frm.one n1 i _
        have HG2 : Hid (Blk (wr.setCell ⟨n1, i, none⟩ (.int .u64 1)) n1 33 (u64Cs (A.firstTo m (i + 1)))) := show Blk _ _ _ _ by
          have := HG.out.set_ i (.int .u64 1)
          rw [u64Cs_set] at this
          rw [← A.firstTo_set m hif, hb]
          exact this
        have HF2 : Hid (Frm (fun b => n1 ≤ b) w1 (wr.setCell ⟨n1, i, none⟩ (.int .u64 1))) := HF.out.trans (FS.mono fun b _ e => by omega)
        clear cf hb HG HF FS hlen
        generalize (A.firstTo m i).getD i 0 = old at *
        go_wp2_with fail
        go_roundg (N + 1 - (i + 1))
        case measure => omega
        case rel => exact ⟨i + 1, by omega, rfl, by go_num, HG2, HF2⟩
    · have hlt' : ¬ (i : Int) < (N : Int) := by omega
      obtain rfl : i = N := by omega
      have HG2 : Hid (Blk wr n1 33 (u64Cs (A.words0 m))) := show Blk _ _ _ _ by rw [← A.firstTo_end, ← HNF.out]; exact HG.out
      have hw0 : (A.words0 m).length = i := by unfold A.words0; rw [List.length_map]; exact HNF.out.symm
      have HW0 := Lib.hid hw0
      clear HG hw0
      go_wp2_with fail
      go_loopg [6, 8] (c + 1) (fun nn u6 u8 wr => ∃ (j g : Nat) (ws : List Int), j ≤ c ∧ nn = c + 1 - j ∧ u6 = .slice (some ⟨g, 0, none⟩) i i ∧ u8 = .int .i64 (j : Int) ∧ ws.length = i ∧ n1 ≤ g ∧ Hid (A.longN m (c - j) ws = A.longN m c (A.words0 m)) ∧ Hid (Blk wr g 33 (u64Cs ws)) ∧ Hid (Frm (fun b => n1 ≤ b) w1 wr))
      case atStart => exact ⟨0, n1, _, Nat.zero_le _, rfl, rfl, rfl, HW0.out, Nat.le_refl _, rfl, HG2, HF⟩
      case round =>
        clear HG2 HF HW0 hi hlt hlt'
        obtain ⟨N, rfl⟩ : ∃ N, N = i := ⟨_, rfl⟩
        obtain ⟨j, g, ws, hj, rfl, rfl, rfl, hwl, hg1, HLN, HG, HF⟩ := hrel
        by_cases hlt : j < c
        · have hlt' : (j : Int) < (c : Int) := by omega
          go_wp2_with fail
          obtain ⟨gn, hgn⟩ : ∃ gn, gn = wr.heap.size := ⟨_, rfl⟩
          have HN : Hid (Blk (wr.alloc (.cells (madeCells #[.int .u64 0] N) 33)) gn 33 (u64Cs (A.longTo m ws 0))) := show Blk _ _ _ _ by
            have e : A.longTo m ws 0 = List.replicate N 0 := by unfold A.longTo; rw [← HNN.out]; simp
            rw [e, ← u64Cs_made, hgn]
            exact Blk.new wr _ _
          have HG2 : Hid (Blk (wr.alloc (.cells (madeCells #[.int .u64 0] N) 33)) g 33 (u64Cs ws)) := HG.out.alloc _
          have HF2 : Hid (Frm (fun b => n1 ≤ b) w1 (wr.alloc (.cells (madeCells #[.int .u64 0] N) 33))) := HF.out.alloc _
          have HGN : Hid (n1 ≤ gn) := show _ ≤ _ by have h1 := HF.out.1; have h2 := HG.out.lt; omega
          have HGG : Hid (g ≠ gn) := show _ ≠ _ by have := HG.out.lt; omega
          rw [← hgn]
          clear hgn HG HF
          generalize (wr.alloc (.cells (madeCells #[.int .u64 0] N) 33)) = w3 at *
          go_loopg [10] (N + 1) (fun nn u wr => ∃ i : Nat, i ≤ N ∧ nn = N + 1 - i ∧ u = .int .i64 (i : Int) ∧ Hid (Blk wr gn 33 (u64Cs (A.longTo m ws i))) ∧ Hid (Blk wr g 33 (u64Cs ws)) ∧ Hid (Frm (fun b => n1 ≤ b) w1 wr))
          case atStart => exact ⟨0, Nat.zero_le _, rfl, rfl, HN, HG2, HF2⟩
          case round =>
            clear HN HG2 HF2
            obtain ⟨i, hi0, rfl, rfl, HN, HG, HF⟩ := hrel
            by_cases hin0 : i < N
            · have hin' : (i : Int) < (N : Int) := by omega
              have hin : i < m.next.length := by rw [← HNN.out]; exact hin0
              have hi : i ≤ m.next.length := by omega
              have HNI : Hid (Blk wr gn 33 (u64Cs ((A.longTo m ws i).set i ((m.next[i].take 0).foldl (A.addTo ws) 0)))) := show Blk _ _ _ _ by
                have e : (A.longTo m ws i).set i ((m.next[i].take 0).foldl (A.addTo ws) 0) = A.longTo m ws i := by
                  rw [List.take_zero, List.foldl_nil]
                  unfold A.longTo
                  rw [List.set_append_right _ _ (by simp; omega)]
                  have e : i - ((m.next.take i).map (A.sumRow ws)).length = 0 := by simp; omega
                  rw [e, show m.next.length - i = (m.next.length - (i + 1)) + 1 by omega, List.replicate_succ, List.set_cons_zero]
                rw [e]
                exact HN.out
              clear HN
              go_wp2_with fail
              go_loopg [11] (L + 1) (fun nn u wr => ∃ k : Nat, k ≤ L ∧ nn = L + 1 - k ∧ u = .int .i64 (k : Int) ∧ Hid (Blk wr gn 33 (u64Cs ((A.longTo m ws i).set i ((m.next[i].take k).foldl (A.addTo ws) 0)))) ∧ Hid (Blk wr g 33 (u64Cs ws)) ∧ Hid (Frm (fun b => n1 ≤ b) w1 wr))
              case atStart => exact ⟨0, Nat.zero_le _, rfl, rfl, HNI, HG, HF⟩
              case round =>
                clear HNI HG HF
                obtain ⟨k, hk, rfl, rfl, HN, HG, HF⟩ := hrel
                obtain ⟨hr1, hr2⟩ := HFI.out.rows _ (List.getElem_mem hin)
                have hlen : m.next[i].length = L := by have := HL.out; omega
                have x0 := (HXB1.out HF.out).cell 0
                by_cases hkl : k < L
                · have hkl' : (k : Int) < (L : Int) := by omega
                  have hkr : k < m.next[i].length := by omega
                  obtain ⟨g1, o1, A3, c3, hA, hca, hrow⟩ := HM.out.next_at hin
                  subst hA
                  obtain ⟨g3, o3, hA3, _, hcj⟩ := hrow k hkr
                  subst hA3
                  have HCA := Lib.hid hca
                  have HCJ := Lib.hid hcj
                  have d1 := (HXF1.out HF.out).cell id hca
                  have d2 := (HXF1.out HF.out).cell id hcj
                  have x2 := (HXB1.out HF.out).cell 2
                  obtain ⟨hx0, hx1⟩ := hr2 _ (List.getElem_mem hkr)
                  have HAC : Hid ((m.next[i].take (k + 1)).foldl (A.addTo ws) 0 = A.addTo ws ((m.next[i].take k).foldl (A.addTo ws) 0) m.next[i][k]) := show _ = _ by
                    rw [List.take_succ_eq_append_getElem hkr, List.foldl_append]
                    rfl
                  have hxN : m.next[i][k] < (N : Int) := by have := HNN.out; omega
                  clear hca hcj hrow hr1 hr2
                  generalize m.next[i][k] = x at *
                  obtain ⟨acc, hacc⟩ : ∃ acc, acc = (m.next[i].take k).foldl (A.addTo ws) 0 := ⟨_, rfl⟩
                  rw [← hacc] at HAC HN
                  have hlk : (k : Int) < (m.next[i].length : Int) := by omega
                  clear hacc
                  obtain ⟨len, hlen2⟩ : ∃ len, len = m.next[i].length := ⟨_, rfl⟩
                  rw [← hlen2] at d1 HCA hlk hkr
                  have HLE := Lib.hid hlen2
                  clear hlen2
                  by_cases hx : 0 ≤ x
                  case neg =>
                    have hx' : x < 0 := by omega
                    have HN2 : Hid (Blk wr gn 33 (u64Cs ((A.longTo m ws i).set i ((m.next[i].take (k + 1)).foldl (A.addTo ws) 0)))) := show Blk _ _ _ _ by
                      rw [HAC.out, show x = -1 by omega]
                      exact HN.out
                    clear HN
                    go_wp2_with fail
                    go_roundg (L + 1 - (k + 1))
                    case measure => omega
                    case rel => exact ⟨k + 1, by omega, rfl, by go_num, HN2, HG, HF⟩
                  obtain ⟨x, rfl⟩ := Int.eq_ofNat_of_zero_le hx
                  go_wp2_with fail
                  have HXF : Hid (∀ {V : World} {p : Addr} {z : Value}, Frm (fun b => b = gn) wr V → w.cell? p = some z → V.cell? p = some z) := fun {V p z} F hp => (HXF1.out (HF.out.trans (F.mono fun b _ e => by have := HGN.out; omega))).cell id hp
                  have HXB : Hid (∀ {V : World}, Frm (fun b => b = gn) wr V → Blk V w.heap.size 25 #[.int .i64 (L : Int), .int .i64 m.start, .slice (some ⟨g1, o1, none⟩) N c1, .slice A2 N c2]) := fun F => HXB1.out (HF.out.trans (F.mono fun b _ e => by have := HGN.out; omega))
                  have HADD : Hid (f1 (vV (.int .u64 (IntKind.u64.wrap (acc + ws.getD x 0)))) [.int .u64 (IntKind.u64.wrap (acc + ws.getD x 0))] wr) := rfl
                  refine wp_region_depI [70, 71, 72, 73, 74, 75, 76, 77, 78, 79, 80, 81, 82, 83, 84, 85, 86, 87, 88, 1000] [[0], [1], [2], [3], [4], [5], [6], [7], [8], [9], [10], [11], [12], [13], [14], [15], [16], [17], [18], []]
                    [f1 (vV (.slice (some ⟨gn, 0, none⟩) N N)), f1 (vV (.int .i64 (i : Int))), f1 (vV (.slice (some ⟨gn, 0, none⟩) N N)), f1 (vV (.int .i64 (i : Int))), f1 (vV (.pointer (some ⟨gn, i, none⟩))), f1 (vV (.int .u64 acc)), f1 (vV (.slice (some ⟨g, 0, none⟩) N N)), f1 (vV (.pointer (some ⟨w.heap.size, 2, none⟩))), f1 (vV (.slice (some ⟨g1, o1, none⟩) N c1)), f1 (vV (.int .i64 (i : Int))), f1 (vV (.pointer (some ⟨g1, o1 + i, none⟩))), f1 (vV (.slice (some ⟨g3, o3, none⟩) len c3)), f1 (vV (.int .i64 (k : Int))), f1 (vV (.pointer (some ⟨g3, o3 + k, none⟩))), f1 (vV (.int .i64 (x : Int))), f1 (vV (.pointer (some ⟨g, x, none⟩))), f1 (vV (.int .u64 (ws.getD x 0))), f1 (vV (.int .u64 (IntKind.u64.wrap (acc + ws.getD x 0)))), f1 (vV (.pointer (some ⟨gn, i, none⟩))), fun _ V => Blk V gn 33 (u64Cs ((A.longTo m ws i).set i (IntKind.u64.wrap (acc + ws.getD x 0))))]
                    (Frm (fun b => b = gn)) (fun i => if i = 19 then Frm (fun b => b = gn) else Frm (fun _ => False)) (fun j V => j = 5 ∨ j = 19 → Blk V gn 33 (u64Cs ((A.longTo m ws i).set i acc))) [] [(9, .slice (some ⟨gn, 0, none⟩) N N), (10, .int .i64 (i : Int)), (6, .slice (some ⟨g, 0, none⟩) N N), (2, .pointer (some ⟨w.heap.size, 0, none⟩)), (11, .int .i64 (k : Int))] (by kernel_rfl) (by kernel_rfl) (by kernel_rfl) (fun _ _ _ => Frm.trans) ?_ ?_ ?_ ?_ (fun _ h => by cases h) (Frm.refl _ _).drew ?_ ?_ ?_
                  · intro i a b h
                    split at h
                    · exact h
                    · exact h.mono fun _ _ h => h.elim
                  · intro j i hj hi hne hna l a b hf hr
                    have hj' : j < 20 := hj
                    have hcs : j = 0 ∨ j = 1 ∨ j = 2 ∨ j = 3 ∨ j = 4 ∨ j = 5 ∨ j = 6 ∨ j = 7 ∨ j = 8 ∨ j = 9 ∨ j = 10 ∨ j = 11 ∨ j = 12 ∨ j = 13 ∨ j = 14 ∨ j = 15 ∨ j = 16 ∨ j = 17 ∨ j = 18 ∨ j = 19 := by omega
                    rcases hcs with rfl | rfl | rfl | rfl | rfl | rfl | rfl | rfl | rfl | rfl | rfl | rfl | rfl | rfl | rfl | rfl | rfl | rfl | rfl | rfl
                    · exact hf
                    · exact hf
                    · exact hf
                    · exact hf
                    · exact hf
                    · exact hf
                    · exact hf
                    · exact hf
                    · exact hf
                    · exact hf
                    · exact hf
                    · exact hf
                    · exact hf
                    · exact hf
                    · exact hf
                    · exact hf
                    · exact hf
                    · exact hf
                    · exact hf
                    · rw [if_neg hne] at hr
                      exact Frm.blk hr hf id
                  · intro j k' hk' hne hna a b h hr e
                    have hb := h e
                    split at hr
                    · rename_i hk2
                      subst hk2
                      rcases e with rfl | rfl
                      · simp [Region.binds] at hna
                      · exact absurd rfl hne
                    · exact hr.blk hb id
                  · intro j e
                    exact HN.out.drew
                  · intro z hz
                    simp only [List.mem_cons, List.not_mem_nil, or_false] at hz
                    rcases hz with rfl | rfl | rfl | rfl | rfl <;> exact ⟨by simp, rfl⟩
                  · have hix : (i : Int) < (N : Int) := by omega
                    have hkx : (k : Int) < (len : Int) := by omega
                    have hxx : (x : Int) < (N : Int) := by omega
                    refine ⟨?_, ?_, ?_, ?_, ?_, ?_, ?_, ?_, ?_, ?_, ?_, ?_, ?_, ?_, ?_, ?_, ?_, ?_, ?_, ?_, trivial⟩
                    · intro Q tm df V hR hS hu hd
                      have u9 : tm[9]?.getD undef = .slice (some ⟨gn, 0, none⟩) N N := hu (9, _) (by simp)
                      clear hu hd hS
                      go_simp
                      exact ⟨_, rfl, rfl, Frm.refl _ V⟩
                    · intro Q tm df V hR hS hu hd
                      have u10 : tm[10]?.getD undef = .int .i64 (i : Int) := hu (10, _) (by simp)
                      clear hu hd hS
                      go_simp
                      exact ⟨_, rfl, rfl, Frm.refl _ V⟩
                    · intro Q tm df V hR hS hu hd
                      have u9 : tm[9]?.getD undef = .slice (some ⟨gn, 0, none⟩) N N := hu (9, _) (by simp)
                      clear hu hd hS
                      go_simp
                      exact ⟨_, rfl, rfl, Frm.refl _ V⟩
                    · intro Q tm df V hR hS hu hd
                      have u10 : tm[10]?.getD undef = .int .i64 (i : Int) := hu (10, _) (by simp)
                      clear hu hd hS
                      go_simp
                      exact ⟨_, rfl, rfl, Frm.refl _ V⟩
                    · intro Q tm df V hR hS hu hd
                      have e2 : tm[72]?.getD undef = .slice (some ⟨gn, 0, none⟩) N N := hd 2 (by simp [Region.binds])
                      have e3 : tm[73]?.getD undef = .int .i64 (i : Int) := hd 3 (by simp [Region.binds])
                      clear hu hd hS
                      go_simp
                      exact ⟨_, rfl, rfl, Frm.refl _ V⟩
                    · intro Q tm df V hR hS hu hd
                      have e4 : tm[74]?.getD undef = .pointer (some ⟨gn, i, none⟩) := hd 4 (by simp [Region.binds])
                      have y := ((hS (.inl rfl)).cell i).trans (u64Cs_getD (by rw [List.length_set, A.longTo_len m ws hi]; exact hin))
                      rw [A.getD_setU (by rw [A.longTo_len m ws hi]; exact hin)] at y
                      clear hu hd hS
                      go_simp
                      exact ⟨_, rfl, rfl, Frm.refl _ V⟩
                    · intro Q tm df V hR hS hu hd
                      have u6 : tm[6]?.getD undef = .slice (some ⟨g, 0, none⟩) N N := hu (6, _) (by simp)
                      clear hu hd hS
                      go_simp
                      exact ⟨_, rfl, rfl, Frm.refl _ V⟩
                    · intro Q tm df V hR hS hu hd
                      have u2 : tm[2]?.getD undef = .pointer (some ⟨w.heap.size, 0, none⟩) := hu (2, _) (by simp)
                      clear hu hd hS
                      go_simp
                      exact ⟨_, rfl, rfl, Frm.refl _ V⟩
                    · intro Q tm df V hR hS hu hd
                      have e7 : tm[77]?.getD undef = .pointer (some ⟨w.heap.size, 2, none⟩) := hd 7 (by simp [Region.binds])
                      have y := (HXB.out hR).cell 2
                      clear hu hd hS
                      go_simp
                      exact ⟨_, rfl, rfl, Frm.refl _ V⟩
                    · intro Q tm df V hR hS hu hd
                      have u10 : tm[10]?.getD undef = .int .i64 (i : Int) := hu (10, _) (by simp)
                      clear hu hd hS
                      go_simp
                      exact ⟨_, rfl, rfl, Frm.refl _ V⟩
                    · intro Q tm df V hR hS hu hd
                      have e8 : tm[78]?.getD undef = .slice (some ⟨g1, o1, none⟩) N c1 := hd 8 (by simp [Region.binds])
                      have e9 : tm[79]?.getD undef = .int .i64 (i : Int) := hd 9 (by simp [Region.binds])
                      clear hu hd hS
                      go_simp
                      exact ⟨_, rfl, rfl, Frm.refl _ V⟩
                    · intro Q tm df V hR hS hu hd
                      have e10 : tm[80]?.getD undef = .pointer (some ⟨g1, o1 + i, none⟩) := hd 10 (by simp [Region.binds])
                      have y := HXF.out hR HCA.out
                      clear hu hd hS
                      go_simp
                      exact ⟨_, rfl, rfl, Frm.refl _ V⟩
                    · intro Q tm df V hR hS hu hd
                      have u11 : tm[11]?.getD undef = .int .i64 (k : Int) := hu (11, _) (by simp)
                      clear hu hd hS
                      go_simp
                      exact ⟨_, rfl, rfl, Frm.refl _ V⟩
                    · intro Q tm df V hR hS hu hd
                      have e11 : tm[81]?.getD undef = .slice (some ⟨g3, o3, none⟩) len c3 := hd 11 (by simp [Region.binds])
                      have e12 : tm[82]?.getD undef = .int .i64 (k : Int) := hd 12 (by simp [Region.binds])
                      clear hu hd hS
                      go_simp
                      exact ⟨_, rfl, rfl, Frm.refl _ V⟩
                    · intro Q tm df V hR hS hu hd
                      have e13 : tm[83]?.getD undef = .pointer (some ⟨g3, o3 + k, none⟩) := hd 13 (by simp [Region.binds])
                      have y := HXF.out hR HCJ.out
                      clear hu hd hS
                      go_simp
                      exact ⟨_, rfl, rfl, Frm.refl _ V⟩
                    · intro Q tm df V hR hS hu hd
                      have e6 : tm[76]?.getD undef = .slice (some ⟨g, 0, none⟩) N N := hd 6 (by simp [Region.binds])
                      have e14 : tm[84]?.getD undef = .int .i64 (x : Int) := hd 14 (by simp [Region.binds])
                      clear hu hd hS
                      go_simp
                      exact ⟨_, rfl, rfl, Frm.refl _ V⟩
                    · intro Q tm df V hR hS hu hd
                      have e15 : tm[85]?.getD undef = .pointer (some ⟨g, x, none⟩) := hd 15 (by simp [Region.binds])
                      have y := ((hR.blk HG.out HGG.out).cell x).trans (u64Cs_getD (by omega))
                      clear hu hd hS
                      go_simp
                      exact ⟨_, rfl, rfl, Frm.refl _ V⟩
                    · intro Q tm df V hR hS hu hd
                      have e5 : tm[75]?.getD undef = .int .u64 acc := hd 5 (by simp [Region.binds])
                      have e16 : tm[86]?.getD undef = .int .u64 (ws.getD x 0) := hd 16 (by simp [Region.binds])
                      clear hu hd hS
                      go_simp
                      exact ⟨_, rfl, HADD.out, Frm.refl _ V⟩
                    · intro Q tm df V hR hS hu hd
                      have e0 : tm[70]?.getD undef = .slice (some ⟨gn, 0, none⟩) N N := hd 0 (by simp [Region.binds])
                      have e1 : tm[71]?.getD undef = .int .i64 (i : Int) := hd 1 (by simp [Region.binds])
                      clear hu hd hS
                      go_simp
                      exact ⟨_, rfl, rfl, Frm.refl _ V⟩
                    · intro Q tm df V hR hS hu hd
                      have e18 : tm[88]?.getD undef = .pointer (some ⟨gn, i, none⟩) := hd 18 (by simp [Region.binds])
                      have e17 : tm[87]?.getD undef = .int .u64 (IntKind.u64.wrap (acc + ws.getD x 0)) := hd 17 (by simp [Region.binds])
                      have hb := hS (.inr rfl)
                      have z0 := (hb.cell i).trans (u64Cs_getD (by rw [List.length_set, A.longTo_len m ws hi]; exact hin))
                      have z1 := hb.frozen i
                      have hB : Blk (V.setCell ⟨gn, i, none⟩ (.int .u64 (IntKind.u64.wrap (acc + ws.getD x 0)))) gn 33 (u64Cs ((A.longTo m ws i).set i (IntKind.u64.wrap (acc + ws.getD x 0)))) := by
                        have := hb.set_ i (.int .u64 (IntKind.u64.wrap (acc + ws.getD x 0)))
                        rwa [u64Cs_set, List.set_set] at this
                      have HB := Lib.hid hB
                      clear hu hd hS hb hB
                      generalize ((A.longTo m ws i).set i acc).getD i 0 = old at *
                      generalize IntKind.u64.wrap (acc + ws.getD x 0) = nv at *
                      go_simp
                      exact ⟨HB.out, Frm.one gn i _⟩
                  · intro vs V hR hf
                    have HN2 : Hid (Blk V gn 33 (u64Cs ((A.longTo m ws i).set i (IntKind.u64.wrap (acc + ws.getD x 0))))) := hf 19 (by decide)
                    clear hf
                    simp only [putAll, List.size_toArray, List.length_cons, List.length_nil, Nat.zero_add, Nat.reduceAdd, show List.range 20 = [0, 1, 2, 3, 4, 5, 6, 7, 8, 9, 10, 11, 12, 13, 14, 15, 16, 17, 18, 19] from rfl, List.foldl_cons, List.foldl_nil, List.getD_cons_zero, List.getD_cons_succ, List.setIfInBounds_toArray, List.set_cons_zero, List.set_cons_succ]
                    have HN3 : Hid (Blk V gn 33 (u64Cs ((A.longTo m ws i).set i ((m.next[i].take (k + 1)).foldl (A.addTo ws) 0)))) := show Blk _ _ _ _ by
                      rw [HAC.out]
                      unfold A.addTo
                      rw [if_neg (by omega), Int.toNat_natCast]
                      exact HN2.out
                    have HG3 := Lib.hid (hR.blk HG.out HGG.out)
                    have HF3 : Hid (Frm (fun b => n1 ≤ b) w1 V) := HF.out.trans (hR.mono fun b _ e => by have := HGN.out; omega)
                    clear hR HN2 HN HG HF HXF HXB
                    go_wp2_with fail
                    go_roundg (L + 1 - (k + 1))
                    case measure => omega
                    case rel => exact ⟨k + 1, by omega, rfl, by go_num, HN3, HG3, HF3⟩
                · have hkl' : ¬ (k : Int) < (L : Int) := by omega
                  obtain rfl : k = L := by omega
                  have HN2 : Hid (Blk wr gn 33 (u64Cs (A.longTo m ws (i + 1)))) := show Blk _ _ _ _ by
                    rw [← A.longTo_set m ws hin]
                    have e : m.next[i].take k = m.next[i] := List.take_of_length_le (by omega)
                    have := HN.out
                    rw [e] at this
                    exact this
                  clear HN
                  go_wp2_with fail
                  go_roundg (N + 1 - (i + 1))
                  case measure => omega
                  case rel => exact ⟨i + 1, by omega, rfl, by go_num, HN2, HG, HF⟩
            · have hin' : ¬ (i : Int) < (N : Int) := by omega
              obtain rfl : i = N := by omega
              have HN2 : Hid (Blk wr gn 33 (u64Cs (A.longer m ws))) := show Blk _ _ _ _ by
                rw [← A.longTo_end, ← HNN.out]
                exact HN.out
              have HL2 : Hid (A.longN m (c - (j + 1)) (A.longer m ws) = A.longN m c (A.words0 m)) := show _ = _ by
                have := HLN.out
                rw [show c - j = (c - (j + 1)) + 1 by omega] at this
                exact this
              have hlw : (A.longer m ws).length = i := by rw [A.longer_len]; exact HNN.out.symm
              have hgn := HGN.out
              clear HN HG
              go_wp2_with fail
              go_roundg (c + 1 - (j + 1))
              case measure => omega
              case rel => exact ⟨j + 1, gn, _, by omega, rfl, rfl, by go_num, hlw, hgn, HL2, HN2, HF⟩
        · have hlt' : ¬ (j : Int) < (c : Int) := by omega
          obtain rfl : j = c := by omega
          have HWS : Hid (ws = A.longN m j (A.words0 m)) := by
            have := HLN.out
            rw [Nat.sub_self] at this
            exact this
          have x1 := (HXB1.out HF.out).cell 1
          by_cases hst : m.start = -1
          · have HZ : Hid (A.count m (j : Int) = (0, 0)) := show _ = _ by rw [HY.out, if_pos hst]
            rw [hst] at x1
            clear hst
            go_wp2_with fail
            refine bodyPost_ret (v := .tuple #[.int .u64 0, .int .i64 0]) (by simp [results, Try.results14, go_sem]) rfl ⟨by rw [HZ.out], HXF1.out HF.out⟩
          · have hs0 := HFI.out.start
            obtain ⟨s1, s2⟩ := hs0
            obtain ⟨st, hst2⟩ := Int.eq_ofNat_of_zero_le (show 0 ≤ m.start by omega)
            have hstN : st < N := by have := HNN.out; omega
            have hstN' : (st : Int) < (N : Int) := by omega
            have HZ : Hid (A.count m (j : Int) = (ws.getD st 0, 0)) := show _ = _ by rw [HY.out, if_neg hst, hst2, Int.toNat_natCast, HWS.out]
            have z0 := (HG.out.cell st).trans (u64Cs_getD (by omega))
            rw [hst2] at x1
            clear hst hst2 s1 s2
            generalize ws.getD st 0 = wv at *
            go_wp2_with fail
            refine bodyPost_ret (v := .tuple #[.int .u64 wv, .int .i64 0]) (by simp [results, Try.results14, go_sem]) rfl ⟨by rw [HZ.out], HXF1.out HF.out⟩
end Go.Proofs.Ytldmjpnldgekaaa
end
section
namespace Go.Proofs.Ytldmjpnldgekaaa.A
theorem wrap_mod (c : Int) : IntKind.u64.wrap c = c % 18446744073709551616 := IntKind.wrap_u64 c
theorem foldN_succ (L : Nat) (v : Nat → Int) : foldN (L + 1) v = IntKind.u64.wrap (foldN L v + v L) := by
  unfold foldN
  rw [List.range_succ, List.foldl_append]
  rfl
theorem foldN_add {f g f' g' : Nat → Int} : ∀ L : Nat, (∀ k, k < L → IntKind.u64.wrap (f k + g k) = IntKind.u64.wrap (f' k + g' k)) → IntKind.u64.wrap (foldN L f + foldN L g) = IntKind.u64.wrap (foldN L f' + foldN L g')
  | 0, _ => rfl
  | L + 1, h => by
    have h1 := foldN_add L fun k hk => h k (by omega)
    have h2 := h L (by omega)
    rw [foldN_succ, foldN_succ, foldN_succ, foldN_succ]
    simp only [wrap_mod] at h1 h2 ⊢
    omega
/-- Four states, of two machines, of both and of either. -/
def JE (a b x y : Mac) (s t u v : Int) : Prop := ∀ l s' t' u' v', from_ a s l = some s' → from_ b t l = some t' → from_ x u l = some u' → from_ y v l = some v' → ends x u' = (ends a s' && ends b t') ∧ ends y v' = (ends a s' || ends b t')
theorem JE.lead {a b x y : Mac} {s t u v k : Int} (hb : a.letters = b.letters) (hx : x.letters = a.letters) (hy : y.letters = a.letters) (h : JE a b x y s t u v) (h0 : 0 ≤ k) (hk : k < a.letters) : JE a b x y (lead a s k) (lead b t k) (lead x u k) (lead y v k) := fun l s' t' u' v' h1 h2 h3 h4 =>
  h (k :: l) s' t' u' v' (by rw [from_, if_pos ⟨h0, hk⟩]; exact h1) (by rw [from_, if_pos ⟨h0, by omega⟩]; exact h2) (by rw [from_, if_pos ⟨h0, by omega⟩]; exact h3) (by rw [from_, if_pos ⟨h0, by omega⟩]; exact h4)
theorem val_add {a b x y : Mac} (fa : Fits a) (fb : Fits b) (fx : Fits x) (fy : Fits y) (hb : a.letters = b.letters) (hx : x.letters = a.letters) (hy : y.letters = a.letters) : ∀ (n : Nat) (s t u v : Int), In a s → In b t → In x u → In y v → JE a b x y s t u v → IntKind.u64.wrap (valN x n u + valN y n v) = IntKind.u64.wrap (valN a n s + valN b n t)
  | 0, s, t, u, v, hs, ht, hu, hv, h => by
    rw [valN_zero fa hs, valN_zero fb ht, valN_zero fx hu, valN_zero fy hv]
    obtain ⟨h1, h2⟩ := h [] s t u v rfl rfl rfl rfl
    rw [h1, h2]
    cases ends a s <;> cases ends b t <;> rfl
  | n + 1, s, t, u, v, hs, ht, hu, hv, h => by
    rw [valN_succ fa hs, valN_succ fb ht, valN_succ fx hu, valN_succ fy hv, hx, hy, ← hb]
    have hl := fa.letters
    refine foldN_add _ fun k hk => ?_
    have hk' : (k : Int) < a.letters := by omega
    exact val_add fa fb fx fy hb hx hy n _ _ _ _ (fa.lead hs (by omega) hk') (fb.lead ht (by omega) (by omega)) (fx.lead hu (by omega) (by omega)) (fy.lead hv (by omega) (by omega)) (h.lead hb hx hy (by omega) hk')
theorem count_add {a b x y : Mac} (hfit : fit a b = 0) (vx : valid x = 0) (vy : valid y = 0) (jx : JoinOf (fun p q => p && q) a b x) (jy : JoinOf (fun p q => p || q) a b y) {n : Int} (h0 : 0 ≤ n) (h1 : n ≤ 1000) : IntKind.u64.wrap ((count x n).1 + (count y n).1) = IntKind.u64.wrap ((count a n).1 + (count b n).1) := by
  have ht := fit_two hfit
  have hv : valid a = 0 ∧ valid b = 0 := by
    unfold fit at hfit
    split at hfit
    · rename_i hv; exact hv
    · cases hfit
  obtain ⟨fx, _, _⟩ := valid_fits vx
  obtain ⟨fy, _, _⟩ := valid_fits vy
  obtain ⟨m, rfl⟩ := Int.eq_ofNat_of_zero_le h0
  rw [count_val vx (by omega), count_val vy (by omega), count_val hv.1 (by omega), count_val hv.2 (by omega)]
  exact val_add ht.fa ht.fb fx fy ht.ll jx.ll jy.ll m _ _ _ _ ht.fa.start ht.fb.start fx.start fy.start fun l s' t' u' v' g1 g2 g3 g4 => ⟨jx.is l s' t' u' g1 g2 g3, jy.is l s' t' v' g1 g2 g4⟩
theorem accepts_join {T : Bool → Bool → Bool} (hT : T false false = false) {a b x : Mac} (hfit : fit a b = 0) (vx : valid x = 0) (jx : JoinOf T a b x) (l : List Int) : accepts x l = T (accepts a l) (accepts b l) := by
  have ht := fit_two hfit
  have hv : valid a = 0 ∧ valid b = 0 := by
    unfold fit at hfit
    split at hfit
    · rename_i hv; exact hv
    · cases hfit
  unfold accepts
  rw [if_pos vx, if_pos hv.1, if_pos hv.2]
  cases h1 : from_ a a.start l with
  | none =>
    cases h2 : from_ b b.start l with
    | some v => obtain ⟨u, hu⟩ := from_two ht.ll.symm l b.start a.start v h2; rw [h1] at hu; cases hu
    | none =>
      cases h3 : from_ x x.start l with
      | some v => obtain ⟨u, hu⟩ := from_two jx.ll l x.start a.start v h3; rw [h1] at hu; cases hu
      | none => exact hT.symm
  | some s =>
    obtain ⟨t, h2⟩ := from_two ht.ll l a.start b.start s h1
    obtain ⟨u, h3⟩ := from_two jx.ll.symm l a.start x.start s h1
    rw [h2, h3]
    exact jx.is l s t u h1 h2 h3
/-- What Both and Either hand back of small machines is valid. -/
theorem tog_valid {T : Bool → Bool → Bool} (hT : Rule T) {a b : Mac} (h : fit a b = 0) (hN : (1 + a.next.length) * (1 + b.next.length) ≤ 4000) : valid (tog T a b).1 = 0 ∧ JoinOf T a b (tog T a b).1 ∧ (tog T a b).2 = 0 := by
  obtain ⟨h1, h2⟩ := tog_ok hT h hN
  have ht := fit_two h
  unfold tog
  rw [if_pos h]
  exact ⟨valid_of h1.mn.fits (by have := h1.join.ll; have := ht.la; dsimp only; omega) h2, h1.join, rfl⟩
end Go.Proofs.Ytldmjpnldgekaaa.A
end
section
namespace Go.Proofs.Ytldmjpnldgekaaa
open Go.RowKit
section
variable {P : Program} {Q : Exit → Act → World → Prop}
/-- As invB, where a guard that is told may pass an operation over. -/
def invS (ops : Array Oper) (ds : List Nat) (n : Nat) (gs : List (Nat × Bool)) : Bool :=
  (List.range ops.size).all fun i => match ops[i]? with
    | none => false
    | some o => (match o.dst with | some x => x == ds.getD i 0 && decide (x < n) | none => decide (n ≤ ds.getD i 0)) && ((List.range ops.size).all fun j => ds.getD i 0 != ds.getD j 0 || i == j || decide (n ≤ ds.getD i 0)) && (o.after.all fun e => decide (e.on < i) || !Region.binds .any e) && (match o.guard with | none => true | some g => (gs.contains g || gs.contains (g.1, !g.2)) && o.after.any fun e => e.on == g.1 && Region.binds .any e)
def toldG (gs : List (Nat × Bool)) (o : Oper) : Bool := match o.guard with | none => true | some g => gs.contains g
theorem wp_region_skip {id : Nat} {a0 : Act} {w0 : World} {ops : Array Oper} (ds : List Nat) (Inv : (Nat → Bool) → (Nat → Value) → World → Prop) (gs : List (Nat × Bool)) (fix : List (Nat × Value))
    (hm : P.follows .mixedOrders = true) (hB : (invS ops ds a0.tmps.size gs && decide (ds.length = ops.size)) = true)
    (hcong : ∀ L L' vs vs' w, (∀ k < ops.size, L k = L' k) → (∀ k < ops.size, vs k = vs' k) → Inv L vs w → Inv L' vs' w)
    (hg : ∀ g ∈ gs, ∀ L vs w, Inv L vs w → L g.1 = true → vs g.1 = .bool g.2) (h0 : Inv (fun _ => false) (valAt ds a0.tmps) { w0 with drawn := w0.drawn + 1 }) (hfix : ∀ x ∈ fix, x.1 ∉ ds ∧ a0.tmps[x.1]?.getD undef = x.2)
    (hstep : Each (fun i o => (toldG gs o = true → ∀ (Q : Exit → Act → World → Prop) (tm : Array Value) (df : List Deferred) w (L : Nat → Bool), Inv L (valAt ds tm) w → L i = false → (∀ e ∈ o.after, Region.binds .any e = true → L e.on = true) → (∀ x ∈ fix, tm[x.1]?.getD undef = x.2) →
      o.wp P ⟨tm, df⟩ w (fun a' w' => ∃ v, a' = Act.put ⟨tm, df⟩ o.dst v ∧ (o.dst = none → v = undef) ∧ Inv (updB L i) (updV (valAt ds tm) i v) w') Q) ∧ (toldG gs o = false → ∀ (tm : Array Value) w (L : Nat → Bool), Inv L (valAt ds tm) w → L i = false → (∀ e ∈ o.after, Region.binds .any e = true → L e.on = true) → Inv (updB L i) (updV (valAt ds tm) i undef) w)) 0 ops.toList)
    (hend : ∀ (vs : Nat → Value) w, Inv (fun _ => true) vs w → Q .normal ⟨putAll ops.size (fun i => ds.getD i 0) vs a0.tmps, a0.defers⟩ w) : (Code.region id ops true).wp P Q a0 w0 := by
  simp only [Bool.and_eq_true, decide_eq_true_eq] at hB
  obtain ⟨hB1, hB2⟩ := hB
  unfold invS at hB1
  rw [List.all_eq_true] at hB1
  have hB' : ∀ i (h : i < ops.size), (match ops[i].dst with | some x => x == ds.getD i 0 && decide (x < a0.tmps.size) | none => decide (a0.tmps.size ≤ ds.getD i 0)) = true ∧ (∀ j < ops.size, ds.getD i 0 = ds.getD j 0 → i = j ∨ a0.tmps.size ≤ ds.getD i 0) ∧ (∀ e ∈ ops[i].after, e.on < i ∨ Region.binds .any e = false) ∧ (match ops[i].guard with | none => true | some g => (gs.contains g || gs.contains (g.1, !g.2)) && ops[i].after.any fun e => e.on == g.1 && Region.binds .any e) = true := fun i h => by
    have h1 := hB1 i (List.mem_range.2 h)
    rw [Array.getElem?_eq_getElem h] at h1
    simp only [Bool.and_eq_true, decide_eq_true_eq, List.all_eq_true, List.mem_range, Bool.or_eq_true, bne_iff_ne, beq_iff_eq, Bool.not_eq_true', Array.all_eq_true_iff_forall_mem] at h1
    obtain ⟨⟨⟨h2, h3⟩, h4⟩, h5⟩ := h1
    refine ⟨h2, fun j hj e => ?_, h4, h5⟩
    rcases h3 j hj with (h | h) | h
    · exact absurd e h
    · exact .inl h
    · exact .inr h
  clear hB1
  have hmem : ∀ i, i < ops.size → ds.getD i 0 ∈ ds := fun i hi => by
    have : i < ds.length := by omega
    have e : ds.getD i 0 = ds[i] := by simp [this]
    rw [e]
    exact List.getElem_mem this
  refine wp_region_any hm ?_
  have hall : ∀ (listed : Array Bool), listed.size = ops.size → Region.ready .any ops listed = [] → ∀ j < ops.size, listed.getD j true = true := by
    intro listed hs hr j
    induction j using Nat.strongRecOn with
    | _ j ih =>
      intro hj
      rcases hb : listed.getD j true with _ | _
      · exfalso
        have : j ∈ Region.ready .any ops listed := mem_ready.2 ⟨hb, ops[j], by simp [hj], fun e he hbi => by
          have h1 : e.on < j := ((hB' j hj).2.2.1 e he).resolve_right (by rw [hbi]; decide)
          have h2 := ih e.on h1 (by omega)
          have h3 : e.on < listed.size := by omega
          simpa [h3] using h2⟩
        rw [hr] at this
        cases this
      · rfl
  have fin : ∀ (listed : Array Bool) (tm : Array Value) (w : World), listed.size = ops.size → tm.size = a0.tmps.size → (∀ t, t ∉ ds → tm.getD t undef = a0.tmps.getD t undef) → Inv (fun i => listed.getD i true) (valAt ds tm) w → Region.ready .any ops listed = [] → Q .normal ⟨tm, a0.defers⟩ w := by
    intro listed tm w hs ht hu hf hr
    have hl := hall listed hs hr
    have h1 := hend (valAt ds tm) w (hcong _ _ _ _ _ (fun k hk => hl k hk) (fun _ _ => rfl) hf)
    have h2 : putAll ops.size (fun i => ds.getD i 0) (valAt ds tm) a0.tmps = tm := by
      have gen : ∀ n, n ≤ ops.size → (putAll n (fun i => ds.getD i 0) (valAt ds tm) a0.tmps).size = a0.tmps.size ∧ ∀ t, t < a0.tmps.size → (putAll n (fun i => ds.getD i 0) (valAt ds tm) a0.tmps).getD t undef = if (∃ j, j < n ∧ ds.getD j 0 = t) then tm.getD t undef else a0.tmps.getD t undef := by
        intro n
        induction n with
        | zero => intro _; exact ⟨rfl, fun t ht => by rw [if_neg (fun ⟨j, h, _⟩ => absurd h (by omega))]; rfl⟩
        | succ n ih =>
          intro hn
          obtain ⟨i1, i2⟩ := ih (by omega)
          unfold putAll at i1 i2 ⊢
          rw [List.range_succ, List.foldl_append, List.foldl_cons, List.foldl_nil]
          refine ⟨by rw [Array.size_setIfInBounds, i1], fun t ht' => ?_⟩
          dsimp only at i1 i2 ⊢
          by_cases hd : ds.getD n 0 = t
          · rw [hd, getD_setV (by rw [i1]; exact ht'), if_pos rfl, if_pos ⟨n, by omega, hd⟩]
            unfold valAt
            rw [hd, Array.getD_eq_getD_getElem?]
          · have e1 : ∀ (A : Array Value) (v : Value), (A.setIfInBounds (ds.getD n 0) v).getD t undef = A.getD t undef := fun A v => by
              simp only [Array.getD_eq_getD_getElem?, Array.getElem?_setIfInBounds]
              rw [if_neg hd]
            rw [e1, i2 t ht']
            congr 1
            apply propext
            constructor
            · rintro ⟨j, hj, e⟩; exact ⟨j, by omega, e⟩
            · rintro ⟨j, hj, e⟩
              exact ⟨j, by
                rcases Nat.lt_or_ge j n with h | h
                · exact h
                · have : j = n := by omega
                  rw [this] at e
                  exact absurd e hd, e⟩
      obtain ⟨g1, g2⟩ := gen ops.size (Nat.le_refl _)
      apply Array.ext
      · rw [g1, ht]
      · intro t ha hb
        have e1 : ∀ (A : Array Value) (h : t < A.size), A[t] = A.getD t undef := fun A h => by simp [h]
        rw [e1 _ ha, e1 _ hb, g2 t (by omega)]
        by_cases hne : ∃ j, j < ops.size ∧ ds.getD j 0 = t
        · rw [if_pos hne]
        · rw [if_neg hne]
          refine (hu t fun hmem => hne ?_).symm
          obtain ⟨j, hj, e⟩ := List.getElem_of_mem hmem
          exact ⟨j, by omega, by simp [hj, e]⟩
    rw [h2] at h1
    exact h1
  have key : ∀ (fuel : Nat) (listed : Array Bool) (tm : Array Value) (w : World), listed.size = ops.size → listed.toList.count false ≤ fuel → tm.size = a0.tmps.size → (∀ t, t ∉ ds → tm.getD t undef = a0.tmps.getD t undef) → Inv (fun i => listed.getD i true) (valAt ds tm) w → wpAny P .any ops Q fuel listed ⟨tm, a0.defers⟩ w := by
    intro fuel
    induction fuel with
    | zero =>
      intro listed tm w hs hc ht hu hf
      have hr : Region.ready .any ops listed = [] := by
        apply List.eq_nil_iff_forall_not_mem.2
        intro i hi
        obtain ⟨hb, o, ho, _⟩ := mem_ready.1 hi
        have hi' : i < ops.size := by
          rcases Nat.lt_or_ge i ops.size with h | h
          · exact h
          · rw [Array.getElem?_eq_none h] at ho; cases ho
        have := count_setB (l := listed) (i := i) (by omega) hb
        omega
      exact ⟨hr, fin listed tm w hs ht hu hf hr⟩
    | succ fuel ih =>
      intro listed tm w hs hc ht hu hf
      refine ⟨fun hr => fin listed tm w hs ht hu hf hr, fun i hi => ?_⟩
      obtain ⟨hb, o, ho, hall'⟩ := mem_ready.1 hi
      have hi' : i < ops.size := by
        rcases Nat.lt_or_ge i ops.size with h | h
        · exact h
        · rw [Array.getElem?_eq_none h] at ho; cases ho
      have heo : ops[i] = o := by rw [Array.getElem?_eq_getElem hi'] at ho; exact Option.some.inj ho
      obtain ⟨k1, k2, k3, k4⟩ := hB' i hi'
      have hdep : ∀ e ∈ ops[i].after, Region.binds .any e = true → e.on < ops.size ∧ listed.getD e.on true = true := fun e he hbi => by
        have h1 : e.on < i := (k3 e he).resolve_right (by rw [hbi]; decide)
        have h2 := hall' e (heo ▸ he) hbi
        have h3 : e.on < listed.size := by omega
        exact ⟨by omega, by simpa [h3] using h2⟩
      have hyl : ∀ (j : Nat) (b : Bool), gs.contains (j, b) = true → (∃ e ∈ ops[i].after, e.on = j ∧ Region.binds .any e = true) → yielded ops tm j = some b := fun j b hgc ⟨e, he, he1, he2⟩ => by
          subst he1
          obtain ⟨h1, h2⟩ := hdep e he he2
          have h4 : tm[ds.getD e.on 0]?.getD undef = .bool b := hg (e.on, b) (by simpa using hgc) _ _ _ hf h2
          unfold yielded
          have k1' := (hB' e.on h1).1
          rw [Array.getElem?_eq_getElem h1, Option.bind_some]
          rcases hd : ops[e.on].dst with _ | x
          · rw [hd] at k1'
            exfalso
            have k1' : a0.tmps.size ≤ ds.getD e.on 0 := by simpa using k1'
            rw [Array.getElem?_eq_none (show tm.size ≤ ds.getD e.on 0 by rw [ht]; exact k1')] at h4
            cases h4
          · rw [hd] at k1'
            simp only [Bool.and_eq_true, beq_iff_eq, decide_eq_true_eq] at k1'
            obtain ⟨rfl, hx⟩ := k1'
            replace hx : @LT.lt Nat _ (ds.getD e.on 0) a0.tmps.size := hx
            have hx' : ds.getD e.on 0 < tm.size := by omega
            rw [Option.bind_some, Array.getElem?_eq_getElem hx']
            rw [Array.getElem?_eq_getElem hx'] at h4
            rw [show tm[ds.getD e.on 0] = .bool b from h4]
      have hwt : Region.wanted ops[i] (yielded ops tm) = toldG gs ops[i] := by
        unfold Region.wanted toldG
        rcases hgu : ops[i].guard with _ | ⟨j, b⟩
        · rfl
        · rw [hgu] at k4
          simp only [Bool.and_eq_true, Bool.or_eq_true] at k4
          obtain ⟨e, he, he'⟩ := Array.any_eq_true'.1 k4.2
          obtain ⟨he1, he2⟩ : e.on = j ∧ Region.binds .any e = true := by simpa using he'
          dsimp only
          by_cases hgc : gs.contains (j, b) = true
          · rw [hyl j b hgc ⟨e, he, he1, he2⟩, hgc]
            simp
          · rw [hyl j (!b) (k4.1.resolve_left hgc) ⟨e, he, he1, he2⟩]
            rw [show gs.contains (j, b) = false by simpa using hgc]
            cases b <;> rfl
      have cont : ∀ (v : Value) (w' : World), (ops[i].dst = none → v = undef) → Inv (updB (fun i => listed.getD i true) i) (updV (valAt ds tm) i v) w' → wpAny P .any ops Q fuel (listed.setIfInBounds i true) (Act.put ⟨tm, a0.defers⟩ ops[i].dst v) w' := fun v w' hvn hv => by
        obtain ⟨tm', e1, e2, e3, e4⟩ : ∃ tm', Act.put ⟨tm, a0.defers⟩ ops[i].dst v = ⟨tm', a0.defers⟩ ∧ tm'.size = tm.size ∧ (∀ k < ops.size, valAt ds tm' k = updV (valAt ds tm) i v k) ∧ ∀ t, t ∉ ds → tm'.getD t undef = tm.getD t undef := by
          rcases hd : ops[i].dst with _ | x
          · rw [hd] at k1
            have k1 : a0.tmps.size ≤ ds.getD i 0 := by simpa using k1
            refine ⟨tm, rfl, rfl, fun k hk => ?_, fun _ _ => rfl⟩
            unfold updV
            split
            · rename_i h
              rw [hvn hd, h]
              unfold valAt
              rw [Array.getElem?_eq_none (show tm.size ≤ ds.getD i 0 by omega)]
              rfl
            · rfl
          · rw [hd] at k1
            simp only [Bool.and_eq_true, beq_iff_eq, decide_eq_true_eq] at k1
            obtain ⟨rfl, hx⟩ := k1
            replace hx : @LT.lt Nat _ (ds.getD i 0) a0.tmps.size := hx
            refine ⟨tm.setIfInBounds (ds.getD i 0) v, rfl, by simp, fun k hk => ?_, fun t h => ?_⟩
            · unfold updV valAt
              rw [Array.getElem?_setIfInBounds]
              by_cases e : ds.getD i 0 = ds.getD k 0
              · have : i = k := by
                  rcases k2 k hk e with h | h
                  · exact h
                  · exact absurd hx (Nat.not_lt.2 h)
                subst this
                have hx' : ds.getD i 0 < tm.size := by omega
                rw [if_pos rfl, if_pos hx', if_pos rfl]
                rfl
              · rw [if_neg e, if_neg (fun h => e (by rw [h]))]
            · simp only [Array.getD_eq_getD_getElem?, Array.getElem?_setIfInBounds]
              rw [if_neg (fun h' : ds.getD i 0 = t => h (h' ▸ hmem i hi'))]
        rw [e1]
        refine ih (listed.setIfInBounds i true) tm' w' (by simpa using hs) ?_ (by omega) ?_ (hcong _ _ _ _ _ (fun k hk => ?_) (fun k hk => (e3 k hk).symm) hv)
        · have := count_setB (l := listed) (i := i) (by omega) hb
          omega
        · intro t h
          rw [e4 t h]
          exact hu t h
        · unfold updB
          rw [getD_setB (by omega)]
          by_cases e : k = i
          · rw [if_pos e, if_pos e.symm]
          · rw [if_neg e, if_neg (Ne.symm e)]
      have hst := Each.get hstep (i := i) (o := ops[i]) (by simp [hi'])
      rw [Nat.zero_add] at hst
      unfold wpOp
      rw [Array.getElem?_eq_getElem hi']
      dsimp only
      rw [hwt]
      cases htg : toldG gs ops[i] with
      | false =>
        rw [if_neg (by decide)]
        exact cont undef w (fun _ => rfl) (hst.2 htg tm w _ hf hb fun e he hbi => (hdep e he hbi).2)
      | true =>
        rw [if_pos rfl]
        have hs1 := hst.1 htg Q tm a0.defers w (fun i => listed.getD i true) hf hb (fun e he hbi => (hdep e he hbi).2) (fun x hx => by
          obtain ⟨h5, h6⟩ := hfix x hx
          have := hu x.1 h5
          simp only [Array.getD_eq_getD_getElem?] at this
          rw [this, h6])
        refine .inl (Oper.wp_mono (fun a' w' h' => ?_) hs1)
        obtain ⟨v, rfl, hvn, hv⟩ := h'
        exact cont v w' hvn hv
  exact key ops.size _ a0.tmps _ (by simp) (by simp) rfl (fun _ _ => rfl) (hcong _ _ _ _ _ (fun k hk => by simp [hk]) (fun _ _ => rfl) h0)
theorem wp_region_listS {id : Nat} {a0 : Act} {w0 : World} {ops : Array Oper} (ds : List Nat) (Lf : List (Value → World → Prop)) (R : World → World → Prop) (gs : List (Nat × Bool)) (fix : List (Nat × Value))
    (hm : P.follows .mixedOrders = true) (hB : (invS ops ds a0.tmps.size gs && decide (ds.length = ops.size) && decide (Lf.length = ops.size) && ops.all fun o => o.dst.isSome) = true) (hB2 : ((List.range gs.length).all fun i => decide ((gs.getD i (0, true)).1 < ops.size)) = true) (hRt : ∀ a b c, R a b → R b c → R a c) (hst : ∀ f ∈ Lf, ∀ v w w', f v w → R w w' → f v w')
    (hg : ∀ g ∈ gs, ∀ v w, Lf.getD g.1 noF v w → v = .bool g.2) (h0 : R w0 { w0 with drawn := w0.drawn + 1 }) (hfix : ∀ x ∈ fix, x.1 ∉ ds ∧ a0.tmps[x.1]?.getD undef = x.2)
    (hstep : Each (fun i o => (toldG gs o = true → ∀ (Q : Exit → Act → World → Prop) (tm : Array Value) (df : List Deferred) w, R w0 w → (∀ x ∈ fix, tm[x.1]?.getD undef = x.2) → (∀ j, (o.after.any fun e => e.on == j && Region.binds .any e) = true → Lf.getD j noF (tm[ds.getD j 0]?.getD undef) w) →
      o.wp P ⟨tm, df⟩ w (fun a' w' => ∃ v, a' = Act.put ⟨tm, df⟩ o.dst v ∧ Lf.getD i noF v w' ∧ R w w') Q) ∧ (toldG gs o = false → ∀ w, R w0 w → Lf.getD i noF undef w)) 0 ops.toList)
    (hend : ∀ (vs : Nat → Value) w, R w0 w → (∀ i < ops.size, Lf.getD i noF (vs i) w) → Q .normal ⟨putAll ops.size (fun i => ds.getD i 0) vs a0.tmps, a0.defers⟩ w) : (Code.region id ops true).wp P Q a0 w0 := by
  simp only [Bool.and_eq_true, decide_eq_true_eq] at hB
  obtain ⟨⟨⟨hB1, hB2'⟩, hB3⟩, hB4⟩ := hB
  have hst' : ∀ i v w w', Lf.getD i noF v w → R w w' → Lf.getD i noF v w' := fun i v w w' h F => by
    by_cases hi : i < Lf.length
    · have e : Lf.getD i noF = Lf[i] := by simp [hi]
      rw [e] at h ⊢
      exact hst _ (List.getElem_mem hi) v w w' h F
    · have e : Lf.getD i noF = noF := by simp [Nat.le_of_not_lt hi]
      rw [e] at h
      exact h.elim
  have hgl : ∀ g ∈ gs, g.1 < ops.size := fun g hg' => by
    obtain ⟨i, hi, e⟩ := List.getElem_of_mem hg'
    have := List.all_eq_true.1 hB2 i (List.mem_range.2 hi)
    rw [decide_eq_true_eq] at this
    rw [← e]
    simpa [hi] using this
  have hafter : ∀ i (h : i < ops.size), ∀ e ∈ ops[i].after, Region.binds .any e = true → e.on < ops.size := fun i h e he hbi => by
    unfold invS at hB1
    have h1 := List.all_eq_true.1 hB1 i (List.mem_range.2 h)
    rw [Array.getElem?_eq_getElem h] at h1
    simp only [Bool.and_eq_true, Bool.or_eq_true, Bool.not_eq_true', decide_eq_true_eq, Array.all_eq_true_iff_forall_mem] at h1
    have : e.on < i := (h1.1.2 e he).resolve_right (by rw [hbi]; decide)
    omega
  refine wp_region_skip ds (fun L vs w => R w0 w ∧ ∀ j, j < ops.size → L j = true → Lf.getD j noF (vs j) w) gs fix hm (by simp only [Bool.and_eq_true, decide_eq_true_eq]; exact ⟨hB1, hB2'⟩) (fun L L' vs vs' w hL hv h => ⟨h.1, fun j hj hl => by
    rw [← hv j hj]
    exact h.2 j hj (by rw [hL j hj]; exact hl)⟩) (fun g hg' L vs w h hl => hg g hg' _ w (h.2 g.1 (hgl g hg') hl)) ⟨h0, fun j _ h => by cases h⟩ hfix ?_ (fun vs w h => hend vs w h.1 fun i hi => h.2 i hi rfl)
  refine Each.mk _ _ fun i o ho => ?_
  have hi : i < ops.size := by
    rcases Nat.lt_or_ge i ops.size with h | h
    · exact h
    · rw [List.getElem?_eq_none (by simpa using h)] at ho; cases ho
  have hoe : ops[i] = o := by
    have : ops.toList[i]? = some ops[i] := by simp [hi]
    rw [this] at ho
    exact Option.some.inj ho
  refine ⟨?_, ?_⟩
  · intro htg Q' tm df w L hI hl hd hu
    have h1 := (Each.get hstep ho).1 htg Q' tm df w hI.1 hu fun j hj => by
      obtain ⟨e, he, he'⟩ := Array.any_eq_true'.1 hj
      simp only [Bool.and_eq_true, beq_iff_eq] at he'
      obtain ⟨rfl, hb⟩ := he'
      exact hI.2 e.on (hafter i hi e (hoe ▸ he) hb) (hd e he hb)
    rw [Nat.zero_add] at h1 ⊢
    refine Oper.wp_mono (fun a' w' h' => ?_) h1
    obtain ⟨v, rfl, hv, hR'⟩ := h'
    refine ⟨v, rfl, fun hn => ?_, hRt _ _ _ hI.1 hR', fun j hj hL => ?_⟩
    · exfalso
      have := Array.all_eq_true_iff_forall_mem.1 hB4 ops[i] (Array.getElem_mem hi)
      rw [hoe, hn] at this
      cases this
    · unfold updV
      by_cases e : j = i
      · subst e
        rw [if_pos rfl]
        exact hv
      · rw [if_neg e]
        refine hst' j _ _ _ (hI.2 j hj ?_) hR'
        unfold updB at hL
        rw [if_neg e] at hL
        exact hL
  · intro htg tm w L hI hl hd
    have h1 := (Each.get hstep ho).2 htg w hI.1
    rw [Nat.zero_add] at h1 ⊢
    refine ⟨hI.1, fun j hj hL => ?_⟩
    unfold updV
    by_cases e : j = i
    · subst e
      rw [if_pos rfl]
      exact h1
    · rw [if_neg e]
      refine hI.2 j hj ?_
      unfold updB at hL
      rw [if_neg e] at hL
      exact hL
end
end Go.Proofs.Ytldmjpnldgekaaa
end
section
namespace Go.Proofs.Ytldmjpnldgekaaa
open Go.RowKit
namespace A
def small (m : Mac) : Bool := decide (m.next.length ≤ 30) && decide (m.fin.length ≤ 40) && decide (m.letters ≤ 8)
end A
set_option maxRecDepth 100000 in
set_option maxHeartbeats 4000000 in
theorem small_any {w : World} {P : Nat → Prop} {v : Value} {m : A.Mac} (h : MachAt w P v m) (hs : Sized m) : Calls Try.prog 6 #[v] w fun e w' => e = .returned (.bool (A.small m)) ∧ Frm (fun _ => False) w w' := by
  obtain ⟨A1, c1, A2, c2, rfl⟩ := h.form
  obtain ⟨s1, s2, _⟩ := hs
  obtain ⟨lt, st, nx, fn⟩ := m
  simp only at *
  unfold maxLen at s1 s2
  have bx := Blk.new w 25 #[.int .i64 lt, .int .i64 st, .slice A1 nx.length c1, .slice A2 fn.length c2]
  have x0 := bx.cell 0
  have x1 := bx.cell 1
  have x2 := bx.cell 2
  have x3 := bx.cell 3
  have F0 : Hid (Frm (fun _ => False) w (w.alloc (.cells #[.int .i64 lt, .int .i64 st, .slice A1 nx.length c1, .slice A2 fn.length c2] 25))) := (Frm.refl _ w).alloc _
  clear bx h
  have HX : Hid (A.small ⟨lt, st, nx, fn⟩ = (decide (nx.length ≤ 30) && decide (fn.length ≤ 40) && decide (lt ≤ 8))) := rfl
  by_cases a1 : nx.length ≤ 30
  · by_cases a2 : fn.length ≤ 40
    · by_cases a3 : lt ≤ 8
      · go_enter Try.func6, Try.ntmps6
        go_wp2_with fail
        go_ret
        exact ⟨ret_bool (by rw [HX.out]; simp [a1, a2, a3]), F0.out⟩
      · go_enter Try.func6, Try.ntmps6
        go_wp2_with fail
        go_ret
        exact ⟨ret_bool (by rw [HX.out]; simp [a1, a2, a3]), F0.out⟩
    · go_enter Try.func6, Try.ntmps6
      go_wp2_with fail
      go_ret
      exact ⟨ret_bool (by rw [HX.out]; simp [a1, a2]), F0.out⟩
  · go_enter Try.func6, Try.ntmps6
    go_wp2_with fail
    go_ret
    exact ⟨ret_bool (by rw [HX.out]; simp [a1]), F0.out⟩
end Go.Proofs.Ytldmjpnldgekaaa
end
section
namespace Go.Proofs.Ytldmjpnldgekaaa
open Go.ChangeShapes Go.WideShapes Go.ChangeAt Go.RowKit Go.Deep Go.Joins
theorem cellsR_ints : Try.prog.cellsOf 37 = 1 := by kernel_rfl
theorem cellsR_int : Try.prog.cellsOf 3 = 1 := by kernel_rfl
theorem cellsR_bool : Try.prog.cellsOf 4 = 1 := by kernel_rfl
theorem cellsR_pair : Try.prog.cellsOf 57 = 2 := by kernel_rfl
theorem cellsR_mach : Try.prog.cellsOf 25 = 4 := by kernel_rfl
theorem addr_any {g o : Nat} (k : Nat) : (⟨g, o, none⟩ : Addr).add k = ⟨g, o + k, none⟩ := by
  unfold Addr.add
  split
  · subst_vars; simp
  · rfl
theorem at_spot {w : World} {a : Addr} {v : Value} (h : w.cell? (a.add 0) = some v) : ∃ g o, a = ⟨g, o, none⟩ := by
  have : (a.add 0) = a := by simp [Addr.add]
  rw [this] at h
  exact ⟨a.block, a.off, by have := World.cell?_spot h; cases a; simp_all⟩
section
variable {H : Type} {enc : TypeId × Value → H} {W : World} {held : Bool} {n : Nat} {v : Value} {y : DataW H × List MemPlace}
theorem ints_of {base : Nat} (h : DataW.trod enc Try.prog W base (fun _ => true) held n 37 [v] = some y) : ∃ l, Ints W (fun _ => True) v l ∧ l.length ≤ maxLen := by
  rcases open_ints Try.underlying37 Try.underlying3 cellsR_int h with ⟨hc, _⟩ | ⟨a, len, cap, zs, hc, _, hl, hm, hz, _, hcell, _⟩
  · injection hc with hc
    subst hc
    exact ⟨[], ⟨none, 0, rfl, fun k hk => absurd hk (by simp)⟩, by simp⟩
  · injection hc with hc
    subst hc
    simp only [if_true] at hz
    have hlen : (zs.take len).length = len := by rw [List.length_take]; omega
    refine ⟨zs.take len, ⟨some a, cap, by rw [hlen], fun k hk => ?_⟩, by omega⟩
    rw [hlen] at hk
    obtain ⟨g, o, rfl⟩ := at_spot (hcell 0 (by omega))
    refine ⟨g, o, rfl, trivial, ?_⟩
    have := hcell k (by omega)
    rw [addr_any] at this
    rw [this]
    simp [show k < zs.length by omega]
theorem bools_of {base : Nat} (h : DataW.trod enc Try.prog W base (fun _ => true) held n 23 [v] = some y) : ∃ l, Bools W (fun _ => True) v l ∧ l.length ≤ maxLen := by
  rcases open_slice1 Try.underlying23 cellsR_bool h with ⟨hc, _⟩ | ⟨a, len, cap, m, q, V, D, Pl, hc, _, hl, hm, hmm, _, hx⟩
  · injection hc with hc
    subst hc
    exact ⟨[], ⟨none, 0, rfl, fun k hk => absurd hk (by simp)⟩, by simp⟩
  · injection hc with hc
    subst hc
    simp only [if_true] at hmm
    have each : ∀ i, ∃ b : Bool, i < m → V i = .bool b := fun i => by
      by_cases hi : i < m
      · obtain ⟨b, hb, _⟩ := DataW.trod_bool Try.underlying4 (hx i hi).2
        exact ⟨b, fun _ => by injection hb⟩
      · exact ⟨false, fun h => absurd h hi⟩
    obtain ⟨B, hB⟩ := Classical.axiomOfChoice each
    refine ⟨(List.range len).map B, ⟨some a, cap, by simp, fun k hk => ?_⟩, by simp; omega⟩
    have hk' : k < len := by simpa using hk
    obtain ⟨g, o, rfl⟩ := at_spot (hx 0 (by omega)).1
    refine ⟨g, o, rfl, trivial, ?_⟩
    have := (hx k (by omega)).1
    rw [addr_any] at this
    rw [this, hB k (by omega)]
    simp
theorem rows_of {base : Nat} (h : DataW.trod enc Try.prog W base (fun _ => true) held n 22 [v] = some y) : ∃ l, Rows2 W (fun _ => True) v l ∧ l.length ≤ maxLen ∧ ∀ r ∈ l, r.length ≤ maxLen := by
  rcases open_int_rows Try.underlying22 Try.underlying37 Try.underlying3 cellsR_ints cellsR_int h with ⟨hc, _⟩ | ⟨a, len, cap, A, L, C, Z, hc, _, hl, hm, _, hx⟩
  · injection hc with hc
    subst hc
    exact ⟨[], ⟨none, 0, rfl, fun k hk => absurd hk (by simp)⟩, by simp, fun _ h => by cases h⟩
  · injection hc with hc
    subst hc
    have hlr : ∀ r, r < cap → ((Z r).take (L r)).length = L r := fun r hr => by
      obtain ⟨_, h1, _, h2, _⟩ := hx r hr
      rw [List.length_take]
      omega
    refine ⟨(List.range len).map fun r => (Z r).take (L r), ⟨some a, cap, by simp, fun k hk => ?_⟩, by simp; omega, fun r hr => ?_⟩
    · have hk' : k < len := by simpa using hk
      obtain ⟨g, o, rfl⟩ := at_spot (hx 0 (by omega)).1
      obtain ⟨h0, h1, h2, h3, _, h5, h6⟩ := hx k (by omega)
      rw [addr_any] at h0
      refine ⟨g, o, _, rfl, trivial, h0, A k, C k, ?_, fun c hc => ?_⟩
      · simp only [List.getElem_map, List.getElem_range]
        rw [hlr k (by omega)]
      · simp only [List.getElem_map, List.getElem_range] at hc
        rw [hlr k (by omega)] at hc
        rcases hA : A k with _ | a'
        · have := h5 hA; omega
        · obtain ⟨_, h7⟩ := h6 a' hA
          obtain ⟨g', o', rfl⟩ := at_spot (h7 0 (by omega))
          have := h7 c (by omega)
          rw [addr_any] at this
          refine ⟨g', o', rfl, trivial, ?_⟩
          rw [this]
          simp [show c < (Z k).length by omega]
    · obtain ⟨i, hi, rfl⟩ := List.mem_map.1 hr
      have hi' := List.mem_range.1 hi
      rw [hlr i (by omega)]
      obtain ⟨_, h1, h2, _⟩ := hx i (by omega)
      omega
theorem pairs_of {base : Nat} (h : DataW.trod enc Try.prog W base (fun _ => true) held n 44 [v] = some y) : ∃ l, Prs2 W (fun _ => True) v l ∧ l.length ≤ maxLen := by
  rcases open_slice_pairs Try.underlying44 Try.underlying57 cellsR_pair rfl rfl cellsR_int cellsR_int h with ⟨hc, _⟩ | ⟨a, len, cap, m, q, V0, V1, D0, D1, P0, P1, hc, _, hl, hm, hmm, _, hx⟩
  · injection hc with hc
    subst hc
    exact ⟨[], ⟨none, 0, rfl, fun k hk => absurd hk (by simp)⟩, by simp⟩
  · injection hc with hc
    subst hc
    simp only [if_true] at hmm
    have each : ∀ i, ∃ p : A.Pr, i < m → V0 i = .int .i64 p.1 ∧ V1 i = .int .i64 p.2 := fun i => by
      by_cases hi : i < m
      · obtain ⟨x, hx0, _⟩ := DataW.trod_int Try.underlying3 (hx i hi).2.2.1
        obtain ⟨x', hx1, _⟩ := DataW.trod_int Try.underlying3 (hx i hi).2.2.2
        exact ⟨(x, x'), fun _ => ⟨by injection hx0, by injection hx1⟩⟩
      · exact ⟨(0, 0), fun h => absurd h hi⟩
    obtain ⟨B, hB⟩ := Classical.axiomOfChoice each
    refine ⟨(List.range len).map B, ⟨some a, cap, by simp, fun k hk => ?_⟩, by simp; omega⟩
    have hk' : k < len := by simpa using hk
    obtain ⟨g, o, rfl⟩ := at_spot (by have := (hx 0 (by omega)).1; rwa [Nat.zero_mul] at this)
    obtain ⟨h0, h1, _⟩ := hx k (by omega)
    rw [addr_any] at h0 h1
    refine ⟨g, o, rfl, trivial, ?_, ?_⟩
    · rw [h0, (hB k (by omega)).1]; simp
    · rw [Nat.add_assoc, h1, (hB k (by omega)).2]; simp
set_option maxRecDepth 100000 in
theorem mach_of {base b0 : Nat} {r : Reach} {d : DataW H} {p : List MemPlace} (hv : Value.okWide Try.prog W r b0 25 v) (h : DataW.Trod enc Try.prog W base (fun _ => true) held 25 v d p) : ∃ m, MachAt W (fun _ => True) v m ∧ Sized m ∧ (Lit.int .i64 m.letters).wf = true ∧ (Lit.int .i64 m.start).wf = true := by
  obtain ⟨v0, v1, v2, v3, y0, y1, y2, y3, q, rfl, _, _, h0, h1, h2, h3⟩ := open_agg4 Try.underlying25 (by kernel_rfl) cellsR_mach hv h
  obtain ⟨x0, e0, _, wx0⟩ := DataW.trod_int Try.underlying3 h0
  obtain ⟨x1, e1, _, wx1⟩ := DataW.trod_int Try.underlying3 h1
  obtain ⟨l2, m2, s2, t2⟩ := rows_of h2
  obtain ⟨l3, m3, s3⟩ := bools_of h3
  injection e0 with e0
  injection e1 with e1
  subst e0 e1
  exact ⟨⟨x0, x1, l2, l3⟩, ⟨v2, v3, rfl, m2, m3⟩, ⟨s2, s3, t2⟩, wx0, wx1⟩
end
end Go.Proofs.Ytldmjpnldgekaaa
end
section
namespace Go.Proofs.Ytldmjpnldgekaaa
open Go.ChangeShapes Go.WideShapes Go.ChangeAt Go.RowKit Go.Deep Go.Joins
theorem bytes_ints : Try.prog.bytesOf 37 = 24 := by kernel_rfl
theorem bytes_int : Try.prog.bytesOf 3 = 8 := by kernel_rfl
theorem bytes_bool : Try.prog.bytesOf 4 = 1 := by kernel_rfl
theorem weightsAll_mem {H : Type} {P : Program} {e : TypeId} : ∀ {l : List (DataW H)} {d : DataW H} {n : Nat}, d ∈ l → n ∈ d.weights P e → n ∈ DataW.weightsAll P e l
  | [], _, _, h, _ => by cases h
  | a :: l, d, n, h, hn => by
    simp only [DataW.weightsAll, List.mem_append]
    rcases List.mem_cons.1 h with rfl | h
    · exact .inl hn
    · exact .inr (weightsAll_mem h hn)
/-- What a datum weighs is within the reach. -/
def Light {H : Type} (t : TypeId) (d : DataW H) : Prop := ∀ n ∈ d.weights Try.prog t, n ≤ reachBytes
theorem Light.slice {H : Type} {t e : TypeId} {es sp : List (DataW H)} (h : Light t (.slice es sp)) (ht : Try.prog.underlying t = some (.slice e)) : (es.length + sp.length) * Try.prog.bytesOf e ≤ reachBytes ∧ ∀ d ∈ es, Light e d := by
  refine ⟨h _ (by simp [DataW.weights, ht]), fun d hd n hn => h n ?_⟩
  simp only [DataW.weights, ht, List.mem_cons, List.mem_append]
  exact .inr (.inl (weightsAll_mem hd hn))
section
variable {H : Type} {enc : TypeId × Value → H} {W : World} {held : Bool} {n : Nat} {v : Value} {y : DataW H × List MemPlace}
theorem ints_light {base : Nat} (h : DataW.trod enc Try.prog W base (fun _ => true) held n 37 [v] = some y) (hw : Light 37 y.1) : ∃ l, Ints W (fun _ => True) v l ∧ l.length * 8 ≤ reachBytes := by
  rcases open_ints Try.underlying37 Try.underlying3 cellsR_int h with ⟨hc, _⟩ | ⟨a, len, cap, zs, hc, _, hl, hm, hz, hy, hcell, _⟩
  · injection hc with hc
    subst hc
    exact ⟨[], ⟨none, 0, rfl, fun k hk => absurd hk (by simp)⟩, by simp⟩
  · injection hc with hc
    subst hc
    simp only [if_true] at hz
    rw [hy] at hw
    have hwt := (hw.slice Try.underlying37).1
    rw [bytes_int] at hwt
    simp only [lits, List.length_map, List.length_take, List.length_drop] at hwt
    have hlen : (zs.take len).length = len := by rw [List.length_take]; omega
    refine ⟨zs.take len, ⟨some a, cap, by rw [hlen], fun k hk => ?_⟩, by rw [hlen]; omega⟩
    rw [hlen] at hk
    obtain ⟨g, o, rfl⟩ := at_spot (hcell 0 (by omega))
    refine ⟨g, o, rfl, trivial, ?_⟩
    have := hcell k (by omega)
    rw [addr_any] at this
    rw [this]
    simp [show k < zs.length by omega]
theorem bools_light {base : Nat} (h : DataW.trod enc Try.prog W base (fun _ => true) held n 23 [v] = some y) (hw : Light 23 y.1) : ∃ l, Bools W (fun _ => True) v l ∧ l.length ≤ reachBytes := by
  rcases open_slice1 Try.underlying23 cellsR_bool h with ⟨hc, _⟩ | ⟨a, len, cap, m, q, V, D, Pl, hc, _, hl, hm, hmm, hy, hx⟩
  · injection hc with hc
    subst hc
    exact ⟨[], ⟨none, 0, rfl, fun k hk => absurd hk (by simp)⟩, by simp⟩
  · injection hc with hc
    subst hc
    simp only [if_true] at hmm
    rw [hy] at hw
    have hwt := (hw.slice Try.underlying23).1
    rw [bytes_bool] at hwt
    simp only [List.length_map, List.length_range] at hwt
    have each : ∀ i, ∃ b : Bool, i < m → V i = .bool b := fun i => by
      by_cases hi : i < m
      · obtain ⟨b, hb, _⟩ := DataW.trod_bool Try.underlying4 (hx i hi).2
        exact ⟨b, fun _ => by injection hb⟩
      · exact ⟨false, fun h => absurd h hi⟩
    obtain ⟨B, hB⟩ := Classical.axiomOfChoice each
    refine ⟨(List.range len).map B, ⟨some a, cap, by simp, fun k hk => ?_⟩, by simp; omega⟩
    have hk' : k < len := by simpa using hk
    obtain ⟨g, o, rfl⟩ := at_spot (hx 0 (by omega)).1
    refine ⟨g, o, rfl, trivial, ?_⟩
    have := (hx k (by omega)).1
    rw [addr_any] at this
    rw [this, hB k (by omega)]
    simp
theorem rows_light {base : Nat} (h : DataW.trod enc Try.prog W base (fun _ => true) held n 22 [v] = some y) (hw : Light 22 y.1) : ∃ l, Rows2 W (fun _ => True) v l ∧ l.length * 24 ≤ reachBytes ∧ ∀ r ∈ l, r.length * 8 ≤ reachBytes := by
  rcases open_int_rows Try.underlying22 Try.underlying37 Try.underlying3 cellsR_ints cellsR_int h with ⟨hc, _⟩ | ⟨a, len, cap, A, L, C, Z, hc, _, hl, hm, hy, hx⟩
  · injection hc with hc
    subst hc
    exact ⟨[], ⟨none, 0, rfl, fun k hk => absurd hk (by simp)⟩, by simp, fun _ h => by cases h⟩
  · injection hc with hc
    subst hc
    rw [hy] at hw
    obtain ⟨hwt, hwr⟩ := hw.slice Try.underlying22
    rw [bytes_ints] at hwt
    simp only [List.length_map, List.length_range] at hwt
    have hlr : ∀ r, r < cap → ((Z r).take (L r)).length = L r := fun r hr => by
      obtain ⟨_, h1, _, h2, _⟩ := hx r hr
      rw [List.length_take]
      omega
    refine ⟨(List.range len).map fun r => (Z r).take (L r), ⟨some a, cap, by simp, fun k hk => ?_⟩, by simp; omega, fun r hr => ?_⟩
    · have hk' : k < len := by simpa using hk
      obtain ⟨g, o, rfl⟩ := at_spot (hx 0 (by omega)).1
      obtain ⟨h0, h1, h2, h3, _, h5, h6⟩ := hx k (by omega)
      rw [addr_any] at h0
      refine ⟨g, o, _, rfl, trivial, h0, A k, C k, ?_, fun c hc => ?_⟩
      · simp only [List.getElem_map, List.getElem_range]
        rw [hlr k (by omega)]
      · simp only [List.getElem_map, List.getElem_range] at hc
        rw [hlr k (by omega)] at hc
        rcases hA : A k with _ | a'
        · have := h5 hA; omega
        · obtain ⟨_, h7⟩ := h6 a' hA
          obtain ⟨g', o', rfl⟩ := at_spot (h7 0 (by omega))
          have := h7 c (by omega)
          rw [addr_any] at this
          refine ⟨g', o', rfl, trivial, ?_⟩
          rw [this]
          simp [show c < (Z k).length by omega]
    · obtain ⟨i, hi, rfl⟩ := List.mem_map.1 hr
      have hi' := List.mem_range.1 hi
      rw [hlr i (by omega)]
      obtain ⟨_, h1, h2, h3, _, h5, _⟩ := hx i (by omega)
      have hli := hwr _ (List.mem_map.2 ⟨i, List.mem_range.2 hi', rfl⟩)
      rcases hA : A i with _ | a'
      · have := h5 hA
        have e0 : L i = 0 := by omega
        rw [e0]
        exact Nat.zero_le _
      · rw [hA] at hli
        have := (Light.slice hli Try.underlying37).1
        rw [bytes_int] at this
        simp only [lits, List.length_map, List.length_take, List.length_drop] at this
        omega
set_option maxRecDepth 100000 in
theorem mach_light {base b0 : Nat} {r : Reach} {d : DataW H} {p : List MemPlace} (hv : Value.okWide Try.prog W r b0 25 v) (h : DataW.Trod enc Try.prog W base (fun _ => true) held 25 v d p) (hw : Light 25 d) : ∃ m, MachAt W (fun _ => True) v m ∧ Sized m ∧ m.fin.length ≤ 140737488355328 ∧ ∀ row ∈ m.next, row.length * 8 ≤ 140737488355328 := by
  obtain ⟨v0, v1, v2, v3, y0, y1, y2, y3, q, rfl, rfl, _, h0, h1, h2, h3⟩ := open_agg4 Try.underlying25 (by kernel_rfl) cellsR_mach hv h
  have hf : ∀ (j : Nat) (t : TypeId) (d : DataW H), [3, 3, 22, 23][j]? = some t → [y0.1, y1.1, y2.1, y3.1][j]? = some d → Light t d := fun j t d ht hd n hn => hw n (by
    simp only [DataW.weights, Try.underlying25]
    exact DataW.weights_mem_each (j := j) ht hd n hn)
  obtain ⟨x0, e0, _, wx0⟩ := DataW.trod_int Try.underlying3 h0
  obtain ⟨x1, e1, _, wx1⟩ := DataW.trod_int Try.underlying3 h1
  obtain ⟨l2, m2, s2, t2⟩ := rows_light h2 (hf 2 _ _ rfl rfl)
  obtain ⟨l3, m3, s3⟩ := bools_light h3 (hf 3 _ _ rfl rfl)
  injection e0 with e0
  injection e1 with e1
  subst e0 e1
  unfold reachBytes at s2 s3 t2
  exact ⟨⟨x0, x1, l2, l3⟩, ⟨v2, v3, rfl, m2, m3⟩, ⟨show l2.length ≤ maxLen by unfold maxLen; omega, show l3.length ≤ maxLen by unfold maxLen; omega, fun row hr => by have := t2 row hr; unfold maxLen; omega⟩, show l3.length ≤ 140737488355328 by omega, fun row hr => by have := t2 row hr; omega⟩
end
end Go.Proofs.Ytldmjpnldgekaaa
end
section

end
