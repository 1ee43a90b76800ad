/- SameTypes, SameNode, SameNodes, SameDecls of the reference, at the same lists: true. SameDecls of the reference at the same lists: true. SameNode and SameNodes of the reference at the same lists: true. kept and declared: copies that share no memory. Contracts of the program's functions, with no condition beyond what each theorem states. -/
import Derived.Test.YtpdbkdcdlafobaaGreatDoorC06
import Derived.Test.YtpdbkdcdlafobaaGreatDoorC14
import Derived.Deep.QuietTactic
import Derived.BigQuiet
import Derived.Test.YtpdbkdcdlafobaaGreatDoorC19
import Derived.StillTailTactics
import Derived.Test.YtpdbkdcdlafobaaGreatDoorC24
import Derived.Laws.AppendOwnNone
section
namespace Go.Proofs.YtpdbkdcdlafobaaGreatDoor
open Go.RowKit
theorem tys_cells {w : World} {lo : Nat} {v : Value} {l : List Int} (h : Tys w lo v l) : ∃ A c, v = .slice A l.length c ∧ ∀ k (hk : k < l.length), ∃ g, A = some ⟨g, 0, none⟩ ∧ w.cell? ⟨g, k, none⟩ = some (.int .i64 l[k]) := by
  have hc := @World.ownsRow.cells _ _ _ _ _ _ _ h
  rcases h.2 with ⟨rfl, hn⟩ | ⟨g, cap, cur, rfl, _⟩
  · exact ⟨none, 0, by rw [hn], fun k hk => by omega⟩
  · refine ⟨_, cap, rfl, fun k hk => ⟨g, rfl, ?_⟩⟩
    have := hc rfl k (.int .i64 l[k]) (by simp [ints, hk])
    rwa [add_zero_off] at this
set_option maxRecDepth 100000 in
set_option maxHeartbeats 2000000 in
theorem same_types {w : World} {lo lo' : Nat} {v v' : Value} {l : List Int} (h : Tys w lo v l) (h' : Tys w lo' v' l) (hn : l.length ≤ 1000) :
    Calls Tryz.prog 34 #[v, v'] w fun e w' => e = .returned (.bool true) ∧ ∃ m, w' = w.drewN m := by
  obtain ⟨A, c, rfl, hA⟩ := tys_cells h
  obtain ⟨A', c', rfl, hA'⟩ := tys_cells h'
  have HA := Lib.hid hA
  have HA' := Lib.hid hA'
  clear h h' hA hA'
  go_enter Tryz.func34, Tryz.ntmps34
  go_wp2_with fail
  go_loopg [5] (l.length + 1) (fun n i wr => ∃ k : Nat, k ≤ l.length ∧ n = l.length + 1 - k ∧ i = .int .i64 (k : Int) ∧ ∃ m, wr = w.drewN m)
  case atStart => exact ⟨0, Nat.zero_le _, rfl, rfl, 0, rfl⟩
  case round =>
    obtain ⟨k, hk, rfl, rfl, m, rfl⟩ := hrel
    by_cases hlt : k < l.length
    · obtain ⟨g, hg, c0⟩ := HA.out k hlt
      obtain ⟨g', hg', c0'⟩ := HA'.out k hlt
      subst hg hg'
      have hlt' : (k : Int) < (l.length : Int) := by omega
      go_wp2_with fail
      go_region
      go_wp2_with fail
      go_roundg (l.length + 1 - (k + 1))
      case measure => omega
      case rel => exact ⟨k + 1, by omega, rfl, by go_num, m + 1, rfl⟩
    · have hlt' : ¬ (k : Int) < (l.length : Int) := by omega
      go_wp2_with fail
      go_ret
      exact ⟨rfl, m, rfl⟩
end Go.Proofs.YtpdbkdcdlafobaaGreatDoor
end
section
namespace Go.Proofs.YtpdbkdcdlafobaaGreatDoor
open Go.RowKit
theorem Tys.drewN {w : World} {lo : Nat} {v : Value} {l : List Int} (h : Tys w lo v l) (q : Nat) : Tys (w.drewN q) lo v l := h
set_option maxRecDepth 100000 in
set_option maxHeartbeats 2000000 in
theorem same_decls {w : World} {lo lo' : Nat} {v v' : Value} {ds : List L.Decl} (h : Decls w lo v ds) (h' : Decls w lo' v' ds) (hn : ds.length ≤ 1000) (ha : ∀ d ∈ ds, d.args.length ≤ 1000) :
    Calls Tryz.prog 16 #[v, v'] w fun e w' => e = .returned (.bool true) ∧ Frm (fun _ => False) w w' := by
  obtain ⟨A, c, rfl, hA⟩ := dls_cells (h.keep (Nat.zero_le _) fun _ _ _ => rfl)
  obtain ⟨A', c', rfl, hA'⟩ := dls_cells (h'.keep (Nat.zero_le _) fun _ _ _ => rfl)
  have HA := Lib.hid hA
  have HA' := Lib.hid hA'
  have HG := Lib.hid ha
  clear h h' hA hA' ha
  go_enter Tryz.func16, Tryz.ntmps16
  go_wp2_with fail
  go_loopg [5] (ds.length + 1) (fun n i wr => ∃ k : Nat, k ≤ ds.length ∧ n = ds.length + 1 - k ∧ i = .int .i64 (k : Int) ∧ Frm (fun _ => False) w wr)
  case atStart => exact ⟨0, Nat.zero_le _, rfl, rfl, Frm.refl _ _⟩
  case round =>
    obtain ⟨k, hk, rfl, rfl, hf⟩ := hrel
    by_cases hlt : k < ds.length
    · obtain ⟨g, Aa, ca, hg, c0, c1, c2, ht⟩ := HA.out k hlt
      obtain ⟨g', Aa', ca', hg', c0', c1', c2', ht'⟩ := HA'.out k hlt
      subst hg hg'
      have hal := HG.out _ (List.getElem_mem hlt)
      have HT := Lib.hid (fun q => Tys.drewN (hf.row ht (fun _ _ h => h) (Nat.le_refl _)) q)
      have HT' := Lib.hid (fun q => Tys.drewN (hf.row ht' (fun _ _ h => h) (Nat.le_refl _)) q)
      have d0 := hf.cell id c0
      have d1 := hf.cell id c1
      have d2 := hf.cell id c2
      have d0' := hf.cell id c0'
      have d1' := hf.cell id c1'
      have d2' := hf.cell id c2'
      have HF := Lib.hid (fun q => hf.drewN q)
      have hlt' : (k : Int) < (ds.length : Int) := by omega
      generalize ds[k] = d at *
      clear ht ht' c0 c1 c2 c0' c1' c2' hf
      go_wp2_with fail
      go_quiet ((go_at_call 34; exact Calls.quiet_of (same_types (by exact HT.out _) (by exact HT'.out _) hal)))
      go_wp2_with fail
      go_roundg (ds.length + 1 - (k + 1))
      case measure => omega
      case rel => exact ⟨k + 1, by omega, rfl, by go_num, HF.out _⟩
    · have hlt' : ¬ (k : Int) < (ds.length : Int) := by omega
      go_wp2_with fail
      go_ret
      exact ⟨rfl, hf⟩
end Go.Proofs.YtpdbkdcdlafobaaGreatDoor
end
section
namespace Go.Proofs.YtpdbkdcdlafobaaGreatDoor
open Go.RowKit
def nodeV (d : L.Nd) (pv kv : Value) : Value := .agg #[.int .i64 d.kind, .int .i64 d.type, .string (str d.name), .int .i64 d.value, pv, .int .i64 d.result, kv]
theorem prs_cells2 {w : World} {lo : Nat} {v : Value} {l : List (L.Bytes × Int)} (h : w.ownsRow lo 49 2 v l.length (prs l)) : ∃ A c, v = .slice A l.length c ∧ ∀ k (hk : k < l.length), ∃ g, A = some ⟨g, 0, none⟩ ∧ w.cell? ⟨g, k * 2, none⟩ = some (.string (str l[k].1)) ∧ w.cell? ⟨g, k * 2 + 1, none⟩ = some (.int .i64 l[k].2) := by
  have hc := @World.ownsRow.cells _ _ _ _ _ _ _ h
  rcases h.2 with ⟨rfl, hn⟩ | ⟨g, cap, cur, rfl, _⟩
  · exact ⟨none, 0, by rw [hn], fun k hk => by omega⟩
  · refine ⟨_, cap, rfl, fun k hk => ⟨g, rfl, ?_, ?_⟩⟩
    · have := hc rfl (k * 2) _ (prs_at hk).1
      rwa [add_zero_off] at this
    · have := hc rfl (k * 2 + 1) _ (prs_at hk).2
      rwa [add_zero_off] at this
theorem nats_cells {w : World} {lo : Nat} {v : Value} {l : List Nat} (h : w.ownsRow lo 3 1 v l.length (nats l)) : ∃ A c, v = .slice A l.length c ∧ ∀ k (hk : k < l.length), ∃ g, A = some ⟨g, 0, none⟩ ∧ w.cell? ⟨g, k, none⟩ = some (.int .i64 (l[k] : Int)) := by
  have hc := @World.ownsRow.cells _ _ _ _ _ _ _ h
  rcases h.2 with ⟨rfl, hn⟩ | ⟨g, cap, cur, rfl, _⟩
  · exact ⟨none, 0, by rw [hn], fun k hk => by omega⟩
  · refine ⟨_, cap, rfl, fun k hk => ⟨g, rfl, ?_⟩⟩
    have := hc rfl k (.int .i64 (l[k] : Int)) (by simp [nats, hk])
    rwa [add_zero_off] at this
set_option maxRecDepth 100000 in
set_option maxHeartbeats 2000000 in
theorem same_node {w : World} {lo lo' : Nat} {d : L.Nd} {pv kv pv' kv' : Value} (hp : w.ownsRow lo 49 2 pv d.params.length (prs d.params)) (hk : w.ownsRow lo 3 1 kv d.kids.length (nats d.kids))
    (hp' : w.ownsRow lo' 49 2 pv' d.params.length (prs d.params)) (hk' : w.ownsRow lo' 3 1 kv' d.kids.length (nats d.kids)) (h1 : d.params.length ≤ 1000) (h2 : d.kids.length ≤ 1000000) :
    Calls Tryz.prog 33 #[nodeV d pv kv, nodeV d pv' kv'] w fun e w' => e = .returned (.bool true) ∧ Frm (fun _ => False) w w' := by
  obtain ⟨A, c, rfl, hA⟩ := prs_cells2 hp
  obtain ⟨A', c', rfl, hA'⟩ := prs_cells2 hp'
  obtain ⟨B, e, rfl, hB⟩ := nats_cells hk
  obtain ⟨B', e', rfl, hB'⟩ := nats_cells hk'
  obtain ⟨kd, ty, nm, vl, ps, rs, ks⟩ := d
  dsimp only [nodeV] at *
  have HA := Lib.hid hA
  have HA' := Lib.hid hA'
  have HB := Lib.hid hB
  have HB' := Lib.hid hB'
  clear hp hk hp' hk' hA hA' hB hB'
  go_enter Tryz.func33, Tryz.ntmps33
  have bx := (Blk.new w 47 #[.int .i64 kd, .int .i64 ty, .string (str nm), .int .i64 vl, .slice A ps.length c, .int .i64 rs, .slice B ks.length e]).alloc (.cells #[.int .i64 kd, .int .i64 ty, .string (str nm), .int .i64 vl, .slice A' ps.length c', .int .i64 rs, .slice B' ks.length e'] 47)
  have by' := blk_at (w := w.alloc (.cells #[.int .i64 kd, .int .i64 ty, .string (str nm), .int .i64 vl, .slice A ps.length c, .int .i64 rs, .slice B ks.length e] 47)) (t := 47) (cs := #[.int .i64 kd, .int .i64 ty, .string (str nm), .int .i64 vl, .slice A' ps.length c', .int .i64 rs, .slice B' ks.length e']) (n := w.heap.size + 1) (by simp)
  have BX := Lib.hid bx
  have BY := Lib.hid by'
  clear bx by'
  go_wp2_with fail
  go_loopg [5] (ps.length + 1) (fun n i wr => ∃ k : Nat, k ≤ ps.length ∧ n = ps.length + 1 - k ∧ i = .int .i64 (k : Int) ∧ Hid (Blk wr w.heap.size 47 #[.int .i64 kd, .int .i64 ty, .string (str nm), .int .i64 vl, .slice A ps.length c, .int .i64 rs, .slice B ks.length e]) ∧ Hid (Blk wr (w.heap.size + 1) 47 #[.int .i64 kd, .int .i64 ty, .string (str nm), .int .i64 vl, .slice A' ps.length c', .int .i64 rs, .slice B' ks.length e']) ∧ Hid (Frm (fun _ => False) w wr))
  case atStart => exact ⟨0, Nat.zero_le _, rfl, rfl, by first | exact BX | exact BX.out.drew, by first | exact BY | exact BY.out.drew, by first | exact ((Frm.refl _ w).alloc _).alloc _ | exact (((Frm.refl _ w).alloc _).alloc _).drew⟩
  case round =>
    obtain ⟨k, hk, rfl, rfl, X, Y, F⟩ := hrel
    have x4 := X.out.cell 4
    have y4 := Y.out.cell 4
    by_cases hlt : k < ps.length
    · obtain ⟨g, hg, c0, c1⟩ := HA.out k hlt
      obtain ⟨g', hg', c0', c1'⟩ := HA'.out k hlt
      subst hg hg'
      have d0 := F.out.cell id c0
      have d1 := F.out.cell id c1
      have d0' := F.out.cell id c0'
      have d1' := F.out.cell id c1'
      have hlt' : (k : Int) < (ps.length : Int) := by omega
      generalize ps[k] = p at *
      obtain ⟨pn, pt⟩ := p
      dsimp only at *
      clear c0 c1 c0' c1'
      go_wp2_with fail
      go_region
      go_wp2_with fail
      go_roundg (ps.length + 1 - (k + 1))
      case measure => omega
      case rel => exact ⟨k + 1, by omega, rfl, by go_num, X.out.drew, Y.out.drew, F.out.drew⟩
    · have hlt' : ¬ (k : Int) < (ps.length : Int) := by omega
      go_wp2_with fail
      clear x4 y4 hk hlt hlt'
      go_loopg [6] (ks.length + 1) (fun n i wr => ∃ k : Nat, k ≤ ks.length ∧ n = ks.length + 1 - k ∧ i = .int .i64 (k : Int) ∧ Hid (Blk wr w.heap.size 47 #[.int .i64 kd, .int .i64 ty, .string (str nm), .int .i64 vl, .slice A ps.length c, .int .i64 rs, .slice B ks.length e]) ∧ Hid (Blk wr (w.heap.size + 1) 47 #[.int .i64 kd, .int .i64 ty, .string (str nm), .int .i64 vl, .slice A' ps.length c', .int .i64 rs, .slice B' ks.length e']) ∧ Hid (Frm (fun _ => False) w wr))
      case atStart => exact ⟨0, Nat.zero_le _, rfl, rfl, X, Y, F⟩
      case round =>
        obtain ⟨k, hk, rfl, rfl, X, Y, F⟩ := hrel
        have x6 := X.out.cell 6
        have y6 := Y.out.cell 6
        by_cases hlt : k < ks.length
        · obtain ⟨g, hg, c0⟩ := HB.out k hlt
          obtain ⟨g', hg', c0'⟩ := HB'.out k hlt
          subst hg hg'
          have d0 := F.out.cell id c0
          have d0' := F.out.cell id c0'
          have hlt' : (k : Int) < (ks.length : Int) := by omega
          generalize (ks[k] : Int) = p at *
          clear c0 c0'
          go_wp2_with fail
          go_region
          go_wp2_with fail
          go_roundg (ks.length + 1 - (k + 1))
          case measure => omega
          case rel => exact ⟨k + 1, by omega, rfl, by go_num, X.out.drew, Y.out.drew, F.out.drew⟩
        · have hlt' : ¬ (k : Int) < (ks.length : Int) := by omega
          go_wp2_with fail
          go_ret
          exact ⟨rfl, F.out⟩
theorem Nds.at_ {w : World} {B : Nat → Prop} : ∀ {ds : List L.Nd} {cs : List Value} {k : Nat} (_ : Nds w B ds cs) (hk : k < ds.length), ∃ pv kv, cs[k * 7]? = some (.int .i64 ds[k].kind) ∧ cs[k * 7 + 1]? = some (.int .i64 ds[k].type) ∧ cs[k * 7 + 2]? = some (.string (str ds[k].name)) ∧ cs[k * 7 + 3]? = some (.int .i64 ds[k].value) ∧ cs[k * 7 + 4]? = some pv ∧ cs[k * 7 + 5]? = some (.int .i64 ds[k].result) ∧ cs[k * 7 + 6]? = some kv ∧
    w.ownsRow 0 49 2 pv ds[k].params.length (prs ds[k].params) ∧ (∀ g, pv.ownBlock = some g → B g) ∧ w.ownsRow 0 3 1 kv ds[k].kids.length (nats ds[k].kids) ∧ (∀ g, kv.ownBlock = some g → B g)
  | [], _, _, _, hk => absurd hk (by simp)
  | d :: ds, _, 0, ⟨pv, kv, cs', e, h1, h2, h3, h4, _⟩, _ => by
    subst e
    exact ⟨pv, kv, rfl, rfl, rfl, rfl, rfl, rfl, rfl, h1, h2, h3, h4⟩
  | d :: ds, _, k + 1, ⟨pv, kv, cs', e, _, _, _, _, h5⟩, hk => by
    subst e
    have ih := Nds.at_ (k := k) h5 (by simpa using hk)
    rw [show (k + 1) * 7 = k * 7 + 1 + 1 + 1 + 1 + 1 + 1 + 1 from by omega]
    exact ih
theorem nds_form {w : World} {lo : Nat} {v : Value} {n : Nat} {cs : List Value} (h : w.ownsRow lo 47 7 v n cs) : ∃ A c, v = .slice A n c ∧ (∀ k u, cs[k]? = some u → ∃ g, A = some ⟨g, 0, none⟩ ∧ w.cell? ⟨g, k, none⟩ = some u) := by
  have hc := @World.ownsRow.cells _ _ _ _ _ _ _ h
  rcases h.2 with ⟨rfl, hn⟩ | ⟨g, cap, cur, rfl, _⟩
  · refine ⟨none, 0, by rw [hn], fun k u hu => ?_⟩
    have := h.1
    rw [hn] at this
    have : cs = [] := List.length_eq_zero_iff.1 (by omega)
    rw [this] at hu; cases hu
  · refine ⟨_, cap, rfl, fun k u hu => ⟨g, rfl, ?_⟩⟩
    have := hc rfl k u hu
    rwa [add_zero_off] at this
set_option maxRecDepth 100000 in
set_option maxHeartbeats 2000000 in
theorem same_nodes {w : World} {lo lo' : Nat} {B B' : Nat → Prop} {v v' : Value} {ds : List L.Nd} {cs cs' : List Value} (ho : w.ownsRow lo 47 7 v ds.length cs) (hd : Nds w B ds cs) (ho' : w.ownsRow lo' 47 7 v' ds.length cs') (hd' : Nds w B' ds cs')
    (hn : ds.length ≤ 100000) (hp : ∀ d ∈ ds, d.params.length ≤ 1000) (hk : ∀ d ∈ ds, d.kids.length ≤ 1000000) :
    Calls Tryz.prog 15 #[v, v'] w fun e w' => e = .returned (.bool true) ∧ Frm (fun _ => False) w w' := by
  obtain ⟨A, c, rfl, hA⟩ := nds_form ho
  obtain ⟨A', c', rfl, hA'⟩ := nds_form ho'
  have HA := Lib.hid hA
  have HA' := Lib.hid hA'
  have HD := Lib.hid hd
  have HD' := Lib.hid hd'
  have HP := Lib.hid hp
  have HK := Lib.hid hk
  clear ho ho' hA hA' hd hd' hp hk
  go_enter Tryz.func15, Tryz.ntmps15
  go_wp2_with fail
  go_loopg [5] (ds.length + 1) (fun n i wr => ∃ k : Nat, k ≤ ds.length ∧ n = ds.length + 1 - k ∧ i = .int .i64 (k : Int) ∧ Frm (fun _ => False) w wr)
  case atStart => exact ⟨0, Nat.zero_le _, rfl, rfl, Frm.refl _ _⟩
  case round =>
    obtain ⟨k, hk, rfl, rfl, hf⟩ := hrel
    by_cases hlt : k < ds.length
    · obtain ⟨pv, kv, p0, p1, p2, p3, p4, p5, p6, q1, _, q2, _⟩ := HD.out.at_ hlt
      obtain ⟨pv', kv', r0, r1, r2, r3, r4, r5, r6, s1, _, s2, _⟩ := HD'.out.at_ hlt
      have hpl := HP.out _ (List.getElem_mem hlt)
      have hkl := HK.out _ (List.getElem_mem hlt)
      obtain ⟨g, hg, c0⟩ := HA.out _ _ p0
      obtain ⟨g', hg', e0⟩ := HA'.out _ _ r0
      subst hg hg'
      have ca : ∀ j u, cs[k * 7 + j]? = some u → wr.cell? ⟨g, k * 7 + j, none⟩ = some u := fun j u hu => by
        obtain ⟨g1, h1, h2⟩ := HA.out _ _ hu
        cases h1; exact hf.cell id h2
      have ca' : ∀ j u, cs'[k * 7 + j]? = some u → wr.cell? ⟨g', k * 7 + j, none⟩ = some u := fun j u hu => by
        obtain ⟨g1, h1, h2⟩ := HA'.out _ _ hu
        cases h1; exact hf.cell id h2
      have d0 : wr.cell? ⟨g, k * 7, none⟩ = _ := ca 0 _ p0
      have d1 := ca 1 _ p1
      have d2 := ca 2 _ p2
      have d3 := ca 3 _ p3
      have d4 := ca 4 _ p4
      have d5 := ca 5 _ p5
      have d6 := ca 6 _ p6
      have f0 : wr.cell? ⟨g', k * 7, none⟩ = _ := ca' 0 _ r0
      have f1 := ca' 1 _ r1
      have f2 := ca' 2 _ r2
      have f3 := ca' 3 _ r3
      have f4 := ca' 4 _ r4
      have f5 := ca' 5 _ r5
      have f6 := ca' 6 _ r6
      have Q1 := Lib.hid (hf.row q1 (fun _ _ h => h) (Nat.le_refl _))
      have Q2 := Lib.hid (hf.row q2 (fun _ _ h => h) (Nat.le_refl _))
      have S1 := Lib.hid (hf.row s1 (fun _ _ h => h) (Nat.le_refl _))
      have S2 := Lib.hid (hf.row s2 (fun _ _ h => h) (Nat.le_refl _))
      have HF := Lib.hid hf
      have hlt' : (k : Int) < (ds.length : Int) := by omega
      generalize ds[k] = d at *
      clear p0 p1 p2 p3 p4 p5 p6 q1 q2 r0 r1 r2 r3 r4 r5 r6 s1 s2 c0 e0 ca ca' hf
      go_wp2_with fail
      go_still_tail 8, (by kernel_rfl)
      go_wp2_with fail
      refine (same_node (d := d) (lo := 0) (lo' := 0) (pv := pv) (kv := kv) (pv' := pv') (kv' := kv') (by exact (Q1.out : wr.ownsRow _ _ _ _ _ _)) (by exact (Q2.out : wr.ownsRow _ _ _ _ _ _)) (by exact (S1.out : wr.ownsRow _ _ _ _ _ _)) (by exact (S2.out : wr.ownsRow _ _ _ _ _ _)) hpl hkl).mono ?_
      rintro _ w2 ⟨rfl, f2⟩
      have HF2 : Hid (Frm (fun _ => False) w w2) := HF.out.drew.trans f2
      clear f2
      go_wp2_with fail
      go_roundg (ds.length + 1 - (k + 1))
      case measure => omega
      case rel => exact ⟨k + 1, by omega, rfl, by go_num, HF2.out⟩
    · have hlt' : ¬ (k : Int) < (ds.length : Int) := by omega
      go_wp2_with fail
      go_ret
      exact ⟨rfl, hf⟩
end Go.Proofs.YtpdbkdcdlafobaaGreatDoor
end
section
namespace Go.Proofs.YtpdbkdcdlafobaaGreatDoor
open Go.RowKit
theorem own_empty (w : World) (e : TypeId) (size : Nat) : (w.alloc (.cells #[] e)).ownsRow w.heap.size e size (.slice (some ⟨w.heap.size, 0, none⟩) 0 0) 0 [] :=
  ⟨by simp, .inr ⟨w.heap.size, 0, #[], rfl, Nat.le_refl _, heap_alloc_new w _, Nat.le_refl _, by unfold maxLen; omega, by simp, by simp⟩⟩
/-- An append of a row, nil or not, onto a row of the call's own. -/
theorem wpList_append_src {P : Program} {w : World} {ops : Array Oper} {rest : List Oper} {o : Oper} {a : Act} {Q : Exit → Act → World → Prop} (hgd : o.guard = none) (s x : Operand) (t : TypeId)
    (ho : o.op = .call { callee := .builtin .append, args := #[s, x], argTypes := #[t, t] })
    (base lo : Nat) (e : TypeId) (i : TypeInfo) (z : Value) (size bytes : Nat) (ht : P.underlying t = some (.slice e)) (hi : P.info? e = some i) (hz : i.zero = some z)
    (hsize : i.size = size) (hby : i.bytes = bytes) (hzs : z.cells.size = size) (hsz : 0 < size)
    (v : Value) (n : Nat) (xs : List Value) (hs : a.eval s = v) (hown : w.ownsRow base e size v n xs)
    (vx : Value) (m : Nat) (news : List Value) (hx : a.eval x = vx) (hsrc : w.ownsRow lo e size vx m news) (h1 : ∀ u ∈ news, u.oneCell' = true)
    (h63 : n + m ≤ maxLen) (hbytes : (n + m) * bytes ≤ 140737488355328) (hbase : base ≤ w.heap.size)
    (h : ∀ v' w', w'.ownsRow base e size v' (n + m) (xs ++ news) → w.grownBy w' v.ownBlock → wpList P ops Q rest (a.put o.dst v') w') : wpList P ops Q (o :: rest) a w := by
  have hl := hsrc.1
  have hc := @World.ownsRow.cells _ _ _ _ _ _ _ hsrc
  rcases hsrc.2 with ⟨rfl, hn⟩ | ⟨g, cap, cur, rfl, _⟩
  · subst hn
    have hnews : news = [] := List.length_eq_zero_iff.1 (by omega)
    subst hnews
    exact wpList_append_own_none (w := w) hgd s x t ho base e i size ht hi v n xs hs hown hx (h v w (by simpa using hown) (World.grownBy.refl w _))
  · exact wpList_append_own (w := w) hgd s x t ho base e i z size bytes ht hi hz hsize hby hzs hsz v n xs hs hown ⟨g, 0, none⟩ m cap news hx hl (hc rfl) h1 h63 hbytes hbase fun v' w' a1 a2 _ => h v' w' a1 a2
set_option maxRecDepth 100000 in
set_option maxHeartbeats 4000000 in
theorem declared_any {w : World} {lo : Nat} {v : Value} {ds : List L.Decl} (h : Decls w lo v ds) (hn : ds.length ≤ 1000) (ha : ∀ d ∈ ds, d.args.length ≤ 1000) :
    Calls Tryz.prog 14 #[v] w fun e w' => ∃ v', e = .returned v' ∧ Decls w' w.heap.size v' ds ∧ Frm (fun _ => False) w w' := by
  obtain ⟨cs, ho, hd⟩ := h
  obtain ⟨A, c, rfl⟩ := own_form ho
  have F0 : Frm (fun _ => False) w (w.alloc (.cells #[] 52)) := (Frm.refl _ w).alloc _
  have hsrc := F0.row ho (fun _ _ h => h) (Nat.zero_le _)
  have HO := Lib.hid ho
  have HD := Lib.hid hd
  have HA := Lib.hid ha
  have HF0 := Lib.hid F0
  have hone := hd.one
  clear ho hd ha F0
  go_enter Tryz.func14, Tryz.ntmps14
  obtain ⟨i0, hi, hz0, hz1, hz2⟩ := info_parts info_decl
  go_wp2_with (at_builtin; refine wpList_append_src rfl _ _ 31 rfl w.heap.size 0 52 i0 (.agg #[.string ⟨#[]⟩, .slice none 0 0, .int .i64 0]) 3 48 Tryz.underlying31 hi hz0 hz1 hz2 rfl (by decide) _ _ _ rfl (own_empty w _ _) _ _ _ rfl hsrc hone ?c1 ?c2 ?c3 ?_)
  case c1 => unfold maxLen; omega
  case c2 => omega
  case c3 => simp
  intro v1 w1 ho1 hg1
  obtain ⟨A1, c1, rfl⟩ : ∃ A c, v1 = .slice A ds.length c := by
    have h : w1.ownsRow w.heap.size 52 3 v1 ds.length cs := by simpa using ho1
    exact own_form h
  have F1 : Frm (fun _ => False) w w1 := HF0.out.own (own_empty w 52 3) hg1
  have ho1' : w1.ownsRow w.heap.size 52 3 (.slice A1 ds.length c1) ds.length cs := by simpa using ho1
  have HO1 := Lib.hid ho1'
  clear ho1'
  have HF1 := Lib.hid F1
  clear ho1 hg1 F1 hsrc hone hi hz0 hz1 hz2
  go_wp2_with fail
  go_loopg [4] (ds.length + 1) (fun n i wr => ∃ (k : Nat) (cs' : List Value), k ≤ ds.length ∧ n = ds.length + 1 - k ∧ i = .int .i64 (k : Int) ∧ Hid (wr.ownsRow w.heap.size 52 3 (.slice A1 ds.length c1) ds.length cs') ∧ Hid (Dls wr w.heap.size (ds.take k) (cs'.take (k * 3))) ∧ Hid (cs'.drop (k * 3) = cs.drop (k * 3)) ∧ Hid (Frm (fun _ => False) w wr))
  case atStart => exact ⟨0, cs, Nat.zero_le _, rfl, rfl, HO1, rfl, rfl, HF1⟩
  case round =>
    obtain ⟨k, cs', hk, rfl, rfl, HW, HK, HR, HF⟩ := hrel
    by_cases hlt : k < ds.length
    · obtain ⟨a, p0, p1, p2, ha⟩ := HD.out.at_ hlt
      have hl' : cs'.length = ds.length * 3 := HW.out.1
      have e1 : ∀ j, cs'[k * 3 + j]? = cs[k * 3 + j]? := fun j => by rw [← List.getElem?_drop, HR.out, List.getElem?_drop]
      have q0 : cs'[k * 3]? = some (.string (str ds[k].name)) := (e1 0).trans p0
      have q1 : cs'[k * 3 + 1]? = some a := (e1 1).trans p1
      have q2 : cs'[k * 3 + 2]? = some (.int .i64 ds[k].result) := (e1 2).trans p2
      obtain ⟨g0, hg0⟩ : ∃ g, A = some ⟨g, 0, none⟩ := by
        rcases HO.out.2 with ⟨_, h0⟩ | ⟨g, _, _, h0, _⟩
        · omega
        · injection h0 with h0 _ _; exact ⟨g, h0⟩
      obtain ⟨g, hg⟩ : ∃ g, A1 = some ⟨g, 0, none⟩ := by
        rcases HO1.out.2 with ⟨_, h0⟩ | ⟨g, _, _, h0, _⟩
        · omega
        · injection h0 with h0 _ _; exact ⟨g, h0⟩
      subst hg0 hg
      have ca := @World.ownsRow.cells _ _ _ _ _ _ _ HO.out g0 rfl _ _ p1
      rw [add_zero_off] at ca
      have c0 := HF.out.cell id ca
      have hal := HA.out _ (List.getElem_mem hlt)
      obtain ⟨Aa, cc, rfl, _⟩ := ha.form
      have FA : Frm (fun _ => False) wr (wr.alloc (.cells #[] 32)) := (Frm.refl _ wr).alloc _
      have hsrc := (HF.out.trans FA).row ha (fun _ _ h => h) (Nat.zero_le _)
      have c1' : (wr.alloc (.cells #[] 32)).cell? ⟨g0, k * 3 + 1, none⟩ = _ := FA.cell id c0
      obtain ⟨i0, hi, hz0, hz1, hz2⟩ := info_parts info_type
      have hlt' : (k : Int) < (ds.length : Int) := by omega
      have HP := Lib.hid (And.intro q0 (And.intro q1 q2))
      have HFA := Lib.hid FA
      have HL := Lib.hid hl'
      clear p0 p1 p2 e1 q0 q1 q2 ca ha FA hl'
      go_wp2_with (at_builtin; refine wpList_append_src rfl _ _ 50 rfl wr.heap.size 0 32 i0 (.int .i64 0) 1 8 Tryz.underlying50 hi hz0 hz1 hz2 rfl (by decide) _ _ _ rfl (own_empty wr _ _) _ _ _ rfl hsrc (ints_one _) ?d1 ?d2 ?d3 ?_)
      case d1 => unfold maxLen; omega
      case d2 => omega
      case d3 => simp
      intro v3 w3 ho3 hgr3
      have ho3' : w3.ownsRow wr.heap.size 32 1 v3 ds[k].args.length (ints ds[k].args) := by simpa using ho3
      obtain ⟨A3, c3, rfl⟩ := own_form ho3'
      have f3 : Frm (fun _ => False) wr w3 := HFA.out.own (own_empty wr 32 1) hgr3
      have hown3 := f3.row HW.out (fun _ _ => id) (Nat.le_refl _)
      have ho4 : Tys w3 w.heap.size (.slice A3 ds[k].args.length c3) ds[k].args := own_base ho3' HF.out.1
      have z3 := hown3.frozenAt (k * 3 + 1)
      have c3' := @World.ownsRow.cells _ _ _ _ _ _ _ hown3 g rfl _ _ HP.out.2.1
      rw [add_zero_off] at c3'
      have HT4 := Lib.hid ho4
      have HF3 := Lib.hid f3
      have HOW := Lib.hid hown3
      have hge := own_ge HW.out g rfl
      clear ho3 ho3' hgr3 f3 hown3 ho4 hsrc c1' c0 hi hz0 hz1 hz2
      go_wp2_with fail
      obtain ⟨hst, hgr⟩ := HOW.out.stored (k * 3 + 1) (.slice A3 ds[k].args.length c3)
      have fs : Frm (fun _ => False) w (w3.setCell ⟨g, k * 3 + 1, none⟩ (.slice A3 ds[k].args.length c3)) := (HF.out.trans HF3.out).set_ (fun h => by simp at h; omega) _
      have hkp : Keeps 32 w3 (w3.setCell ⟨g, k * 3 + 1, none⟩ (.slice A3 ds[k].args.length c3)) := by
        rcases HOW.out.2 with ⟨h, _⟩ | ⟨g', cap', cur', h, _, hg, _⟩
        · cases h
        · injection h with h; injection h with h; injection h with h
          subst h
          exact (Keeps.refl _ w3).set_ hg (by decide) _ _
      go_roundg (ds.length + 1 - (k + 1))
      case measure => omega
      case rel =>
        refine ⟨k + 1, _, by omega, rfl, by go_num, hst, ?_, ?_, fs⟩
        · have hd3 := Dls.snoc (d := ds[k]) (hkp.row HT4.out) ((HK.out.keep2 HF3.out.keeps0).keep2 hkp)
          refine show Dls _ _ _ _ from ?_
          rw [List.take_succ_eq_append_getElem hlt]
          refine Eq.mp (congrArg _ ?_) hd3
          exact (take_set3 _ _ HL.out hlt HP.out.1 HP.out.2.2).symm
        · refine show _ = _ from ?_
          rw [List.drop_set_of_lt (by omega)]
          rw [show (k + 1) * 3 = k * 3 + 3 from by omega, ← List.drop_drop, HR.out, List.drop_drop]
    · have hlt' : ¬ (k : Int) < (ds.length : Int) := by omega
      go_wp2_with fail
      go_ret
      have e : k = ds.length := by omega
      subst e
      have h1 := HK.out
      rw [List.take_length, List.take_of_length_le (by have := HW.out.1; omega)] at h1
      exact ⟨_, rfl, ⟨_, HW.out, h1⟩, HF.out⟩
end Go.Proofs.YtpdbkdcdlafobaaGreatDoor
end
