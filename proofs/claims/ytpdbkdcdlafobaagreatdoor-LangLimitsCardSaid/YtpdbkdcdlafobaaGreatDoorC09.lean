/- The contract of copyDecls. The contracts of bind and release. slices.Backward at bindings. Contracts of the program's functions, with no condition beyond what each theorem states. -/
import Derived.Test.YtpdbkdcdlafobaaGreatDoorC08
import Derived.Laws.OwnMore
import Derived.Test.YtpdbkdcdlafobaaGreatDoorC01
import Derived.Maps.AppendAt
import Derived.RangeFuncNested
import Derived.RangeFuncBound
import Derived.RangeFuncCalls
import Derived.RangeFuncLeaves
import Derived.RangeFuncBox
import Derived.Shelf.Abstract
import Derived.Shelf.RegionOpen
import Derived.WalkKit
import Derived.OwnWalkIn
import Derived.TacticsInMore
import Derived.LoopNIn
import Derived.LoopIn
section
namespace Go.Proofs.YtpdbkdcdlafobaaGreatDoor
open Go.RowKit
theorem Dls.one {w : World} {lo : Nat} : ∀ {ds : List L.Decl} {cs : List Value}, Dls w lo ds cs → ∀ u ∈ cs, u.oneCell' = true
  | [], _, h, u, hu => by rw [show _ = [] from h] at hu; simp at hu
  | d :: ds, _, h, u, hu => by
    obtain ⟨a, cs', rfl, ha, hr⟩ := h
    rcases List.mem_cons.1 hu with rfl | hu
    · rfl
    rcases List.mem_cons.1 hu with rfl | hu
    · obtain ⟨A, c, rfl, _⟩ := ha.form; rfl
    rcases List.mem_cons.1 hu with rfl | hu
    · rfl
    exact hr.one u hu
theorem ints_one (l : List Int) : ∀ u ∈ ints l, u.oneCell' = true := by
  intro u hu
  obtain ⟨x, _, rfl⟩ := List.mem_map.1 hu
  rfl
theorem Dls.len {w : World} {lo : Nat} : ∀ {ds : List L.Decl} {cs : List Value}, Dls w lo ds cs → cs.length = ds.length * 3
  | [], _, h => by rw [show _ = [] from h]; rfl
  | d :: ds, _, h => by
    obtain ⟨a, cs', rfl, ha, hr⟩ := h
    have := hr.len
    simp; omega
theorem take_set3 {cs : List Value} {n k : Nat} {a b : Value} (k' : Nat) (u : Value) (hl : cs.length = n * 3) (hk : k < n) (h0 : cs[k * 3]? = some a) (h2 : cs[k * 3 + 2]? = some b) (hk' : k' = k + 1 := by rfl) : (cs.set (k * 3 + 1) u).take (k' * 3) = cs.take (k * 3) ++ [a, u, b] := by
  subst hk'
  apply List.ext_getElem?
  intro j
  rw [List.getElem?_take, List.getElem?_set, List.getElem?_append]
  simp only [List.length_take, List.getElem?_take]
  by_cases h : j < k * 3
  · rw [if_pos (by omega), if_neg (by omega), if_pos (by omega), if_pos h]
  · rw [if_neg (c := j < min (k * 3) cs.length) (by omega)]
    rw [show min (k * 3) cs.length = k * 3 from by omega]
    obtain rfl | rfl | rfl | hj : j = k * 3 ∨ j = k * 3 + 1 ∨ j = k * 3 + 2 ∨ k * 3 + 3 ≤ j := by omega
    · rw [if_pos (by omega), if_neg (by omega), h0]; simp
    · rw [if_pos (by omega), if_pos rfl, if_pos (by omega)]; simp
    · rw [if_pos (by omega), if_neg (by omega), h2]; simp
    · rw [if_neg (by omega), List.getElem?_eq_none (by simp; omega)]
set_option maxHeartbeats 1000000 in
theorem copyDecls_any (v : Value) (ds : List L.Decl) (w : World) (h : Decls w 0 v ds) (hn : ds.length ≤ 1000) (hts : ∀ d ∈ ds, d.args.length ≤ 1000) :
    Calls Tryz.prog 32 #[v] w fun e w' => ∃ v', e = .returned v' ∧ Decls w' w.heap.size v' ds ∧ Frm (fun _ => False) w w' := by
  obtain ⟨cs, ho, hd⟩ := h
  go_enter Tryz.func32, Tryz.ntmps32
  go_wp2_with fail
  refine (clone_decl v _ cs w ho (by omega) hd.one).mono ?_
  rintro e w1 ⟨v1, rfl, ho1, f1⟩
  rcases ho1.2 with ⟨rfl, hz⟩ | ⟨g, cap, cur, rfl, hgb, hgx, hncap, hcapm, -, -⟩
  · have e : ds = [] := List.eq_nil_of_length_eq_zero hz
    subst e
    go_wp2_with fail
    go_loopg [9] 1 (fun n i wr => n = 1 ∧ i = .int .i64 0 ∧ wr = w1)
    case atStart => exact ⟨rfl, rfl, rfl⟩
    case round =>
      obtain ⟨rfl, rfl, rfl⟩ := hrel
      go_wp2_with fail
      go_ret
      exact ⟨_, rfl, ⟨[], World.ownsRow_nil _ _ _ _, rfl⟩, f1⟩
  · go_wp2_with fail
    have HD := Lib.hid hd
    have HF1 := Lib.hid f1
    have hlen := hd.len
    clear hd f1 ho hgx
    go_loopg [9] (ds.length + 1) (fun n i wr => ∃ (k : Nat) (cs' : List Value), k ≤ ds.length ∧ n = ds.length + 1 - k ∧ i = .int .i64 k ∧ wr.ownsRow w.heap.size 52 3 (.slice (some ⟨g, 0, none⟩) ds.length cap) ds.length cs' ∧ Dls wr w.heap.size (ds.take k) (cs'.take (k * 3)) ∧ cs'.drop (k * 3) = cs.drop (k * 3) ∧ Frm (fun _ => False) w wr)
    case atStart => exact ⟨0, cs, Nat.zero_le _, rfl, rfl, ho1, rfl, rfl, HF1.out⟩
    case round =>
      obtain ⟨k, cs', hk, rfl, rfl, hown, hdk, hdr, hf⟩ := hrel
      by_cases hlt : k < ds.length
      · obtain ⟨a, p0, p1, p2, ha⟩ := HD.out.at_ hlt
        have hl' : cs'.length = ds.length * 3 := hown.1
        have e1 : ∀ j, cs'[k * 3 + j]? = cs[k * 3 + j]? := fun j => by rw [← List.getElem?_drop, hdr, List.getElem?_drop]
        have q0 : cs'[k * 3]? = some (.string (str ds[k].name)) := (e1 0).trans p0
        have q1 : cs'[k * 3 + 1]? = some a := (e1 1).trans p1
        have q2 : cs'[k * 3 + 2]? = some (.int .i64 ds[k].result) := (e1 2).trans p2
        clear p0 p1 p2 e1
        have hcell := fun j u hu => @World.ownsRow.cells _ _ _ _ _ _ _ hown g rfl j u hu
        have c1 : wr.cell? ⟨g, k * 3 + 1, none⟩ = some a := by have := hcell _ _ q1; rwa [add_zero_off] at this
        have z1 := hown.frozenAt (k * 3 + 1)
        have ha2 : Tys wr 0 a ds[k].args := hf.row ha (fun _ _ => id) (Nat.le_refl _)
        have hal := hts _ (List.getElem_mem hlt)
        obtain ⟨A, c, rfl, _⟩ := ha.form
        clear hcell
        go_wp2_with fail
        refine (clone_type _ _ _ wr ha2 (by omega) (ints_one _)).mono ?_
        rintro e w3 ⟨v3, rfl, ho3, f3⟩
        have hown3 := f3.row hown (fun _ _ => id) (Nat.le_refl _)
        obtain ⟨A3, c3, rfl⟩ := own_form ho3
        have ho4 : Tys w3 w.heap.size (.slice A3 ds[k].args.length c3) ds[k].args := own_base ho3 hf.1
        have z3 := hown3.frozenAt (k * 3 + 1)
        have c3' : w3.cell? ⟨g, k * 3 + 1, none⟩ = some (.slice A ds[k].args.length c) := f3.cell id c1
        go_wp2_with fail
        obtain ⟨hst, hgr⟩ := hown3.stored (k * 3 + 1) (.slice A3 ds[k].args.length c3)
        have fs : Frm (fun _ => False) w (w3.setCell ⟨g, k * 3 + 1, none⟩ (.slice A3 ds[k].args.length c3)) := (hf.trans f3).set_ (fun h => by simp at h; omega) _
        have hkp : Keeps 32 w3 (w3.setCell ⟨g, k * 3 + 1, none⟩ (.slice A3 ds[k].args.length c3)) := by
          rcases hown3.2 with ⟨h, _⟩ | ⟨g', cap', cur', h, _, hg, _⟩
          · cases h
          · injection h with h; injection h with h; injection h with h
            subst h
            exact (Keeps.refl _ w3).set_ hg (by decide) _ _
        go_roundg (ds.length + 1 - (k + 1))
        case measure => omega
        case rel =>
          refine ⟨k + 1, _, by omega, rfl, by go_num, hst, ?_, ?_, fs⟩
          · have hd3 := Dls.snoc (d := ds[k]) (hkp.row ho4) ((hdk.keep2 f3.keeps0).keep2 hkp)
            rw [List.take_succ_eq_append_getElem hlt]
            refine Eq.mp (congrArg _ ?_) hd3
            exact (take_set3 _ _ hl' hlt q0 q2).symm
          · rw [List.drop_set_of_lt (by omega)]
            rw [show (k + 1) * 3 = k * 3 + 3 from by omega, ← List.drop_drop, hdr, List.drop_drop]
      · go_wp2_with fail
        go_ret
        have e : k = ds.length := by omega
        subst e
        rw [List.take_length, List.take_of_length_le (by have := hown.1; omega)] at hdk
        exact ⟨_, rfl, ⟨_, hown, hdk⟩, hf⟩
end Go.Proofs.YtpdbkdcdlafobaaGreatDoor
end
section
namespace Go.Proofs.YtpdbkdcdlafobaaGreatDoor
open Go.RowKit
/-- Cells that read as bindings. -/
def Bds (w : World) : List L.Bnd → List Value → Prop
  | [], cs => cs = []
  | b :: bs, cs => ∃ a cs', cs = .int .i64 b.sort :: .string (str b.name) :: a :: .int .i64 b.result :: cs' ∧ Tys w 0 a b.args ∧ Bds w bs cs'
/-- A slice of bindings in a block from lo on. -/
def Bnds (w : World) (lo : Nat) (v : Value) (bs : List L.Bnd) : Prop := ∃ cs, w.ownsRow lo 67 4 v bs.length cs ∧ Bds w bs cs
theorem Bds.len {w : World} : ∀ {bs : List L.Bnd} {cs : List Value}, Bds w bs cs → cs.length = bs.length * 4
  | [], _, h => by rw [show _ = [] from h]; rfl
  | b :: bs, _, h => by
    obtain ⟨a, cs', rfl, ha, hr⟩ := h
    have := hr.len
    simp; omega
theorem Bds.one {w : World} : ∀ {bs : List L.Bnd} {cs : List Value}, Bds w bs cs → ∀ u ∈ cs, u.oneCell' = true
  | [], _, h, u, hu => by rw [show _ = [] from h] at hu; simp at hu
  | d :: ds, _, h, u, hu => by
    obtain ⟨a, cs', rfl, ha, hr⟩ := h
    rcases List.mem_cons.1 hu with rfl | hu
    · rfl
    rcases List.mem_cons.1 hu with rfl | hu
    · rfl
    rcases List.mem_cons.1 hu with rfl | hu
    · obtain ⟨A, c, rfl, _⟩ := ha.form; rfl
    rcases List.mem_cons.1 hu with rfl | hu
    · rfl
    exact hr.one u hu
theorem Bds.keep {w w' : World} (hk : Keeps 32 w w') : ∀ {bs : List L.Bnd} {cs : List Value}, Bds w bs cs → Bds w' bs cs
  | [], _, h => h
  | _ :: _, _, ⟨a, cs', h1, h2, h3⟩ => ⟨a, cs', h1, hk.row h2, Bds.keep hk h3⟩
theorem Bds.append {w : World} {more : List L.Bnd} {ds : List Value} (hd : Bds w more ds) : ∀ {bs : List L.Bnd} {cs : List Value}, Bds w bs cs → Bds w (bs ++ more) (cs ++ ds)
  | [], _, h => by rw [show _ = [] from h]; exact hd
  | _ :: _, _, ⟨a, cs', h1, h2, h3⟩ => ⟨a, cs' ++ ds, by rw [h1]; rfl, h2, Bds.append hd h3⟩
theorem Bds.take {w : World} : ∀ (k : Nat) {bs : List L.Bnd} {cs : List Value}, Bds w bs cs → Bds w (bs.take k) (cs.take (k * 4))
  | 0, _, _, _ => by simp [Bds]
  | k + 1, [], _, h => by rw [show _ = [] from h]; simp [Bds]
  | k + 1, _ :: _, _, ⟨a, cs', h1, h2, h3⟩ => ⟨a, cs'.take (k * 4), by rw [h1, show (k + 1) * 4 = k * 4 + 1 + 1 + 1 + 1 from by omega]; rfl, h2, Bds.take k h3⟩
theorem Bds.at_ {w : World} {bs : List L.Bnd} {cs : List Value} (h : Bds w bs cs) {k : Nat} (hk : k < bs.length) :
    ∃ a, cs[k * 4]? = some (.int .i64 bs[k].sort) ∧ cs[k * 4 + 1]? = some (.string (str bs[k].name)) ∧ cs[k * 4 + 2]? = some a ∧ cs[k * 4 + 3]? = some (.int .i64 bs[k].result) ∧ Tys w 0 a bs[k].args := by
  induction bs generalizing k cs with
  | nil => simp at hk
  | cons d ds ih =>
    obtain ⟨a, cs', rfl, ha, hr⟩ := h
    match k with
    | 0 => exact ⟨a, rfl, rfl, rfl, rfl, ha⟩
    | k + 1 =>
      have h := ih hr (k := k) (by simpa using hk)
      rw [show (k + 1) * 4 = k * 4 + 1 + 1 + 1 + 1 from by omega]
      exact h
/-- What bind and release may change: blocks of these two types. -/
def Own2 (e : TypeId) : Prop := e = 67 ∨ e = 72
/-- What bind and release may change: blocks of two types, the reader's own and those where its list may lie. -/
structure Kb (R : Nat) (lo : Nat → Prop) (w w' : World) : Prop where
  sz : w.heap.size ≤ w'.heap.size
  ty : ∀ e, ¬ Own2 e → Keeps e w w'
  fr : Frm (fun b => b = R ∨ lo b) w w'
theorem Kb.trans {R : Nat} {lo : Nat → Prop} {w w' w'' : World} (h : Kb R lo w w') (h' : Kb R lo w' w'') : Kb R lo w w'' := ⟨Nat.le_trans h.1 h'.1, fun e he => (h.2 e he).trans (h'.2 e he), h.3.trans h'.3⟩
theorem Kb.frm {R : Nat} {lo : Nat → Prop} {w w' : World} (h : Frm (fun _ => False) w w') : Kb R lo w w' := ⟨h.1, fun _ _ => h.keeps0, h.mono fun _ _ h => h.elim⟩
/-- A slice of bindings in a block of lo. -/
def BndsL (w : World) (lo : Nat → Prop) (v : Value) (bs : List L.Bnd) : Prop := ∃ cs, w.ownsRow 0 67 4 v bs.length cs ∧ (∀ g, v.ownBlock = some g → lo g) ∧ Bds w bs cs
/-- A reader at a block R, whose list lies in a block of lo. -/
def RdAt (w : World) (R : Nat) (lo : Nat → Prop) (bs : List L.Bnd) (vis : Value) : Prop := ∃ v, Blk w R 72 #[v, vis] ∧ ¬ lo R ∧ (∀ b, w.heap.size ≤ b → lo b) ∧ BndsL w lo v bs
theorem run_append_alias {P : Program} (w : World) {t tx e e' : TypeId} (ty : TypeId) (ht : P.underlying t = some (.slice e)) (hx : P.underlying tx = some (.slice e')) {i : TypeInfo} (hi : P.info? e = some i) (A : Option Addr) (n c : Nat) (x : Value) :
    (Builtin.append_ #[t, tx] ty #[.slice A n c, x]).run P w = (Builtin.append_ #[t, t] ty #[.slice A n c, x]).run P w := by
  simp [Builtin.append_, run_underlying ht, run_underlying hx, sizeOf, typeInfo, hi]
theorem wpList_append_own2 {P : Program} (w : World) {ops : Array Oper} {rest : List Oper} {o : Oper} {a : Act} {Q : Exit → Act → World → Prop} (hgd : o.guard = none) (s x : Operand) (t tx : TypeId)
    (ho : o.op = .call { callee := .builtin .append, args := #[s, x], argTypes := #[t, tx] })
    (base : Nat) (e e' : TypeId) (i : TypeInfo) (z : Value) (size bytes : Nat) (ht : P.underlying t = some (.slice e)) (htx : P.underlying tx = some (.slice e')) (hi : P.info? e = some i) (hz : i.zero = some z)
    (hsize : i.size = size) (hby : i.bytes = bytes) (hzs : z.cells.size = size) (hsz : 0 < size)
    (v : Value) (n : Nat) (xs : List Value) (hs : a.eval s = v) (hown : w.ownsRow base e size v n xs)
    (ad : Addr) (m c : Nat) (news : List Value) (hx : a.eval x = .slice (some ad) m c) (hl : news.length = m * size) (hnews : ∀ j u, news[j]? = some u → w.cell? (ad.add j) = some u) (h1 : ∀ u ∈ news, u.oneCell' = true)
    (h63 : n + m ≤ maxLen) (hbytes : (n + m) * bytes ≤ 140737488355328) (hbase : base ≤ w.heap.size)
    (h : ∀ v' w', w'.ownsRow base e size v' (n + m) (xs ++ news) → w.grownBy w' v.ownBlock → (v'.ownBlock = v.ownBlock ∨ v'.ownBlock = some w.heap.size) → wpList P ops Q rest (a.put o.dst v') w') : wpList P ops Q (o :: rest) a w := by
  refine wpList_plain hgd fun K hK' => ?_
  obtain ⟨v', w', hr, h2, h3, -, h4⟩ := run_append_own_at (P := P) w base t o.type e i z size bytes ht hi hz hsize hby hzs hsz v n xs hown ad m c news hl hnews h1 h63 hbytes hbase
  obtain ⟨A, cc, rfl⟩ := own_form hown
  rw [← run_append_alias w o.type ht htx hi] at hr
  unfold Oper.wp execOp
  simp only [ho, resolve, invoke, builtin, Sem.run_bind, Sem.run_pure, Result.andThen_ok, List.map_toArray, List.map_cons, List.map_nil, hs, hx, hr]
  exact hK' _ _ (h v' w' h2 h3 h4)
theorem wpList_append_nil2 {P : Program} (w : World) {ops : Array Oper} {rest : List Oper} {o : Oper} {a : Act} {Q : Exit → Act → World → Prop} (hgd : o.guard = none) (s x : Operand) (t tx : TypeId)
    (ho : o.op = .call { callee := .builtin .append, args := #[s, x], argTypes := #[t, tx] })
    (e e' : TypeId) (i : TypeInfo) (ht : P.underlying t = some (.slice e)) (htx : P.underlying tx = some (.slice e')) (hi : P.info? e = some i)
    (A : Option Addr) (n c : Nat) (hs : a.eval s = .slice A n c) (hnc : n ≤ c) (hx : a.eval x = .slice none 0 0)
    (h : wpList P ops Q rest (a.put o.dst (.slice A n c)) w) : wpList P ops Q (o :: rest) a w := by
  refine wpList_plain hgd fun K hK' => ?_
  have hr : (Builtin.append_ #[t, tx] o.type #[.slice A n c, .slice none 0 0]).run P w = .ok (.slice A n c) w := by
    cases A <;> simp [Builtin.append_, Builtin.lenOf, Builtin.firstCells, run_underlying ht, run_underlying htx, sizeOf, typeInfo, hi, hnc, storeCells]
  unfold Oper.wp execOp
  simp only [ho, resolve, invoke, builtin, Sem.run_bind, Sem.run_pure, Result.andThen_ok, List.map_toArray, List.map_cons, List.map_nil, hs, hx, hr]
  exact hK' _ _ h
theorem Frm0.drew (w : World) : Frm (fun _ => False) w w.drew := (Frm.refl (fun _ => False) w).drew
theorem RdAt.keep {w w' : World} {R : Nat} {lo : Nat → Prop} {bs : List L.Bnd} {vis : Value} (h : RdAt w R lo bs vis) (F : Frm (fun _ => False) w w') : RdAt w' R lo bs vis := by
  obtain ⟨v, hb, hR, hlo, cs, ho, hl, hB⟩ := h
  exact ⟨v, F.blk hb id, hR, fun b hb => hlo b (Nat.le_trans F.1 hb), cs, F.row ho (fun _ _ => id) (Nat.le_refl _), hl, hB.keep F.keeps0⟩
theorem info_bnd : (Tryz.prog.info? 67).map (fun i => (i.zero, i.size, i.bytes)) = some (some (.agg #[.int .i64 0, .string ⟨#[]⟩, .slice none 0 0, .int .i64 0]), 4, 56) := by kernel_rfl
theorem own_form2 {w : World} {base size n : Nat} {e : TypeId} {v : Value} {xs : List Value} (h : w.ownsRow base e size v n xs) : ∃ A c, v = .slice A n c ∧ n ≤ c := by
  rcases h.2 with ⟨rfl, hn⟩ | ⟨g, cap, cur, rfl, _, _, hc, _⟩
  · exact ⟨none, 0, by rw [hn], by omega⟩
  · exact ⟨_, cap, rfl, hc⟩
theorem own_ge {w : World} {base size n : Nat} {e : TypeId} {v : Value} {xs : List Value} (h : w.ownsRow base e size v n xs) : ∀ g, v.ownBlock = some g → base ≤ g := by
  intro g hg
  rcases h.2 with ⟨rfl, hn⟩ | ⟨g', cap, cur, rfl, h1, _⟩
  · cases hg
  · simp only [Value.ownBlock, Option.some.injEq] at hg
    omega
/-- A reader whose list is set anew. -/
theorem RdAt.put {w : World} {R : Nat} {lo : Nat → Prop} {vis v v' : Value} {bs : List L.Bnd} (hb : Blk w R 72 #[v, vis]) (hR : ¬ lo R) (hlo : ∀ b, w.heap.size ≤ b → lo b) (h : BndsL w lo v' bs) :
    RdAt (w.setCell ⟨R, 0, none⟩ v') R lo bs vis ∧ Kb R lo w (w.setCell ⟨R, 0, none⟩ v') := by
  have F : Frm (· = R) w (w.setCell ⟨R, 0, none⟩ v') := (Frm.refl (· = R) w).set_ (p := ⟨R, 0, none⟩) (fun _ => rfl) _
  have K : Kb R lo w (w.setCell ⟨R, 0, none⟩ v') := ⟨F.1, fun e he => F.keeps1 hb fun h => he (.inr h.symm), F.mono fun b _ h => .inl h⟩
  obtain ⟨cs, ho, hl, hB⟩ := h
  exact ⟨⟨v', hb.set_ 0 v', hR, fun b hb => hlo b (Nat.le_trans F.1 hb), cs, F.row ho (fun g hg e => hR (e ▸ hl g hg)) (Nat.le_refl _), hl, hB.keep (K.2 _ (by unfold Own2; decide))⟩, K⟩
set_option maxHeartbeats 1000000 in
theorem bind_any {w : World} {R : Nat} {lo : Nat → Prop} {bs : List L.Bnd} {vis u : Value} {more : List L.Bnd} (h : RdAt w R lo bs vis) (hu : Bnds w 0 u more) (hm : bs.length + more.length ≤ 1000000) :
    Calls Tryz.prog 48 #[.pointer (some ⟨R, 0, none⟩), u] w fun e w' => e = .returned (.tuple #[]) ∧ RdAt w' R lo (bs ++ more) vis ∧ Kb R lo w w' := by
  obtain ⟨v, hb, hR, hlo, cs, ho, hl, hB⟩ := h
  obtain ⟨ds, hou, hD⟩ := hu
  have c0 : w.cell? ⟨R, 0, none⟩ = some v := hb.cell 0
  have z0 := hb.frozen 0
  rcases hou.2 with ⟨rfl, hz⟩ | ⟨g, cap, cur, rfl, hgb, hgx, hncap, hcapm, -, -⟩
  · have e : more = [] := List.eq_nil_of_length_eq_zero hz
    subst e
    obtain ⟨A, c, rfl, hnc⟩ := own_form2 ho
    obtain ⟨i0, hi, hz0, hz1, hz2⟩ := info_parts info_bnd
    have HLO := Lib.hid hlo
    have HL := Lib.hid hl
    clear hlo hl
    go_enter Tryz.func48, Tryz.ntmps48
    go_wp2_with (at_builtin; refine wpList_append_nil2 _ rfl _ _ 69 68 rfl 67 67 i0 Tryz.underlying69 Tryz.underlying68 hi A bs.length c rfl hnc rfl ?_)
    go_end0
    obtain ⟨h1, h2⟩ := RdAt.put hb hR HLO.out ⟨cs, ho, HL.out, hB⟩
    exact ⟨rfl, by rw [List.append_nil]; exact h1, h2⟩
  · obtain ⟨A, c, rfl⟩ := own_form ho
    have hcell := @World.ownsRow.cells _ _ _ _ _ _ _ hou g rfl
    obtain ⟨i0, hi, hz0, hz1, hz2⟩ := info_parts info_bnd
    have hone := hD.one
    have hdl := hD.len
    have HLO := Lib.hid hlo
    have HL := Lib.hid hl
    clear hlo hl
    go_enter Tryz.func48, Tryz.ntmps48
    go_wp2_with (at_builtin; refine wpList_append_own2 _ rfl _ _ 69 68 rfl 0 67 67 i0 (.agg #[.int .i64 0, .string ⟨#[]⟩, .slice none 0 0, .int .i64 0]) 4 56 Tryz.underlying69 Tryz.underlying68 hi hz0 hz1 hz2 rfl (by decide) _ _ _ rfl ho ⟨g, 0, none⟩ more.length cap ds rfl hdl hcell hone ?c3 ?c4 (Nat.zero_le _) ?_)
    case c3 => unfold maxLen; omega
    case c4 => omega
    intro v' w1 hown1 hgrow hat
    have hl1 : Hid (∀ g, v'.ownBlock = some g → lo g) := fun g hg => by
      rcases hat with h | h
      · exact HL.out g (h ▸ hg)
      · rw [h] at hg; injection hg with hg; exact HLO.out g (by omega)
    have hb1 : Blk w1 R 72 #[.slice A bs.length c, vis] := hb.grown hgrow (fun e => hR (HL.out R e.symm))
    have hs1 : w.heap.size ≤ w1.heap.size := hgrow.size
    have K1 : Kb R lo w w1 := ⟨hs1, fun e he => (Keeps.refl e w).grown ho (fun h => he (.inl h.symm)) hgrow, (Frm.refl _ w).grown hgrow (fun g hg _ => .inr (HL.out g hg))⟩
    have c1 : w1.cell? ⟨R, 0, none⟩ = some (.slice A bs.length c) := hb1.cell 0
    have z1 := hb1.frozen 0
    obtain ⟨A1, c2, rfl⟩ := own_form hown1
    clear c0 z0 hat
    go_wp2_with fail
    go_end0
    obtain ⟨h1, h2⟩ := RdAt.put hb1 hR (fun b hb => HLO.out b (Nat.le_trans hs1 hb)) ⟨cs ++ ds, by rw [List.length_append]; exact hown1, hl1.out, (Bds.append hD hB).keep (K1.2 _ (by unfold Own2; decide))⟩
    exact ⟨rfl, h1, K1.trans h2⟩
theorem own_cut {w : World} {base size n m c : Nat} {e : TypeId} {A : Option Addr} {xs : List Value} (h : w.ownsRow base e size (.slice A (n + m) c) (n + m) xs) : w.ownsRow base e size (.slice A n c) n (xs.take (n * size)) := by
  have hl : xs.length = (n + m) * size := h.1
  have hle : n * size ≤ (n + m) * size := Nat.mul_le_mul_right _ (by omega)
  refine ⟨by rw [List.length_take]; omega, ?_⟩
  rcases h.2 with ⟨hv, hn⟩ | ⟨g, cap, cur, hv, h1, h2, h3, h4, h5, h6⟩
  · injection hv with ha hb hc
    subst ha hc
    exact .inl ⟨by rw [show n = 0 from by omega], by omega⟩
  · injection hv with ha hb hc
    subst ha hc
    exact .inr ⟨g, c, cur, rfl, h1, h2, by omega, h4, h5, by rw [← h6, List.take_take, Nat.min_eq_left hle]⟩
/-- release takes the last ones away. -/
theorem release_any {w : World} {R : Nat} {lo : Nat → Prop} {bs more : List L.Bnd} {vis : Value} (h : RdAt w R lo (bs ++ more) vis) (hm : bs.length + more.length ≤ 1000000) :
    Calls Tryz.prog 77 #[.pointer (some ⟨R, 0, none⟩), .int .i64 more.length] w fun e w' => e = .returned (.tuple #[]) ∧ RdAt w' R lo bs vis ∧ Kb R lo w w' := by
  obtain ⟨v, hb, hR, hlo, cs, ho, hl, hB⟩ := h
  have c0 : w.cell? ⟨R, 0, none⟩ = some v := hb.cell 0
  have z0 := hb.frozen 0
  have hll : (bs ++ more).length = bs.length + more.length := List.length_append
  obtain ⟨A, c, rfl, hnc⟩ := own_form2 ho
  rw [hll] at hb ho c0 hnc
  have HLO := Lib.hid hlo
  have HL : Hid (∀ g, (Value.slice A bs.length c).ownBlock = some g → lo g) := fun g hg => hl g (by cases A <;> exact hg)
  clear hlo hl
  go_enter Tryz.func77, Tryz.ntmps77
  go_region
  go_end0
  have hB2 := Bds.take bs.length hB
  rw [List.take_left] at hB2
  obtain ⟨h1, h2⟩ := RdAt.put (v' := .slice A bs.length c) hb hR HLO.out ⟨_, own_cut ho, HL.out, hB2⟩
  exact ⟨rfl, h1.keep (Frm0.drew _), h2.trans (Kb.frm (Frm0.drew _))⟩
end Go.Proofs.YtpdbkdcdlafobaaGreatDoor
end
section
namespace Go.Proofs.YtpdbkdcdlafobaaGreatDoor
open Go.RowKit Go.Shelf
attribute [local go_sem] Oper.semAt_some
/-- What has come when k rounds are over. -/
def upto {α : Type} (f : Nat → α) (k : Nat) : List α := (List.range k).map f
theorem upto_succ {α : Type} (f : Nat → α) (k : Nat) : upto f (k + 1) = upto f k ++ [f k] := by simp [upto, List.range_succ]
theorem upto_length {α : Type} (f : Nat → α) (k : Nat) : (upto f k).length = k := by simp [upto]
/-- A binding beside the value of its types; as a value; as cells. -/
abbrev BV := L.Bnd × (Option Addr × Nat)
def bv0 : BV := (⟨0, [], [], 0⟩, none, 0)
def bargs (z : BV) : Value := .slice z.2.1 z.1.args.length z.2.2
def bval (z : BV) : Value := .agg #[.int .i64 z.1.sort, .string (str z.1.name), bargs z, .int .i64 z.1.result]
/-- What the k-th round sees of a list. -/
def back (zs : List BV) (k : Nat) : Nat × BV := (zs.length - 1 - k, zs[zs.length - 1 - k]?.getD bv0)
set_option maxRecDepth 100000 in
set_option maxHeartbeats 2000000 in
theorem back_in (F : Fence) (n : Nat) (hfn : F.fn 114) (hro : F.round = none) (hn : 1 ≤ n) (l Bs n₀ b cap : Nat) (zs : List BV) (hz : zs.length ≤ 1000000) (hb : b < n₀) (hBn : Bs < n₀) (J Jx : List (Nat × BV) → World → Prop)
    (hY : ∀ pre x W, J pre W → pre.length < zs.length → YieldAt F (n - 1) Tryz.prog l #[.int .i64 (x.1 : Int), bval x.2] W fun e W' =>
      (e = .returned (.bool true) ∧ J (pre ++ [x]) W' ∧ Below n₀ W W') ∨ (e = .returned (.bool false) ∧ Jx (pre ++ [x]) W'))
    (W : World) (hBs : W.cell? ⟨Bs, 0, none⟩ = some (.slice (some ⟨b, 0, none⟩) zs.length cap))
    (hc : ∀ j, j < zs.length → W.cell? ⟨b, j * 4, none⟩ = some (.int .i64 (zs[j]?.getD bv0).1.sort) ∧ W.cell? ⟨b, j * 4 + 1, none⟩ = some (.string (str (zs[j]?.getD bv0).1.name)) ∧ W.cell? ⟨b, j * 4 + 2, none⟩ = some (bargs (zs[j]?.getD bv0)) ∧ W.cell? ⟨b, j * 4 + 3, none⟩ = some (.int .i64 (zs[j]?.getD bv0).1.result)) (h0 : J [] W) :
    CallsIn F n Tryz.prog 114 #[.func (.yield l) #[] #[], .pointer (some ⟨Bs, 0, none⟩)] W fun e W' => (∃ v, e = .returned v) ∧
      ((∃ ys, ys = upto (back zs) zs.length ∧ J ys W') ∨ (∃ pre, (∃ k, k ≤ zs.length ∧ pre = upto (back zs) k) ∧ Jx pre W')) := by
  refine callsIn_of_wp Tryz.func114 rfl hfn ?_ hro
  simp only [Tryz.ntmps114, List.size_toArray, List.length_cons, List.length_nil, Nat.reduceAdd, Nat.reduceSub, Array.replicate_succ, Array.replicate_zero, List.push_toArray, List.append_toArray, List.nil_append, List.cons_append]
  gi_wp2
  gi_loopw [3] (fun i wr => ∃ k : Nat, k ≤ zs.length ∧ i = .int .i64 ((zs.length : Int) - 1 - k) ∧ J (upto (back zs) k) wr ∧ Below n₀ W wr)
    (fun i _ => (intOf i + 1).toNat)
  case atStart => exact ⟨0, Nat.zero_le _, by simp, h0, Below.refl _ _⟩
  case round =>
    obtain ⟨k, hk, rfl, hJs, hnx⟩ := hrel
    by_cases hlt : k < zs.length
    · obtain ⟨j, hj⟩ : ∃ j : Nat, j = zs.length - 1 - k := ⟨_, rfl⟩
      have hij : (zs.length : Int) - 1 - k = (j : Int) := by omega
      have hjl : j < zs.length := by omega
      obtain ⟨fn, tmps, assign, body, hy, hR⟩ := hY _ (back zs k) wr hJs (by rw [upto_length]; exact hlt)
      have hbk : back zs k = (j, zs[j]?.getD bv0) := by rw [back, ← hj]
      rw [hbk] at hy hR
      obtain ⟨c0, c1, c2, c3⟩ := hc j hjl
      have d0 := (hnx.cell (p := ⟨b, j * 4, none⟩) hb).trans c0
      have d1 := (hnx.cell (p := ⟨b, j * 4 + 1, none⟩) hb).trans c1
      have d2 := (hnx.cell (p := ⟨b, j * 4 + 2, none⟩) hb).trans c2
      have d3 := (hnx.cell (p := ⟨b, j * 4 + 3, none⟩) hb).trans c3
      have dS := (hnx.cell (p := ⟨Bs, 0, none⟩) hBn).trans hBs
      rw [hij]
      dsimp only [bval, bargs] at hy d2
      generalize zs[j]?.getD bv0 = z at hy hR d0 d1 d2 d3 hbk
      have HIJ := Lib.hid hij
      have HBK := Lib.hid hbk
      clear c0 c1 c2 c3 hj hij hbk
      gi_wp2
      refine hR.mono ?_
      rintro e W3 (⟨rfl, hJ3, hk3⟩ | ⟨rfl, hJx3⟩)
      · gi_wp2
        go_roundw
        case rel => exact ⟨k + 1, by omega, by rw [show (zs.length : Int) - 1 - ((k + 1 : Nat) : Int) = (j : Int) - 1 from by have := HIJ.out; omega], by rw [upto_succ, HBK.out]; exact hJ3, hnx.trans hk3⟩
        case measure => simp only [intOf]; omega
      · gi_wp2
        refine bodyPost_ret (results_none rfl _ _ _) rfl ?_
        exact ⟨⟨_, rfl⟩, .inr ⟨_, ⟨k + 1, by omega, by rw [upto_succ, HBK.out]⟩, hJx3⟩⟩
    · obtain rfl : k = zs.length := by omega
      gi_wp2
      go_end0
      exact ⟨⟨_, rfl⟩, .inl ⟨_, rfl, hJs⟩⟩
end Go.Proofs.YtpdbkdcdlafobaaGreatDoor
end
