/- The reference's (*Walk).put. The reference's walked. A region that draws its order, told by what holds of all its operations' values together. slices.SortFunc at pairs, of whatever number; Relate. Relate: where it hands back pairs. Relate: where it hands back no pairs. Relate, all its cases; Differ, at every two machines. The reference's Differ. Contracts of the program's functions, with no condition beyond what each theorem states. -/
import Derived.Test.YtiekaicbjinbaaaC02
import Derived.Test.YtiekaicbjinbaaaC08
import Derived.Test.YtiekaicbjinbaaaC10
import Derived.Test.YtiekaicbjinbaaaC03
import Derived.Shelf.SlSortCmp.WholeK
import Derived.Test.YtiekaicbjinbaaaC09
section
namespace Go.Proofs.Ytiekaicbjinbaaa
open Go.RowKit
def wkC (t : A.Tr) : List Value := [.int .i64 t.p.1, .int .i64 t.p.2]
/-- A walk in the block pb; its rows' blocks are such as O tells. -/
def WkV (w : World) (lo pb : Nat) (O : Nat → Prop) (pv fv lv : Value) (ws : List A.Tr) : Prop := Blk w pb 51 #[pv, fv, lv] ∧ w.ownsRow lo 40 2 pv ws.length (ws.flatMap wkC) ∧ w.ownsRow lo 3 1 fv ws.length (ws.map fun t => Value.int .i64 t.before) ∧ w.ownsRow lo 3 1 lv ws.length (ws.map fun t => Value.int .i64 t.letter) ∧
  (∀ g, fv.ownBlock = some g → ¬ lv.ownBlock = some g) ∧ (∀ g, pv.ownBlock = some g → O g) ∧ (∀ g, fv.ownBlock = some g → O g) ∧ (∀ g, lv.ownBlock = some g → O g)
def WkAt (w : World) (lo pb : Nat) (O : Nat → Prop) (ws : List A.Tr) : Prop := ∃ pv fv lv, WkV w lo pb O pv fv lv ws
theorem own_typeN {w : World} {n0 n size : Nat} {e : TypeId} {v : Value} {xs : List Value} (h : w.ownsRow n0 e size v n xs) {g : Nat} (hg : v.ownBlock = some g) : n0 ≤ g ∧ ∃ cs, Blk w g e cs := by
  rcases h.2 with ⟨rfl, _⟩ | ⟨g', cap, cur, rfl, h1, h2, _⟩
  · cases hg
  · injection hg with hg
    subst hg
    exact ⟨h1, cur, h2⟩
theorem WkAt.frm {w w' : World} {lo pb : Nat} {O E : Nat → Prop} {ws : List A.Tr} (h : WkAt w lo pb O ws) (F : Frm E w w') (hp : ¬ E pb) (hO : ∀ b, b < w.heap.size → O b → ¬ E b) : WkAt w' lo pb O ws := by
  obtain ⟨pv, fv, lv, h1, h2, h3, h4, h5, h6, h7, h8⟩ := h
  refine ⟨pv, fv, lv, F.blk h1 hp, F.row h2 (fun g hg => ?_) (Nat.le_refl _), F.row h3 (fun g hg => ?_) (Nat.le_refl _), F.row h4 (fun g hg => ?_) (Nat.le_refl _), h5, h6, h7, h8⟩
  · obtain ⟨_, _, hb⟩ := own_typeN h2 hg
    exact hO g hb.lt (h6 g hg)
  · obtain ⟨_, _, hb⟩ := own_typeN h3 hg
    exact hO g hb.lt (h7 g hg)
  · obtain ⟨_, _, hb⟩ := own_typeN h4 hg
    exact hO g hb.lt (h8 g hg)
theorem WkAt.mono {w : World} {lo pb : Nat} {O O' : Nat → Prop} {ws : List A.Tr} (h : WkAt w lo pb O ws) (hO : ∀ b, O b → O' b) : WkAt w lo pb O' ws := by
  obtain ⟨pv, fv, lv, h1, h2, h3, h4, h5, h6, h7, h8⟩ := h
  exact ⟨pv, fv, lv, h1, h2, h3, h4, h5, fun g hg => hO g (h6 g hg), fun g hg => hO g (h7 g hg), fun g hg => hO g (h8 g hg)⟩
theorem wkC_get : ∀ (l : List A.Tr) (j : Nat) (hj : j < l.length), (l.flatMap wkC)[j * 2]? = some (.int .i64 l[j].p.1) ∧ (l.flatMap wkC)[j * 2 + 1]? = some (.int .i64 l[j].p.2)
  | [], j, hj => by simp at hj
  | a :: l, 0, _ => ⟨rfl, rfl⟩
  | a :: l, j + 1, hj => by
    rw [List.flatMap_cons]
    have := wkC_get l j (by simpa using hj)
    have e : (j + 1) * 2 = (wkC a).length + j * 2 := by simp [wkC]; omega
    rw [List.getElem?_append_right (by rw [e]; omega), List.getElem?_append_right (by rw [e]; omega), e, Nat.add_sub_cancel_left, show (wkC a).length + j * 2 + 1 - (wkC a).length = j * 2 + 1 by omega]
    exact this
theorem WkAt.prs {w : World} {lo : Nat} {pv : Value} {ws : List A.Tr} (h : w.ownsRow lo 40 2 pv ws.length (ws.flatMap wkC)) : Prs2 w (fun g => pv.ownBlock = some g) pv (ws.map A.Tr.p) := by
  obtain ⟨A0, c, rfl⟩ := own_form h
  refine ⟨A0, c, by rw [List.length_map], fun k hk => ?_⟩
  rw [List.length_map] at hk
  rcases h.2 with ⟨_, hn⟩ | ⟨g, cap, cur, e, hb, _⟩
  · omega
  · injection e with e1 e2 e3
    subst e1
    have hc := @World.ownsRow.cells _ _ _ _ _ _ _ h g rfl
    obtain ⟨k1, k2⟩ := wkC_get ws k hk
    have e0 := hc (k * 2) _ k1
    have e1 := hc (k * 2 + 1) _ k2
    rw [add_zero_off] at e0 e1
    refine ⟨g, 0, rfl, rfl, ?_, ?_⟩
    · rw [Nat.zero_add, e0]; simp
    · rw [Nat.zero_add, e1]; simp
theorem wp_app_at {P : Program} {o : Oper} {a : Act} {w : World} {K : Act → World → Prop} {Q : Exit → Act → World → Prop} (s x : Operand) {t e : TypeId} {i : TypeInfo} {z : Value} {bytes size n0 n b : Nat} {v : Value} {us xs : List Value}
    (ho : o.op = .call { callee := .builtin .append, args := #[s, x], argTypes := #[t, t] }) (ht : P.underlying t = some (.slice e)) (hi : P.info? e = some i) (hz : i.zero = some z) (hsize : i.size = size) (hby : i.bytes = bytes) (hzs : z.cells.size = size) (hsz : 0 < size)
    (hv : a.eval s = v) (hx : a.eval x = .slice (some ⟨b, 0, none⟩) 1 1) (hown : w.ownsRow n0 e size v n xs) (hus : us.length = size) (hb : ∀ j y, us[j]? = some y → w.cell? ⟨b, j, none⟩ = some y) (h1 : ∀ u ∈ us, u.oneCell' = true) (h63 : n + 1 ≤ maxLen) (hbytes : (n + 1) * bytes ≤ 140737488355328) (hbase : n0 ≤ w.heap.size)
    (h : ∀ v' w', w'.ownsRow n0 e size v' (n + 1) (xs ++ us) → w.grownBy w' v.ownBlock → (v'.ownBlock = v.ownBlock ∨ v'.ownBlock = some w.heap.size) → K (a.put o.dst v') w') : o.wp P a w K Q := by
  obtain ⟨v', w', hr, h2, h3, _, h4⟩ := run_append_own_at (P := P) w n0 t o.type e i z size bytes ht hi hz hsize hby hzs hsz v n xs hown ⟨b, 0, none⟩ 1 1 us (by rw [hus, Nat.one_mul]) (fun j y hy => by
    rw [add_zero_off]
    exact hb j y hy) h1 h63 hbytes hbase
  unfold Oper.wp execOp
  simp only [ho, resolve, invoke, builtin, Sem.run_bind, Sem.run_pure, Result.andThen_ok, List.map_toArray, List.map_cons, List.map_nil, hv, hx, hr]
  exact h v' w' h2 h3 h4
theorem wpList_app_at {P : Program} {ops : Array Oper} {rest : List Oper} {o : Oper} {a : Act} {w : World} {Q : Exit → Act → World → Prop} (hgd : o.guard = none) (s x : Operand) {t e : TypeId} {i : TypeInfo} {z : Value} {bytes size n0 n b : Nat} {v : Value} {us xs : List Value}
    (ho : o.op = .call { callee := .builtin .append, args := #[s, x], argTypes := #[t, t] }) (ht : P.underlying t = some (.slice e)) (hi : P.info? e = some i) (hz : i.zero = some z) (hsize : i.size = size) (hby : i.bytes = bytes) (hzs : z.cells.size = size) (hsz : 0 < size)
    (hv : a.eval s = v) (hx : a.eval x = .slice (some ⟨b, 0, none⟩) 1 1) (hown : w.ownsRow n0 e size v n xs) (hus : us.length = size) (hb : ∀ j y, us[j]? = some y → w.cell? ⟨b, j, none⟩ = some y) (h1 : ∀ u ∈ us, u.oneCell' = true) (h63 : n + 1 ≤ maxLen) (hbytes : (n + 1) * bytes ≤ 140737488355328) (hbase : n0 ≤ w.heap.size)
    (h : ∀ v' w', w'.ownsRow n0 e size v' (n + 1) (xs ++ us) → w.grownBy w' v.ownBlock → (v'.ownBlock = v.ownBlock ∨ v'.ownBlock = some w.heap.size) → wpList P ops Q rest (a.put o.dst v') w') : wpList P ops Q (o :: rest) a w :=
  wpList_plain hgd fun _ hK => wp_app_at s x ho ht hi hz hsize hby hzs hsz hv hx hown hus hb h1 h63 hbytes hbase fun v' w' h2 h3 h4 => hK _ _ (h v' w' h2 h3 h4)
theorem cell_one0 {w : World} {u : Value} {e : TypeId} : ∀ (j : Nat) (y : Value), [u][j]? = some y → (w.alloc (.cells #[u] e)).cell? ⟨w.heap.size, j, none⟩ = some y := fun j y hy => by
  have := cell_one_at (w := w) (u := u) (e := e) rfl j y hy
  rwa [add_zero_off] at this
theorem cell_one2 {w : World} {u : Value} {e : TypeId} {n : Nat} (hn : w.heap.size = n) : ∀ (j : Nat) (y : Value), [u][j]? = some y → (w.alloc (.cells #[u] e)).cell? ⟨n, j, none⟩ = some y := by
  subst hn
  exact cell_one0
theorem one_int (x : Int) : ∀ u ∈ [Value.int .i64 x], u.oneCell' = true := fun u hu => by
  rw [List.mem_singleton.1 hu]
  rfl
theorem le_alloc {w : World} {o : Obj} {lo : Nat} (h : lo ≤ w.heap.size) : lo ≤ (w.alloc o).heap.size := by simp; omega
def oneP (n1 : Nat) (p : A.Pr) (v : Value) (w : World) : Prop := ∃ g, v = .slice (some ⟨g, 0, none⟩) 1 1 ∧ n1 ≤ g ∧ Blk w g 40 #[.int .i64 p.1, .int .i64 p.2]
def growP (n0 k n1 : Nat) (xs : List Value) (p : A.Pr) (own : Option Nat) (v : Value) (w : World) : Prop := w.ownsRow n0 40 2 v (k + 1) (xs ++ [.int .i64 p.1, .int .i64 p.2]) ∧ (v.ownBlock = own ∨ ∃ g, v.ownBlock = some g ∧ n1 ≤ g)
def RAt (t : TypeId) (own : Option Nat) (a b : World) : Prop := Frm (fun x => own = some x) a b ∧ ∀ x, own = some x → ∃ cs, Blk a x t cs
def RBt (t : TypeId) (ob : Nat) (a b : World) : Prop := Frm (fun x => x = ob) a b ∧ ∃ cs, Blk a ob t cs
theorem RAt.blk {ty : TypeId} {own : Option Nat} {g : Nat} {a b : World} {t : TypeId} {cs : Array Value} (h : RAt ty own a b) (hb : Blk a g t cs) (ht : t ≠ ty) : Blk b g t cs :=
  h.1.blk hb fun e => by obtain ⟨cs', h'⟩ := h.2 g e; exact ht (blk_type hb h')
theorem RBt.blk {ty : TypeId} {ob g : Nat} {a b : World} {t : TypeId} {cs : Array Value} (h : RBt ty ob a b) (hb : Blk a g t cs) (ht : t ≠ ty) : Blk b g t cs :=
  h.1.blk hb fun e => by obtain ⟨cs', h'⟩ := h.2; subst e; exact ht (blk_type hb h')
theorem RBt.row {ty : TypeId} {ob : Nat} {a b : World} (r : RBt ty ob a b) {n0 n size : Nat} {e : TypeId} {v : Value} {xs : List Value} (h : a.ownsRow n0 e size v n xs) (ht : e ≠ ty) : b.ownsRow n0 e size v n xs :=
  r.1.row h (fun g hg e' => by
    obtain ⟨_, cs, h1⟩ := own_typeN h hg
    obtain ⟨cs', h2⟩ := r.2
    subst e'
    exact ht (blk_type h1 h2)) (Nat.le_refl _)
theorem RAt.row {ty : TypeId} {own : Option Nat} {a b : World} (r : RAt ty own a b) {n0 n size : Nat} {e : TypeId} {v : Value} {xs : List Value} (h : a.ownsRow n0 e size v n xs) (ht : e ≠ ty) : b.ownsRow n0 e size v n xs :=
  r.1.row h (fun g hg e' => by
    obtain ⟨_, cs, h1⟩ := own_typeN h hg
    obtain ⟨cs', h2⟩ := r.2 g e'
    exact ht (blk_type h1 h2)) (Nat.le_refl _)
set_option maxRecDepth 100000 in
set_option maxHeartbeats 16000000 in
theorem put_any {w : World} {lo pb : Nat} {O : Nat → Prop} {ws : List A.Tr} (h : WkAt w lo pb O ws) (hl : ws.length ≤ 100000) (hlo : lo ≤ w.heap.size) (p : A.Pr) (bf le : Int) :
    Calls Try.prog 46 #[.pointer (some ⟨pb, 0, none⟩), .agg #[.int .i64 p.1, .int .i64 p.2], .int .i64 bf, .int .i64 le] w fun e w' => e = .returned (.tuple #[]) ∧ WkAt w' lo pb (fun b => O b ∨ w.heap.size ≤ b) (A.wput ws p bf le) ∧ Frm (fun b => b = pb ∨ O b) w w' := by
  obtain ⟨p1, p2⟩ := p
  dsimp only
  have HW := Lib.hid h
  have F0 : Frm (fun _ => False) w (w.alloc (.cells #[.int .i64 p1, .int .i64 p2] 40)) := (Frm.refl _ w).alloc _
  have HF := Lib.hid F0
  have HBX : Hid (Blk (w.alloc (.cells #[.int .i64 p1, .int .i64 p2] 40)) w.heap.size 40 #[.int .i64 p1, .int .i64 p2]) := Blk.new _ _ _
  have y0 := HBX.out.cell 0
  have y1 := HBX.out.cell 1
  have HWP : Hid (A.wput ws (p1, p2) bf le = if (0 ≤ p1 ∨ 0 ≤ p2) ∧ (p1, p2) ∉ ws.map A.Tr.p then ws ++ [⟨(p1, p2), bf, le⟩] else ws) := rfl
  clear h F0
  by_cases hneg : p1 < 0 ∧ p2 < 0
  · obtain ⟨h1, h2⟩ := hneg
    have h1' : decide (0 ≤ p1) = false := by rw [decide_eq_false_iff_not]; omega
    have h2' : decide (0 ≤ p2) = false := by rw [decide_eq_false_iff_not]; omega
    have HE : Hid (A.wput ws (p1, p2) bf le = ws) := by show _ = _; rw [HWP.out, if_neg (fun h => by omega)]
    go_enter Try.func46, Try.ntmps46
    go_wp2_with fail
    go_quiet (fail)
    go_wp2_with fail
    go_end0
    rw [HE.out]
    have F1 : Frm (fun _ => False) w ((w.alloc (.cells #[.int .i64 p1, .int .i64 p2] 40)).drewN nq) := HF.out.drewN nq
    exact ⟨rfl, (HW.out.frm F1 id fun _ _ _ => id).mono fun _ h => .inl h, F1.mono fun _ _ h => h.elim⟩
  · have hor : decide (0 ≤ p1) = true ∨ (decide (0 ≤ p1) = false ∧ decide (0 ≤ p2) = true) := by
      by_cases h : 0 ≤ p1
      · exact .inl (decide_eq_true h)
      · exact .inr ⟨decide_eq_false h, decide_eq_true (by omega)⟩
    have HOR : Hid (0 ≤ p1 ∨ 0 ≤ p2) := by show _ ∨ _; omega
    obtain ⟨pv, fv, lv, hwv⟩ := HW.out
    have b0 := (HF.out.blk hwv.1 id).cell 0
    obtain ⟨AP, cp, rfl⟩ := own_form hwv.2.1
    have HPW : Hid (∀ x, (Value.slice AP ws.length cp).ownBlock = some x → x < w.heap.size) := fun x hx => (own_typeN hwv.2.1 hx).2.elim fun cs hb => hb.lt
    have HV := Lib.hid hwv
    clear hneg hwv
    rcases hor with h1 | ⟨h1, h2⟩
    all_goals
      go_enter Try.func46, Try.ntmps46
      go_wp2_with fail
      have HSZ : Hid (w.heap.size < (w.alloc (.cells #[.int .i64 p1, .int .i64 p2] 40)).heap.size) := HBX.out.lt
      generalize w.alloc (.cells #[.int .i64 p1, .int .i64 p2] 40) = w0 at *
      go_still_tail 14, (by kernel_rfl)
      go_wp2_with fail
      have HV0 : Hid (WkV w0.drew lo pb O (.slice AP ws.length cp) fv lv ws) := by
        obtain ⟨a1, a2, a3, a4, a5⟩ := HV.out
        exact ⟨HF.out.blk a1 id, HF.out.row a2 (fun _ _ => id) (Nat.le_refl _), HF.out.row a3 (fun _ _ => id) (Nat.le_refl _), HF.out.row a4 (fun _ _ => id) (Nat.le_refl _), a5⟩
      refine (rat_any (p := (p1, p2)) (WkAt.prs HV0.out.2.1) (by rw [List.length_map]; unfold maxLen; omega)).mono ?_
      rintro _ w1 ⟨⟨i, rfl, hi⟩, f1⟩
      have HI := Lib.hid hi
      have HBX1 := Lib.hid (f1.blk HBX.out.drew id)
      have HF1 : Hid (Frm (fun _ => False) w w1) := HF.out.drew.trans f1
      have HV1 : Hid (WkV w1 lo pb O (.slice AP ws.length cp) fv lv ws) := by
        obtain ⟨a1, a2, a3, a4, a5⟩ := HV0.out
        exact ⟨f1.blk a1 id, f1.row a2 (fun _ _ => id) (Nat.le_refl _), f1.row a3 (fun _ _ => id) (Nat.le_refl _), f1.row a4 (fun _ _ => id) (Nat.le_refl _), a5⟩
      have HSZ1 : Hid (w.heap.size < w1.heap.size) := HBX1.out.lt
      clear hi f1 HV0 HV HBX HF HSZ b0 y0
      by_cases hi0 : 0 ≤ i
      · have hin : ¬ i < 0 := by omega
        have HE : Hid (A.wput ws (p1, p2) bf le = ws) := by
          show _ = _
          rw [HWP.out, if_neg (fun h => h.2 (HI.out.1 hi0))]
        go_wp2_with fail
        go_end0
        rw [HE.out]
        exact ⟨rfl, WkAt.mono ⟨_, _, _, HV1.out⟩ fun _ h => .inl h, HF1.out.mono fun _ _ h => h.elim⟩
      · have hin : i < 0 := by omega
        have HE : Hid (A.wput ws (p1, p2) bf le = ws ++ [⟨(p1, p2), bf, le⟩]) := by
          show _ = _
          rw [HWP.out, if_pos ⟨HOR.out, fun h => hi0 (HI.out.2 h)⟩]
        clear HI HWP
        go_wp2_with fail
        obtain ⟨a1, a2, a3, a4, a5, a6, a7, a8⟩ := HV1.out
        have HA1 := Lib.hid a1
        have HA2 := Lib.hid a2
        have HA3 := Lib.hid a3
        have HA4 := Lib.hid a4
        have HA5 := Lib.hid a5
        have HA6 := Lib.hid a6
        have HA7 := Lib.hid a7
        have HA8 := Lib.hid a8
        have HPN : Hid (∀ x, (Value.slice AP ws.length cp).ownBlock = some x → lo ≤ x ∧ x < w1.heap.size) := fun x hx => by
          obtain ⟨g1, _, hb⟩ := own_typeN a2 hx
          exact ⟨g1, hb.lt⟩
        have HXN : Hid (∀ b cs (ty : TypeId), Blk w1 b ty cs → ty ≠ 40 → ty ≠ 51 → ¬ (b = pb ∨ (Value.slice AP ws.length cp).ownBlock = some b)) := fun b cs ty hb h1 h2 e => by
          rcases e with e | e
          · subst e; exact h2 (blk_type hb HA1.out)
          · obtain ⟨_, cs', hb'⟩ := own_typeN HA2.out e
            exact h1 (blk_type hb hb')
        have HXP : Hid (∀ {V : World}, Frm (fun b => b = pb ∨ (Value.slice AP ws.length cp).ownBlock = some b) w1 V → V.cell? ⟨w.heap.size, 0, none⟩ = some (.int .i64 p1) ∧ V.cell? ⟨w.heap.size, 1, none⟩ = some (.int .i64 p2)) := fun F => by
          have hn : ¬ (w.heap.size = pb ∨ (Value.slice AP ws.length cp).ownBlock = some w.heap.size) := fun e => by
            rcases e with e | e
            · have h := HA1.out
              rw [← e] at h
              exact absurd (blk_type h HBX1.out) (by decide)
            · have := HPW.out _ e
              omega
          have h := F.blk HBX1.out hn
          exact ⟨h.cell 0, h.cell 1⟩
        have hlo1 : lo ≤ w1.heap.size := by have := HSZ1.out; omega
        clear a1 a2 a3 a4 a5 a6 a7 a8
        refine wp_region_dep [25, 26, 27, 28, 29, 30, 31, 32, 33, 34, 1000] [[0], [1], [2], [3], [4], [5], [6], [7], [8], [9], [7]]
          [f1 (vV (.pointer (some ⟨pb, 0, none⟩))), f1 (vV (.pointer (some ⟨pb, 0, none⟩))), f1 (vV (.pointer (some ⟨pb, 0, none⟩))), f1 (vV (.pointer (some ⟨pb, 0, none⟩))), f1 (vV (.slice AP ws.length cp)), f1 (vV (.agg #[.int .i64 p1, .int .i64 p2])), f1 (oneP w1.heap.size (p1, p2)), f1 (growP lo ws.length w1.heap.size (ws.flatMap wkC) (p1, p2) (Value.slice AP ws.length cp).ownBlock), f1 (vV (.pointer (some ⟨pb, 0, none⟩))), f1 (vV (.pointer (some ⟨pb, 0, none⟩))), f1 (fun v w' => Blk w' pb 51 #[v, fv, lv])]
          (Frm (fun b => b = pb ∨ (Value.slice AP ws.length cp).ownBlock = some b)) (fun i => if i = 7 then RAt 40 (Value.slice AP ws.length cp).ownBlock else if i = 10 then RBt 51 pb else Frm (fun _ => False)) (fun i w' => if i = 7 then w'.ownsRow lo 40 2 (.slice AP ws.length cp) ws.length (ws.flatMap wkC) else if i = 10 ∨ i = 4 then Blk w' pb 51 #[.slice AP ws.length cp, fv, lv] else True) []
          [(0, .pointer (some ⟨pb, 0, none⟩)), (5, .pointer (some ⟨w.heap.size, 0, none⟩))] (by kernel_rfl) (by kernel_rfl) (fun _ _ _ => Frm.trans) ?_ ?_ ?_ ?_ (fun _ h => by cases h) (Frm.refl _ _).drew ?_ ?_ ?_
        · intro i a b h
          split at h
          · exact h.1.mono fun _ _ h => .inr h
          · split at h
            · exact h.1.mono fun _ _ h => .inl h
            · exact h.mono fun _ _ h => h.elim
        · intro j' i hj' hi hne hna l' a b hf hr
          have hj2 : j' < 11 := hj'
          by_cases h7 : i = 7
          · subst h7
            rw [if_pos rfl] at hr
            by_cases e6 : j' = 6
            · subst e6
              obtain ⟨b', e, hb1, hb2⟩ := hf
              refine ⟨b', e, hb1, hr.1.blk hb2 fun e' => ?_⟩
              have := (HPN.out b' e').2
              omega
            · have hcs : j' = 0 ∨ j' = 1 ∨ j' = 2 ∨ j' = 3 ∨ j' = 4 ∨ j' = 5 ∨ j' = 8 ∨ j' = 9 ∨ j' = 10 := by omega
              rcases hcs with rfl | rfl | rfl | rfl | rfl | rfl | rfl | rfl | rfl <;> first | exact hf | (simp at hna)
          · rw [if_neg h7] at hr
            by_cases h10 : i = 10
            · subst h10
              rw [if_pos rfl] at hr
              by_cases e6 : j' = 6
              · subst e6
                obtain ⟨b', e, hb1, hb2⟩ := hf
                exact ⟨b', e, hb1, hr.blk hb2 (by decide)⟩
              · by_cases e7 : j' = 7
                · subst e7
                  exact ⟨hr.row hf.1 (by decide), hf.2⟩
                · have hcs : j' = 0 ∨ j' = 1 ∨ j' = 2 ∨ j' = 3 ∨ j' = 4 ∨ j' = 5 ∨ j' = 8 ∨ j' = 9 := by omega
                  rcases hcs with rfl | rfl | rfl | rfl | rfl | rfl | rfl | rfl <;> exact hf
            · rw [if_neg h10] at hr
              by_cases e6 : j' = 6
              · subst e6
                obtain ⟨b', e, hb1, hb2⟩ := hf
                exact ⟨b', e, hb1, hr.blk hb2 id⟩
              · by_cases e7 : j' = 7
                · subst e7
                  exact ⟨hr.row hf.1 (fun _ _ => id) (Nat.le_refl _), hf.2⟩
                · by_cases e10 : j' = 10
                  · subst e10
                    exact hr.blk hf id
                  · have hcs : j' = 0 ∨ j' = 1 ∨ j' = 2 ∨ j' = 3 ∨ j' = 4 ∨ j' = 5 ∨ j' = 8 ∨ j' = 9 := by omega
                    rcases hcs with rfl | rfl | rfl | rfl | rfl | rfl | rfl | rfl <;> exact hf
        · intro i j' hj' hne hna a b hf hr
          by_cases h7 : i = 7
          · subst h7
            rw [if_pos rfl] at hf ⊢
            rw [if_neg (Ne.symm hne)] at hr
            by_cases h10 : j' = 10
            · subst h10
              simp at hna
            · rw [if_neg h10] at hr
              exact hr.row hf (fun _ _ => id) (Nat.le_refl _)
          · rw [if_neg h7] at hf ⊢
            by_cases h10 : i = 10 ∨ i = 4
            · rw [if_pos h10] at hf ⊢
              by_cases j7 : j' = 7
              · rw [if_pos j7] at hr
                exact hr.blk hf (by decide)
              · rw [if_neg j7] at hr
                by_cases j10 : j' = 10
                · subst j10
                  rcases h10 with h | h
                  · exact absurd h hne
                  · subst h
                    simp at hna
                · rw [if_neg j10] at hr
                  exact hr.blk hf id
            · rw [if_neg h10]
              trivial
        · intro i
          split
          · exact HA2.out
          · split
            · exact HA1.out
            · trivial
        · intro x hx
          simp only [List.mem_cons, List.not_mem_nil, or_false] at hx
          rcases hx with rfl | rfl <;> exact ⟨by simp, rfl⟩
        · refine ⟨?_, ?_, ?_, ?_, ?_, ?_, ?_, ?_, ?_, ?_, ?_, trivial⟩
          · intro Q tm df V hR _ hu hd
            have u1 : tm[0]?.getD undef = .pointer (some ⟨pb, 0, none⟩) := hu (0, _) (by simp)
            clear hu hd
            go_simp
            exact ⟨_, rfl, rfl, Frm.refl _ V⟩
          · intro Q tm df V hR _ hu hd
            have u1 : tm[0]?.getD undef = .pointer (some ⟨pb, 0, none⟩) := hu (0, _) (by simp)
            clear hu hd
            go_simp
            exact ⟨_, rfl, rfl, Frm.refl _ V⟩
          · intro Q tm df V hR _ hu hd
            have e0 : tm[26]?.getD undef = .pointer (some ⟨pb, 0, none⟩) := hd 1 (by simp)
            clear hu hd
            go_simp
            exact ⟨_, rfl, rfl, Frm.refl _ V⟩
          · intro Q tm df V hR _ hu hd
            have e0 : tm[27]?.getD undef = .pointer (some ⟨pb, 0, none⟩) := hd 2 (by simp)
            clear hu hd
            go_simp
            exact ⟨_, rfl, rfl, Frm.refl _ V⟩
          · intro Q tm df V hR hx hu hd
            have hb : Blk V pb 51 #[.slice AP ws.length cp, fv, lv] := hx
            have e0 : tm[28]?.getD undef = .pointer (some ⟨pb, 0, none⟩) := hd 3 (by simp)
            have y := hb.cell 0
            clear hu hd hb
            go_simp
            exact ⟨_, rfl, rfl, Frm.refl _ V⟩
          · intro Q tm df V hR hx hu hd
            have u1 : tm[5]?.getD undef = .pointer (some ⟨w.heap.size, 0, none⟩) := hu (5, _) (by simp)
            obtain ⟨k0, k1⟩ := HXP.out hR
            clear hu hd
            go_simp
            exact ⟨_, rfl, rfl, Frm.refl _ V⟩
          · intro Q tm df V hR hx hu hd
            have e0 : tm[30]?.getD undef = .agg #[.int .i64 p1, .int .i64 p2] := hd 5 (by simp)
            clear hu hd hx
            go_simp
            exact ⟨_, rfl, ⟨V.heap.size, rfl, hR.1, Blk.new _ _ _⟩, (Frm.refl _ V).alloc _⟩
          · intro Q tm df V hR hx hu hd
            have hown : V.ownsRow lo 40 2 (.slice AP ws.length cp) ws.length (ws.flatMap wkC) := hx
            have e1 : tm[29]?.getD undef = .slice AP ws.length cp := hd 4 (by simp)
            obtain ⟨b', e9, hb1, hb2⟩ : oneP w1.heap.size (p1, p2) (tm[31]?.getD undef) V := hd 6 (by simp)
            obtain ⟨i0, hi0, hz0, hz1, hz2⟩ := info_parts info_pair_
            refine wp_app_at (.tmp 29) (.tmp 31) rfl Try.underlying35 hi0 hz0 hz1 hz2 rfl (by decide) (by simpa [Act.eval] using e1) (by simpa [Act.eval] using e9) hown (us := [.int .i64 p1, .int .i64 p2]) rfl (fun j y hy => by rw [hb2.cell j]; simpa using hy) (fun u hu => by simp only [List.mem_cons, List.not_mem_nil, or_false] at hu; rcases hu with rfl | rfl <;> rfl) (by unfold maxLen; omega) (by omega) (by have := hR.1; omega) fun v' w' ho hg ho2 => ?_
            exact ⟨v', rfl, (fun h => by cases h), ⟨ho, ho2.imp id fun h => ⟨_, h, hR.1⟩⟩, (Frm.refl _ V).grown hg (fun g h _ => h), fun x hx' => (own_typeN hown hx').2⟩
          · intro Q tm df V hR _ hu hd
            have e0 : tm[25]?.getD undef = .pointer (some ⟨pb, 0, none⟩) := hd 0 (by simp)
            clear hu hd
            go_simp
            exact ⟨_, rfl, rfl, Frm.refl _ V⟩
          · intro Q tm df V hR _ hu hd
            have e0 : tm[33]?.getD undef = .pointer (some ⟨pb, 0, none⟩) := hd 8 (by simp)
            clear hu hd
            go_simp
            exact ⟨_, rfl, rfl, Frm.refl _ V⟩
          · intro Q tm df V hR hx hu hd
            have hb : Blk V pb 51 #[.slice AP ws.length cp, fv, lv] := hx
            have e0 : tm[34]?.getD undef = .pointer (some ⟨pb, 0, none⟩) := hd 9 (by simp)
            have ho : growP lo ws.length w1.heap.size (ws.flatMap wkC) (p1, p2) (Value.slice AP ws.length cp).ownBlock (tm[32]?.getD undef) V := hd 7 (by simp)
            obtain ⟨A10, c10, e10⟩ := own_form ho.1
            have y := hb.cell 0
            have z := hb.frozen 0
            have hrb : RBt 51 pb V (V.setCell ⟨pb, 0, none⟩ (.slice A10 (ws.length + 1) c10)) := ⟨(Frm.refl (fun x => x = pb) V).set_ (p := ⟨pb, 0, none⟩) (fun _ => rfl) _, _, hb⟩
            have HRB := Lib.hid hrb
            have HH2 : Hid (Blk (V.setCell ⟨pb, 0, none⟩ (.slice A10 (ws.length + 1) c10)) pb 51 #[.slice A10 (ws.length + 1) c10, fv, lv]) := hb.set_ 0 _
            have H10 := Lib.hid e10
            clear hu hd ho hb hrb
            go_simp
            exact ⟨by rw [show f1 _ _ _ = Blk _ _ _ _ from rfl, show updV _ 10 undef 7 = tm[32]?.getD undef from rfl, H10.out]; exact HH2.out, HRB.out⟩
        · intro vs V hR hf
          have hN : Blk V pb 51 #[vs 7, fv, lv] := hf 10 (by decide)
          have hG : growP lo ws.length w1.heap.size (ws.flatMap wkC) (p1, p2) (Value.slice AP ws.length cp).ownBlock (vs 7) V := hf 7 (by decide)
          obtain ⟨hG1, hG2⟩ := hG
          have HG1 := Lib.hid hG1
          have HGO : Hid (∀ g, (vs 7).ownBlock = some g → O g ∨ w.heap.size ≤ g) := fun g hg => by
            rcases hG2 with e | ⟨g', e, h⟩
            · exact .inl (HA6.out g (by rw [← e]; exact hg))
            · rw [e] at hg
              injection hg with hg
              have := HSZ1.out
              exact .inr (by omega)
          have HN := Lib.hid hN
          have HA3' : Hid (V.ownsRow lo 3 1 fv ws.length (ws.map fun t => Value.int .i64 t.before)) := hR.row HA3.out (fun g hg => by
            obtain ⟨_, cs, hb⟩ := own_typeN HA3.out hg
            exact HXN.out g cs _ hb (by decide) (by decide)) (Nat.le_refl _)
          have HA4' : Hid (V.ownsRow lo 3 1 lv ws.length (ws.map fun t => Value.int .i64 t.letter)) := hR.row HA4.out (fun g hg => by
            obtain ⟨_, cs, hb⟩ := own_typeN HA4.out hg
            exact HXN.out g cs _ hb (by decide) (by decide)) (Nat.le_refl _)
          have HFV : Hid (Frm (fun b => b = pb ∨ O b) w V) := (HF1.out.mono fun _ _ h => h.elim).trans (hR.mono fun b _ h => by
            rcases h with h | h
            · exact .inl h
            · exact .inr (HA6.out b h))
          have HLV : Hid (w.heap.size < V.heap.size) := show _ < _ by have := hR.1; have := HSZ1.out; omega
          clear hN hG1 hG2 hR hf HA1 HA2 HA3 HA4 HA6 HPN HXN HXP HBX1 HF1 HV1
          simp only [putAll, List.size_toArray, List.length_cons, List.length_nil, Nat.zero_add, Nat.reduceAdd, show List.range 11 = [0, 1, 2, 3, 4, 5, 6, 7, 8, 9, 10] from rfl, List.foldl_cons, List.foldl_nil, List.getD_cons_zero, List.getD_cons_succ, List.setIfInBounds_toArray, List.set_cons_zero, List.set_cons_succ]
          obtain ⟨AF, cf, rfl⟩ := own_form HA3'.out
          have b1 := HN.out.cell 1
          obtain ⟨i0, hi0, hz0, hz1, hz2⟩ := info_parts info_int
          have hq3 : ws.length + 1 ≤ maxLen := by unfold maxLen; omega
          have hq4 : (ws.length + 1) * 8 ≤ 140737488355328 := by omega
          have hq5 : lo ≤ V.heap.size := by have := HLV.out; omega
          have HQ3 := Lib.hid hq3
          have HQ4 := Lib.hid hq4
          have HQ5 := Lib.hid hq5
          clear hq3 hq4 hq5
          go_wp2_with (at_builtin; refine wpList_app_at (P := Try.prog) rfl _ _ rfl Try.underlying28 hi0 hz0 hz1 hz2 rfl (by decide) rfl rfl (World.ownsRow.alloc HA3'.out _) (us := [.int .i64 bf]) rfl cell_one0 (one_int bf) HQ3.out HQ4.out (le_alloc HQ5.out) ?_)
          intro v' w4 hown hgrow hob2
          have FG : Frm (fun x => (Value.slice AF ws.length cf).ownBlock = some x) V w4 := ((Frm.refl _ V).alloc _).grown hgrow fun g h _ => h
          have hne : ∀ {g : Nat} {t' : TypeId} {cs : Array Value}, Blk V g t' cs → t' ≠ 3 → ¬ (Value.slice AF ws.length cf).ownBlock = some g := fun {g t' cs} hb ht e => by
            obtain ⟨_, cs', hb'⟩ := own_typeN HA3'.out e
            exact ht (blk_type hb hb')
          have HN2 := Lib.hid (FG.blk HN.out (hne HN.out (by decide)))
          have HG2 : Hid (w4.ownsRow lo 40 2 (vs 7) (ws.length + 1) (ws.flatMap wkC ++ [.int .i64 p1, .int .i64 p2])) := FG.row HG1.out (fun g hg => by
            obtain ⟨_, cs', hb'⟩ := own_typeN HG1.out hg
            exact hne hb' (by decide)) (Nat.le_refl _)
          have HL2 : Hid (w4.ownsRow lo 3 1 lv ws.length (ws.map fun t => Value.int .i64 t.letter)) := FG.row HA4'.out (fun g hg e => HA5.out g e hg) (Nat.le_refl _)
          have HFO : Hid (∀ g, v'.ownBlock = some g → O g ∨ w.heap.size ≤ g) := fun g hg => by
            rcases hob2 with e | e
            · exact .inl (HA7.out g (by rw [← e]; exact hg))
            · rw [e] at hg
              injection hg with hg
              have := HLV.out
              try simp at hg
              exact .inr (by omega)
          have HNE : Hid (∀ g, v'.ownBlock = some g → ¬ lv.ownBlock = some g) := fun g hg hl => by
            rcases hob2 with e | e
            · exact HA5.out g (by rw [← e]; exact hg) hl
            · rw [e] at hg
              injection hg with hg
              obtain ⟨_, cs', hb'⟩ := own_typeN HA4'.out hl
              have := hb'.lt
              try simp at hg
              omega
          have HF4 : Hid (Frm (fun b => b = pb ∨ O b) w w4) := HFV.out.trans (FG.mono fun b _ h => .inr (HA7.out b h))
          have HLW : Hid (w.heap.size < w4.heap.size) := show _ < _ by have := FG.1; have := HLV.out; omega
          have HR3 : Hid (w4.ownsRow lo 3 1 v' (ws.length + 1) ((ws.map fun t => Value.int .i64 t.before) ++ [.int .i64 bf])) := hown
          obtain ⟨AF2, cf2, rfl⟩ := own_form hown
          clear hown hgrow hob2 FG hne HN HG1 HA3' HA4' HA5 HA7 HFV HLV b1
          have b1 := HN2.out.cell 1
          have bf1 := HN2.out.frozen 1
          have HRB : Hid (RBt 51 pb w4 (w4.setCell ⟨pb, 1, none⟩ (.slice AF2 (ws.length + 1) cf2))) := ⟨Frm.one pb 1 _, _, HN2.out⟩
          have HN3 : Hid (Blk (w4.setCell ⟨pb, 1, none⟩ (.slice AF2 (ws.length + 1) cf2)) pb 51 #[vs 7, .slice AF2 (ws.length + 1) cf2, lv]) := HN2.out.set_ 1 _
          have HG3 := Lib.hid (HRB.out.row HG2.out (by decide))
          have HR4 := Lib.hid (HRB.out.row HR3.out (by decide))
          have HL3 := Lib.hid (HRB.out.row HL2.out (by decide))
          have HF5 : Hid (Frm (fun b => b = pb ∨ O b) w (w4.setCell ⟨pb, 1, none⟩ (.slice AF2 (ws.length + 1) cf2))) := HF4.out.trans (HRB.out.1.mono fun b _ h => .inl h)
          have HLX : Hid (w.heap.size < (w4.setCell ⟨pb, 1, none⟩ (.slice AF2 (ws.length + 1) cf2)).heap.size) := show _ < _ by have := HRB.out.1.1; have := HLW.out; omega
          have hq6 : Hid (lo ≤ (w4.setCell ⟨pb, 1, none⟩ (.slice AF2 (ws.length + 1) cf2)).heap.size) := by have := HLX.out; show _ ≤ _; omega
          have HSZ6 : Hid ((w4.setCell ⟨pb, 1, none⟩ (.slice AF2 (ws.length + 1) cf2)).heap.size = w4.heap.size) := by show _ = _; simp
          obtain ⟨AL, cl, rfl⟩ := own_form HL3.out
          have b2 := HN3.out.cell 2
          go_wp2_with (at_builtin; refine wpList_app_at (P := Try.prog) rfl _ _ rfl Try.underlying28 hi0 hz0 hz1 hz2 rfl (by decide) rfl rfl (World.ownsRow.alloc HL3.out _) (us := [.int .i64 le]) rfl (cell_one2 HSZ6.out) (one_int le) HQ3.out HQ4.out (le_alloc hq6.out) ?_)
          intro v' w7 hown hgrow hob2
          clear b1 bf1
          generalize w4.setCell ⟨pb, 1, none⟩ (.slice AF2 (ws.length + 1) cf2) = W6 at *
          have FG : Frm (fun x => (Value.slice AL ws.length cl).ownBlock = some x) W6 w7 := ((Frm.refl _ W6).alloc _).grown hgrow fun g h _ => h
          have hne : ∀ {g : Nat} {t' : TypeId} {cs : Array Value}, Blk W6 g t' cs → t' ≠ 3 → ¬ (Value.slice AL ws.length cl).ownBlock = some g := fun {g t' cs} hb ht e => by
            obtain ⟨_, cs', hb'⟩ := own_typeN HL3.out e
            exact ht (blk_type hb hb')
          have HN4 := Lib.hid (FG.blk HN3.out (hne HN3.out (by decide)))
          have HG4 : Hid (w7.ownsRow lo 40 2 (vs 7) (ws.length + 1) (ws.flatMap wkC ++ [.int .i64 p1, .int .i64 p2])) := FG.row HG3.out (fun g hg => by
            obtain ⟨_, cs', hb'⟩ := own_typeN HG3.out hg
            exact hne hb' (by decide)) (Nat.le_refl _)
          have HR5 : Hid (w7.ownsRow lo 3 1 (.slice AF2 (ws.length + 1) cf2) (ws.length + 1) ((ws.map fun t => Value.int .i64 t.before) ++ [.int .i64 bf])) := FG.row HR4.out (fun g hg e => HNE.out g hg e) (Nat.le_refl _)
          have HLO : Hid (∀ g, v'.ownBlock = some g → O g ∨ w.heap.size ≤ g) := fun g hg => by
            rcases hob2 with e | e
            · exact .inl (HA8.out g (by rw [← e]; exact hg))
            · rw [e] at hg
              injection hg with hg
              have := HLX.out
              have := HSZ6.out
              try simp at hg
              exact .inr (by omega)
          have HNE2 : Hid (∀ g, (Value.slice AF2 (ws.length + 1) cf2).ownBlock = some g → ¬ v'.ownBlock = some g) := fun g hf hg => by
            rcases hob2 with e | e
            · exact HNE.out g hf (by rw [← e]; exact hg)
            · rw [e] at hg
              injection hg with hg
              obtain ⟨_, cs', hb'⟩ := own_typeN HR4.out hf
              have := hb'.lt
              have := HSZ6.out
              try simp at hg
              omega
          have HF7 : Hid (Frm (fun b => b = pb ∨ O b) w w7) := HF5.out.trans (FG.mono fun b _ h => .inr (HA8.out b h))
          have HL5 : Hid (w7.ownsRow lo 3 1 v' (ws.length + 1) ((ws.map fun t => Value.int .i64 t.letter) ++ [.int .i64 le])) := hown
          obtain ⟨AL2, cl2, rfl⟩ := own_form hown
          clear hown hgrow hob2 FG hne HN3 HG3 HR4 HL3 HF5 b2
          have b1 := HN4.out.cell 2
          have bf1 := HN4.out.frozen 2
          have HRB2 : Hid (RBt 51 pb w7 (w7.setCell ⟨pb, 2, none⟩ (.slice AL2 (ws.length + 1) cl2))) := ⟨Frm.one pb 2 _, _, HN4.out⟩
          have HN5 : Hid (Blk (w7.setCell ⟨pb, 2, none⟩ (.slice AL2 (ws.length + 1) cl2)) pb 51 #[vs 7, .slice AF2 (ws.length + 1) cf2, .slice AL2 (ws.length + 1) cl2]) := HN4.out.set_ 2 _
          go_wp2_with fail
          go_end0
          have hlen : (ws ++ [(⟨(p1, p2), bf, le⟩ : A.Tr)]).length = ws.length + 1 := by simp
          have h1 := HRB2.out.row HG4.out (by decide)
          have h2 := HRB2.out.row HR5.out (by decide)
          have h3 := HRB2.out.row HL5.out (by decide)
          rw [HE.out]
          refine ⟨rfl, ⟨_, _, _, HN5.out, ?_, ?_, ?_, HNE2.out, HGO.out, HFO.out, HLO.out⟩, HF7.out.trans (HRB2.out.1.mono fun b _ h => .inl h)⟩
          · rw [hlen, List.flatMap_append]; exact h1
          · rw [hlen, List.map_append]; exact h2
          · rw [hlen, List.map_append]; exact h3
end Go.Proofs.Ytiekaicbjinbaaa
end
section
namespace Go.Proofs.Ytiekaicbjinbaaa
open Go.RowKit
/-- Pairs that are each there once, none of them nowhere twice. -/
def A.NP (ws : List A.Tr) : Prop := (ws.map A.Tr.p).Nodup ∧ ∀ t ∈ ws, 0 ≤ t.p.1 ∨ 0 ≤ t.p.2
theorem A.NP.put {ws : List A.Tr} (h : A.NP ws) (p : A.Pr) (bf l : Int) : A.NP (A.wput ws p bf l) := by
  refine ⟨A.wput_nd h.1, fun t ht => ?_⟩
  unfold A.wput at ht
  split at ht
  · rename_i hc
    rcases List.mem_append.1 ht with ht | ht
    · exact h.2 t ht
    · rw [List.mem_singleton.1 ht]
      exact hc.1
  · exact h.2 t ht
theorem A.wlk0_np (a b : A.Mac) : A.NP (A.wlk0 a b) := A.NP.put (ws := []) ⟨List.nodup_nil, fun t ht => by cases ht⟩ _ _ _
theorem A.WT.on {a b : A.Mac} {i : Nat} {ws : List A.Tr} {W : Nat → List Int} {L : Nat} (h1 : A.WT a b i L ws W) (hL : a.letters ≤ L) : A.WT a b (i + 1) 0 ws W :=
  ⟨h1.pr, h1.ok, h1.inc, fun j hj => by
    rcases h1.bk j hj with e | ⟨m, e1, e2, e3, e4, e5⟩
    · exact Or.inl e
    · exact Or.inr ⟨m, e1, e2, e3, e4, by omega⟩, h1.sn, fun j hj l hl' hjl => h1.cl j hj l hl' (by omega)⟩
theorem WkAt.ge {w : World} {lo pb : Nat} {O : Nat → Prop} {ws : List A.Tr} (h : WkAt w lo pb O ws) : WkAt w lo pb (fun b => lo ≤ b ∧ b < w.heap.size) ws := by
  obtain ⟨pv, fv, lv, h1, h2, h3, h4, h5, h6, h7, h8⟩ := h
  exact ⟨pv, fv, lv, h1, h2, h3, h4, h5, fun g hg => ⟨(own_typeN h2 hg).1, (own_typeN h2 hg).2.elim fun _ hb => hb.lt⟩, fun g hg => ⟨(own_typeN h3 hg).1, (own_typeN h3 hg).2.elim fun _ hb => hb.lt⟩, fun g hg => ⟨(own_typeN h4 hg).1, (own_typeN h4 hg).2.elim fun _ hb => hb.lt⟩⟩
theorem own_intsN {w : World} {n2 : Nat} {v : Value} {l : List Int} {n : Nat} (hn : n = l.length) (h : w.ownsRow n2 3 1 v n (l.map (Value.int .i64))) : Ints w (fun b => n2 ≤ b) v l := by
  subst hn
  obtain ⟨A0, c, rfl⟩ := own_form h
  refine ⟨A0, c, rfl, fun k hk => ?_⟩
  rcases h.2 with ⟨_, hn⟩ | ⟨g, cap, cur, e, hb, _⟩
  · omega
  · injection e with e1 e2 e3
    subst e1
    have hc := @World.ownsRow.cells _ _ _ _ _ _ _ h g rfl k (.int .i64 l[k]) (by simp [hk])
    rw [add_zero_off] at hc
    exact ⟨g, 0, rfl, hb, by rw [Nat.zero_add]; exact hc⟩
theorem Prs2.mono_ {w : World} {P Q : Nat → Prop} {v : Value} {l : List A.Pr} (h : Prs2 w P v l) (hPQ : ∀ b, P b → Q b) : Prs2 w Q v l := by
  obtain ⟨A0, c, e, h⟩ := h
  exact ⟨A0, c, e, fun k hk => by obtain ⟨g, o, h1, h2, h3⟩ := h k hk; exact ⟨g, o, h1, hPQ g h2, h3⟩⟩
/-- What a walk's value reads as. -/
def WalkV (w : World) (lo : Nat) (v : Value) (ws : List A.Tr) : Prop := ∃ pv fv lv, v = .agg #[pv, fv, lv] ∧ Prs2 w (fun b => lo ≤ b) pv (ws.map A.Tr.p) ∧ Ints w (fun b => lo ≤ b) fv (ws.map A.Tr.before) ∧ Ints w (fun b => lo ≤ b) lv (ws.map A.Tr.letter)
theorem wk_pair {w : World} {lo n cp : Nat} {AP : Option Addr} {ws : List A.Tr} (h : w.ownsRow lo 40 2 (.slice AP n cp) ws.length (ws.flatMap wkC)) {i : Nat} (hi : i < ws.length) : ∃ g, AP = some ⟨g, 0, none⟩ ∧ w.cell? ⟨g, i * 2, none⟩ = some (.int .i64 ws[i].p.1) ∧ w.cell? ⟨g, i * 2 + 1, none⟩ = some (.int .i64 ws[i].p.2) := by
  rcases h.2 with ⟨_, hn⟩ | ⟨g, cap, cur, e, hb, _⟩
  · omega
  · injection e with e1 e2 e3
    subst e1
    have hc := @World.ownsRow.cells _ _ _ _ _ _ _ h g rfl
    obtain ⟨k1, k2⟩ := wkC_get ws i hi
    have e0 := hc (i * 2) _ k1
    have e1 := hc (i * 2 + 1) _ k2
    rw [add_zero_off] at e0 e1
    exact ⟨g, rfl, e0, e1⟩
def qP (n1 : Nat) (v : Value) (w : World) : Prop := ∃ g k0 k1, v = .pointer (some ⟨g, 0, none⟩) ∧ n1 ≤ g ∧ Blk w g 40 #[k0, k1]
def qQ (n1 : Nat) (q : A.Pr) (v : Value) (w : World) : Prop := ∃ g, v = .pointer (some ⟨g, 0, none⟩) ∧ n1 ≤ g ∧ Blk w g 40 #[.int .i64 q.1, .int .i64 q.2]
def RQ (n1 : Nat) (a b : World) : Prop := ∃ g k0 k1, n1 ≤ g ∧ Blk b g 40 #[k0, k1] ∧ Frm (fun x => x = g) a b
theorem qP.rq {n1 : Nat} {v : Value} {a b : World} (h : qP n1 v a) (r : RQ n1 a b) : qP n1 v b := by
  obtain ⟨g, k0, k1, e, hg, hb⟩ := h
  obtain ⟨g', k0', k1', h1, h2, F⟩ := r
  by_cases e' : g = g'
  · subst e'
    exact ⟨g, k0', k1', e, hg, h2⟩
  · exact ⟨g, k0, k1, e, hg, F.blk hb e'⟩
theorem qP.q {n1 : Nat} {v : Value} {a b : World} (h : qP n1 v a) (r : Frm (fun _ => False) a b) : qP n1 v b := by
  obtain ⟨g, k0, k1, e, hg, hb⟩ := h
  exact ⟨g, k0, k1, e, hg, r.blk hb id⟩
theorem qQ.q {n1 : Nat} {q : A.Pr} {v : Value} {a b : World} (h : qQ n1 q v a) (r : Frm (fun _ => False) a b) : qQ n1 q v b := by
  obtain ⟨g, e, hg, hb⟩ := h
  exact ⟨g, e, hg, r.blk hb id⟩
def put3 (w : World) (b : Nat) (x y z : Value) : World := ((w.setCell ⟨b, 0, none⟩ x).setCell ⟨b, 1, none⟩ y).setCell ⟨b, 2, none⟩ z
theorem put3_blk {w : World} {b : Nat} {t : TypeId} {c0 c1 c2 x y z : Value} (h : Blk w b t #[c0, c1, c2]) : Blk (put3 w b x y z) b t #[x, y, z] := ((h.set_ 0 x).set_ 1 y).set_ 2 z
theorem put3_frm1 {w : World} {b : Nat} {x y z : Value} : Frm (fun c => c = b) w (put3 w b x y z) :=
  (((Frm.refl (fun c => c = b) w).set_ (p := ⟨b, 0, none⟩) (fun _ => rfl) x).set_ (p := ⟨b, 1, none⟩) (fun _ => rfl) y).set_ (p := ⟨b, 2, none⟩) (fun _ => rfl) z
def zeroW : Array Value := #[.slice none 0 0, .slice none 0 0, .slice none 0 0]
set_option maxRecDepth 100000 in
set_option maxHeartbeats 16000000 in
theorem walked_any {w : World} {P Q : Nat → Prop} {v v' : Value} {a b : A.Mac} (h : MachAt w P v a) (h' : MachAt w Q v' b) (h2 : A.Two a b) (most : Int) (hB : (1 + a.next.length) * (1 + b.next.length) ≤ 20000) (hm : (((1 + a.next.length) * (1 + b.next.length) : Nat) : Int) ≤ most) (hmo : most ≤ 1073741824) :
    Calls Try.prog 21 #[v, v', .bool false, .int .i64 most] w fun e w' => ∃ r ws W, e = .returned r ∧ WalkV w' w.heap.size r ws ∧ A.WT a b ws.length 0 ws W ∧ A.NP ws ∧ Frm (fun _ => False) w w' := by
  obtain ⟨A1, c1, A2, c2, rfl⟩ := h.form
  obtain ⟨B1, d1, B2, d2, rfl⟩ := h'.form
  obtain ⟨L, hL⟩ := Int.eq_ofNat_of_zero_le h2.fa.letters
  have HM := Lib.hid h
  have HM' := Lib.hid h'
  have H2 := Lib.hid h2
  have HL := Lib.hid hL
  obtain ⟨B, hBB⟩ : ∃ B, B = (1 + a.next.length) * (1 + b.next.length) := ⟨_, rfl⟩
  have HBB := Lib.hid hBB
  rw [← hBB] at hB hm
  obtain ⟨mo, rfl⟩ := Int.eq_ofNat_of_zero_le (show 0 ≤ most by omega)
  obtain ⟨s, hs⟩ : ∃ s, s = w.heap.size := ⟨_, rfl⟩
  obtain ⟨W1, hW1⟩ : ∃ W1, W1 = (((w.alloc (.cells (macC a A1 c1 A2 c2) 25)).alloc (.cells (macC b B1 d1 B2 d2) 25)).alloc (.cells zeroW 51)).alloc (.cells zeroW 51) := ⟨_, rfl⟩
  have HA : Hid (Blk W1 s 25 (macC a A1 c1 A2 c2)) := by rw [hW1, hs]; exact (((Blk.new w _ _).alloc _).alloc _).alloc _
  have HBx : Hid (Blk W1 (s + 1) 25 (macC b B1 d1 B2 d2)) := by rw [hW1, hs]; exact ((blk_at (by simp)).alloc _).alloc _
  have HZ : Hid (Blk W1 (s + 2) 51 zeroW) := by rw [hW1, hs]; exact (blk_at (by simp)).alloc _
  have HK : Hid (WkAt W1 (s + 4) (s + 3) (fun b => s + 4 ≤ b) []) := by
    refine ⟨.slice none 0 0, .slice none 0 0, .slice none 0 0, ?_, World.ownsRow_nil _ _ _ _, World.ownsRow_nil _ _ _ _, World.ownsRow_nil _ _ _ _, (fun g hg => by cases hg), (fun g hg => by cases hg), (fun g hg => by cases hg), (fun g hg => by cases hg)⟩
    rw [hW1, hs]
    exact blk_at (by simp)
  have HF : Hid (Frm (fun _ => False) w W1) := by rw [hW1]; exact ((((Frm.refl _ w).alloc _).alloc _).alloc _).alloc _
  have HS : Hid (W1.heap.size = s + 4) := by rw [hW1, hs]; show _ = _; simp
  have HSW := Lib.hid hs
  have x1 := HA.out.cell 1
  have y1 := HBx.out.cell 1
  simp only [macC] at x1 y1
  simp only [macC, zeroW] at hW1
  have HW1 := Lib.hid hW1
  clear h h' h2 hL hBB hs
  rw [hW1] at x1 y1
  rw [HSW.out] at x1 y1
  go_enter Try.func21, Try.ntmps21
  go_wp2_with fail
  rw [← hW1]
  rw [show w.heap.size + 1 + 1 + 1 = s + 3 by rw [HSW.out], show w.heap.size + 1 + 1 = s + 2 by rw [HSW.out], show w.heap.size + 1 = s + 1 by rw [HSW.out], ← HSW.out]
  refine (put_any HK.out (Nat.zero_le _) (by rw [HS.out]; exact Nat.le_refl _) (a.start, b.start) (-1) (-1)).mono ?_
  rintro _ w1 ⟨rfl, hk1, f1⟩
  have HK1 : Hid (WkAt w1 (s + 4) (s + 3) (fun b => s + 4 ≤ b) (A.wlk0 a b)) := WkAt.mono hk1 fun b hb => by
    rcases hb with h | h
    · exact h
    · rw [HS.out] at h; exact h
  have HFR : Hid (Frm (fun b => s + 3 ≤ b) W1 w1) := f1.mono fun b _ h => by
    rcases h with h | h <;> omega
  clear hk1 f1 x1 y1 hW1 HW1 HK
  go_wp2_with fail
  have HWT0 : Hid (A.WT a b 0 0 (A.wlk0 a b) fun _ => []) := A.WT.start H2.out
  go_loopg [10] (B + 1) (fun n u10 wr => ∃ (i : Nat) (ws : List A.Tr) (W : Nat → List Int), i ≤ ws.length ∧ n = B + 1 - i ∧ u10 = .int .i64 (i : Int) ∧ Hid (A.WT a b i 0 ws W) ∧ Hid (A.NP ws) ∧ Hid (WkAt wr (s + 4) (s + 3) (fun b => s + 4 ≤ b) ws) ∧ Hid (Frm (fun b => s + 3 ≤ b) W1 wr))
  case atStart => exact ⟨0, _, _, Nat.zero_le _, rfl, rfl, HWT0, A.wlk0_np a b, HK1, HFR⟩
  case round =>
    clear HWT0 HK1 HFR
    obtain ⟨i, ws, W, hi, rfl, rfl, HWT, HND, HK, HFR⟩ := hrel
    have hlen : ws.length ≤ B := by rw [HBB.out]; exact HWT.out.len H2.out HND.out.1
    obtain ⟨pv, fv, lv, hwv⟩ := HK.out
    obtain ⟨AP, cp, rfl⟩ := own_form hwv.2.1
    have b0 := hwv.1.cell 0
    by_cases hlt : i < ws.length
    · have hlt' : (i : Int) < (ws.length : Int) := by omega
      have hle' : (ws.length : Int) ≤ (mo : Int) := by omega
      obtain ⟨g0, rfl, e1, e2⟩ := wk_pair hwv.2.1 hlt
      obtain ⟨⟨p1, p2⟩, hp⟩ : ∃ q, q = ws[i].p := ⟨_, rfl⟩
      have HP := Lib.hid hp
      rw [← hp] at e1 e2
      dsimp only at e1 e2
      have hin : A.InP a b (p1, p2) := by
        rw [hp, HWT.out.pr i hlt]
        exact H2.out.run (HWT.out.ok i hlt) ⟨H2.out.fa.start, H2.out.fb.start⟩
      have HIN := Lib.hid hin
      obtain ⟨wo, hwo⟩ : ∃ wo, wo = wr := ⟨_, rfl⟩
      subst hwo
      clear hwv hp hin
      go_wp2_with fail
      have HG : Hid (Blk (wo.alloc (.cells #[.int .i64 p1, .int .i64 p2] 40)) wo.heap.size 40 #[.int .i64 p1, .int .i64 p2]) := Blk.new wo _ _
      have HGS : Hid (s + 4 ≤ wo.heap.size) := by have := HFR.out.1; have := HS.out; show _ ≤ _; omega
      have HK2 : Hid (WkAt (wo.alloc (.cells #[.int .i64 p1, .int .i64 p2] 40)) (s + 4) (s + 3) (fun b => s + 4 ≤ b ∧ b ≠ wo.heap.size) ws) :=
        (HK.out.ge.mono fun b hb => ⟨hb.1, by omega⟩).frm ((Frm.refl (fun _ => False) wo).alloc _) id fun _ _ _ => id
      have HFR2 : Hid (Frm (fun b => s + 3 ≤ b) W1 (wo.alloc (.cells #[.int .i64 p1, .int .i64 p2] 40))) := HFR.out.alloc _
      obtain ⟨gp, hgp⟩ : ∃ gp, gp = wo.heap.size := ⟨_, rfl⟩
      rw [← hgp] at HG HK2 HGS
      rw [← hgp]
      generalize wo.alloc (.cells #[.int .i64 p1, .int .i64 p2] 40) = wa at *
      clear HK HFR b0 e1 e2 hgp
      have hL3 : L ≤ 300 := by have h1 := H2.out.la; have h2 := HL.out; omega
      go_loopg [12] (L + 1) (fun n u12 wr => ∃ (k : Nat) (ws' : List A.Tr) (W' : Nat → List Int), k ≤ L ∧ n = L + 1 - k ∧ u12 = .int .i64 (k : Int) ∧ Hid (A.WT a b i k ws' W') ∧ Hid (A.NP ws') ∧ Hid (∃ t, ws' = ws ++ t) ∧ Hid (WkAt wr (s + 4) (s + 3) (fun b => s + 4 ≤ b ∧ b ≠ gp) ws') ∧ Hid (Blk wr gp 40 #[.int .i64 p1, .int .i64 p2]) ∧ Hid (Frm (fun b => s + 3 ≤ b) W1 wr))
      case atStart => exact ⟨0, ws, W, Nat.zero_le _, rfl, rfl, HWT, HND, ⟨[], (List.append_nil _).symm⟩, HK2, HG, HFR2⟩
      case round =>
        clear HK2 HG HFR2 HWT HND
        obtain ⟨k, ws', W', hk, rfl, rfl, HWT, HND, HT, HK, HG, HFR⟩ := hrel
        have HAr := Lib.hid (HFR.out.blk HA.out (show ¬ s + 3 ≤ s by omega))
        have HBr := Lib.hid (HFR.out.blk HBx.out (show ¬ s + 3 ≤ s + 1 by omega))
        have x0 := HAr.out.cell 0
        simp only [macC] at x0
        rw [HL.out] at x0
        by_cases hkl : k < L
        · have hkl' : (k : Int) < (L : Int) := by omega
          go_wp2_with fail
          clear x0
          obtain ⟨q1, hq1⟩ : ∃ q1, q1 = A.lead a p1 k := ⟨_, rfl⟩
          obtain ⟨q2, hq2⟩ : ∃ q2, q2 = A.lead b p2 k := ⟨_, rfl⟩
          have HQ1 := Lib.hid hq1
          have HQ2 := Lib.hid hq2
          clear hq1 hq2
          have HFW : Hid (Frm (fun _ => False) w wr) := ((HF.out.mono fun _ _ h => h.elim).trans HFR.out).mono fun x hx h => by have := HSW.out; omega
          have HMA : Hid (∀ V, Frm (fun b => wr.heap.size ≤ b) wr V → MachAt V (fun b => b < wr.heap.size) (.agg #[.int .i64 a.letters, .int .i64 a.start, .slice A1 a.next.length c1, .slice A2 a.fin.length c2]) a) := fun V F => (HM.out.keep0 HFW.out).below.keep F fun b h1 h2 => by omega
          have HMB : Hid (∀ V, Frm (fun b => wr.heap.size ≤ b) wr V → MachAt V (fun b => b < wr.heap.size) (.agg #[.int .i64 b.letters, .int .i64 b.start, .slice B1 b.next.length d1, .slice B2 b.fin.length d2]) b) := fun V F => (HM'.out.keep0 HFW.out).below.keep F fun b h1 h2 => by omega
          refine wp_region_dep [66, 67, 68, 69, 70, 71, 72, 73, 74, 75, 76, 13, 1000] [[0], [1], [2], [3], [4], [5], [6], [7], [8], [9], [10], [11], [11]]
            [f1 (vV (.agg #[.int .i64 a.letters, .int .i64 a.start, .slice A1 a.next.length c1, .slice A2 a.fin.length c2])), f1 (vV (.pointer (some ⟨gp, 0, none⟩))), f1 (vV (.int .i64 p1)), f1 (vV (.int .i64 (k : Int))), f1 (vV (.int .i64 q1)), f1 (vV (.agg #[.int .i64 b.letters, .int .i64 b.start, .slice B1 b.next.length d1, .slice B2 b.fin.length d2])), f1 (vV (.pointer (some ⟨gp, 1, none⟩))), f1 (vV (.int .i64 p2)), f1 (vV (.int .i64 (k : Int))), f1 (vV (.int .i64 q2)), f1 (vV (.agg #[.int .i64 q1, .int .i64 q2])), f1 (qP wr.heap.size), f1 (qQ wr.heap.size (q1, q2))]
            (Frm (fun b => wr.heap.size ≤ b)) (fun i => if i = 12 then RQ wr.heap.size else Frm (fun _ => False)) (fun _ _ => True) [] [(4, .pointer (some ⟨s, 0, none⟩)), (5, .pointer (some ⟨s + 1, 0, none⟩)), (11, .pointer (some ⟨gp, 0, none⟩)), (12, .int .i64 (k : Int))] (by kernel_rfl) (by kernel_rfl) (fun _ _ _ => Frm.trans) ?_ ?_ (fun _ _ _ _ _ _ _ _ _ => trivial) (fun _ => trivial) (fun _ h => by cases h) (Frm.refl _ _).drew ?_ ?_ ?_
          · intro i a b h
            split at h
            · obtain ⟨g, _, _, h1, _, F⟩ := h
              exact F.mono fun x _ e => by rw [e]; exact h1
            · exact h.mono fun _ _ h => h.elim
          · intro j i hj hi hne hna l a b hf hr
            have hj' : j < 13 := hj
            by_cases h12 : i = 12
            · subst h12
              rw [if_pos rfl] at hr
              by_cases e11 : j = 11
              · subst e11
                exact qP.rq hf hr
              · have hcs : j = 0 ∨ j = 1 ∨ j = 2 ∨ j = 3 ∨ j = 4 ∨ j = 5 ∨ j = 6 ∨ j = 7 ∨ j = 8 ∨ j = 9 ∨ j = 10 := by omega
                rcases hcs with rfl | rfl | rfl | rfl | rfl | rfl | rfl | rfl | rfl | rfl | rfl <;> exact hf
            · rw [if_neg h12] at hr
              by_cases e11 : j = 11
              · subst e11
                exact qP.q hf hr
              · by_cases e12 : j = 12
                · subst e12
                  exact qQ.q hf hr
                · have hcs : j = 0 ∨ j = 1 ∨ j = 2 ∨ j = 3 ∨ j = 4 ∨ j = 5 ∨ j = 6 ∨ j = 7 ∨ j = 8 ∨ j = 9 ∨ j = 10 := by omega
                  rcases hcs with rfl | rfl | rfl | rfl | rfl | rfl | rfl | rfl | rfl | rfl | rfl <;> exact hf
          · intro x hx
            simp only [List.mem_cons, List.not_mem_nil, or_false] at hx
            rcases hx with rfl | rfl | rfl | rfl <;> exact ⟨by simp, rfl⟩
          · refine ⟨?_, ?_, ?_, ?_, ?_, ?_, ?_, ?_, ?_, ?_, ?_, ?_, ?_, trivial⟩
            · intro Q tm df V hR _ hu hd
              have u1 : tm[4]?.getD undef = .pointer (some ⟨s, 0, none⟩) := hu (4, _) (by simp)
              have hb := hR.blk HAr.out (by have := HAr.out.lt; omega)
              have y0 := hb.cell 0
              have y1 := hb.cell 1
              have y2 := hb.cell 2
              have y3 := hb.cell 3
              simp only [macC] at y0 y1 y2 y3
              clear hu hd hb
              go_simp
              exact ⟨_, rfl, rfl, Frm.refl _ V⟩
            · intro Q tm df V hR _ hu hd
              have u1 : tm[11]?.getD undef = .pointer (some ⟨gp, 0, none⟩) := hu (11, _) (by simp)
              clear hu hd
              go_simp
              exact ⟨_, rfl, rfl, Frm.refl _ V⟩
            · intro Q tm df V hR _ hu hd
              have e0 : tm[67]?.getD undef = .pointer (some ⟨gp, 0, none⟩) := hd 1 (by simp)
              have y := (hR.blk HG.out (by have := HG.out.lt; omega)).cell 0
              clear hu hd
              go_simp
              exact ⟨_, rfl, rfl, Frm.refl _ V⟩
            · intro Q tm df V hR _ hu hd
              have u1 : tm[12]?.getD undef = .int .i64 (k : Int) := hu (12, _) (by simp)
              clear hu hd
              go_simp
              exact ⟨_, rfl, rfl, Frm.refl _ V⟩
            · intro Q tm df V hR _ hu hd
              have e0 : tm[66]?.getD undef = .agg #[.int .i64 a.letters, .int .i64 a.start, .slice A1 a.next.length c1, .slice A2 a.fin.length c2] := hd 0 (by simp)
              have e1 : tm[68]?.getD undef = .int .i64 p1 := hd 2 (by simp)
              have e2 : tm[69]?.getD undef = .int .i64 (k : Int) := hd 3 (by simp)
              clear hu hd
              go_simp
              refine (rstep_any (HMA.out V hR) H2.out.fa p1 k HIN.out.1 (by omega) (by rw [HL.out]; omega)).mono ?_
              rintro e w' ⟨rfl, f⟩
              exact ⟨_, rfl, by rw [← HQ1.out]; rfl, f⟩
            · intro Q tm df V hR _ hu hd
              have u1 : tm[5]?.getD undef = .pointer (some ⟨s + 1, 0, none⟩) := hu (5, _) (by simp)
              have hb := hR.blk HBr.out (by have := HBr.out.lt; omega)
              have y0 := hb.cell 0
              have y1 := hb.cell 1
              have y2 := hb.cell 2
              have y3 := hb.cell 3
              simp only [macC] at y0 y1 y2 y3
              clear hu hd hb
              go_simp
              exact ⟨_, rfl, rfl, Frm.refl _ V⟩
            · intro Q tm df V hR _ hu hd
              have u1 : tm[11]?.getD undef = .pointer (some ⟨gp, 0, none⟩) := hu (11, _) (by simp)
              clear hu hd
              go_simp
              exact ⟨_, rfl, rfl, Frm.refl _ V⟩
            · intro Q tm df V hR _ hu hd
              have e0 : tm[72]?.getD undef = .pointer (some ⟨gp, 1, none⟩) := hd 6 (by simp)
              have y := (hR.blk HG.out (by have := HG.out.lt; omega)).cell 1
              clear hu hd
              go_simp
              exact ⟨_, rfl, rfl, Frm.refl _ V⟩
            · intro Q tm df V hR _ hu hd
              have u1 : tm[12]?.getD undef = .int .i64 (k : Int) := hu (12, _) (by simp)
              clear hu hd
              go_simp
              exact ⟨_, rfl, rfl, Frm.refl _ V⟩
            · intro Q tm df V hR _ hu hd
              have e0 : tm[71]?.getD undef = .agg #[.int .i64 b.letters, .int .i64 b.start, .slice B1 b.next.length d1, .slice B2 b.fin.length d2] := hd 5 (by simp)
              have e1 : tm[73]?.getD undef = .int .i64 p2 := hd 7 (by simp)
              have e2 : tm[74]?.getD undef = .int .i64 (k : Int) := hd 8 (by simp)
              clear hu hd
              go_simp
              refine (rstep_any (HMB.out V hR) H2.out.fb p2 k HIN.out.2 (by omega) (by rw [← H2.out.ll, HL.out]; omega)).mono ?_
              rintro e w' ⟨rfl, f⟩
              exact ⟨_, rfl, by rw [← HQ2.out]; rfl, f⟩
            · intro Q tm df V hR _ hu hd
              have e0 : tm[70]?.getD undef = .int .i64 q1 := hd 4 (by simp)
              have e1 : tm[75]?.getD undef = .int .i64 q2 := hd 9 (by simp)
              clear hu hd
              go_simp
              exact ⟨_, rfl, rfl, Frm.refl _ V⟩
            · intro Q tm df V hR _ hu hd
              clear hu hd
              go_simp
              exact ⟨_, rfl, ⟨V.heap.size, _, _, rfl, hR.1, Blk.new _ _ _⟩, (Frm.refl _ V).alloc _⟩
            · intro Q tm df V hR _ hu hd
              have e0 : tm[76]?.getD undef = .agg #[.int .i64 q1, .int .i64 q2] := hd 10 (by simp)
              obtain ⟨g, k0, k1, e1, hg, hb⟩ : qP wr.heap.size (tm[13]?.getD undef) V := hd 11 (by simp)
              have y0 := hb.cell 0
              have y1 := hb.cell 1
              have z0 := hb.frozen 0
              have z1 := hb.frozen 1
              have hb2 := (hb.set_ 0 (.int .i64 q1)).set_ 1 (.int .i64 q2)
              have HB2 : Hid (∀ v, v = .pointer (some ⟨g, 0, none⟩) → qQ wr.heap.size (q1, q2) v ((V.setCell ⟨g, 0, none⟩ (.int .i64 q1)).setCell ⟨g, 1, none⟩ (.int .i64 q2))) := fun v e => ⟨g, e, hg, hb2⟩
              have HRQ : Hid (RQ wr.heap.size V ((V.setCell ⟨g, 0, none⟩ (.int .i64 q1)).setCell ⟨g, 1, none⟩ (.int .i64 q2))) := ⟨g, _, _, hg, hb2, Frm.set2 g _ _⟩
              clear hu hd hb2
              go_simp
              exact ⟨HB2.out _ e1, HRQ.out⟩
          · intro vs V hR hf
            obtain ⟨gq, e11, hgq, hbq⟩ : qQ wr.heap.size (q1, q2) (vs 11) V := hf 12 (by decide)
            clear hf
            simp only [putAll, List.size_toArray, List.length_cons, List.length_nil, Nat.zero_add, Nat.reduceAdd, show List.range 13 = [0, 1, 2, 3, 4, 5, 6, 7, 8, 9, 10, 11, 12] from rfl, List.foldl_cons, List.foldl_nil, List.getD_cons_zero, List.getD_cons_succ, List.setIfInBounds_toArray, List.set_cons_zero, List.set_cons_succ, e11]
            have HBQ := Lib.hid hbq
            have HKV : Hid (WkAt V (s + 4) (s + 3) (fun b => s + 4 ≤ b ∧ b ≠ gp) ws') := HK.out.frm hR (by obtain ⟨_, _, _, hb, _⟩ := HK.out; have := hb.lt; omega) fun b hb _ h => by omega
            have HGV := Lib.hid (hR.blk HG.out (by have := HG.out.lt; omega))
            have HFV : Hid (Frm (fun b => s + 3 ≤ b) W1 V) := HFR.out.trans (hR.mono fun b hb h => by omega)
            have HVS : Hid (s + 4 ≤ V.heap.size) := by have h1 := HFV.out.1; have h2 := HS.out; show _ ≤ _; omega
            have HGL : Hid (gp < V.heap.size) := HGV.out.lt
            have z0 := hbq.cell 0
            have z1 := hbq.cell 1
            dsimp only at z0 z1
            clear hR hbq e11 hgq HK HG HFR
            go_wp2_with fail
            clear z0 z1
            have hlen' : ws'.length ≤ 100000 := by have h := HWT.out.len H2.out HND.out.1; rw [← HBB.out] at h; omega
            refine (put_any HKV.out hlen' HVS.out (q1, q2) i k).mono ?_
            rintro _ w3 ⟨rfl, hk3, f3⟩
            have hi' : i < ws'.length := by obtain ⟨t, ht⟩ := HT.out; rw [ht, List.length_append]; omega
            have hpi : ws'[i].p = (p1, p2) := by
              obtain ⟨t, ht⟩ := HT.out
              subst ht
              rw [List.getElem_append_left hlt]
              exact HP.out.symm
            have hld : A.leadP a b ws'[i].p k = (q1, q2) := by rw [hpi, HQ1.out, HQ2.out]; rfl
            obtain ⟨W'', hw1, _, t2, ht2⟩ := HWT.out.put H2.out hi' (by rw [HL.out]; omega)
            rw [hld] at hw1 ht2
            have HWT2 := Lib.hid hw1
            have HND2 : Hid (A.NP (A.wput ws' (q1, q2) i k)) := HND.out.put _ _ _
            have HT2 : Hid (∃ t, A.wput ws' (q1, q2) i k = ws ++ t) := by
              obtain ⟨t, ht⟩ := HT.out
              exact ⟨t ++ t2, by rw [ht2, ht, List.append_assoc]⟩
            have HK3 : Hid (WkAt w3 (s + 4) (s + 3) (fun b => s + 4 ≤ b ∧ b ≠ gp) (A.wput ws' (q1, q2) i k)) := WkAt.mono hk3 fun b hb => by
              rcases hb with hb | hb
              · exact hb
              · have h1 := HVS.out
                have h2 := HGL.out
                exact ⟨by omega, by omega⟩
            have HG3 := Lib.hid (f3.blk HGV.out (by
              intro h
              have := HGS.out
              rcases h with h | h
              · omega
              · exact h.2 rfl))
            have HF3 : Hid (Frm (fun b => s + 3 ≤ b) W1 w3) := HFV.out.trans (f3.mono fun b _ h => by rcases h with h | h <;> omega)
            clear hk3 f3 hw1 ht2 hld hpi HKV HGV HFV HVS HGL HBQ
            go_wp2_with fail
            go_roundg (L + 1 - (k + 1))
            case measure => omega
            case rel => exact ⟨k + 1, _, W'', by omega, rfl, by go_num, HWT2, HND2, HT2, HK3, HG3, HF3⟩
        · have hkl' : ¬ (k : Int) < (L : Int) := by omega
          obtain rfl : L = k := by omega
          have HWT2 : Hid (A.WT a b (i + 1) 0 ws' W') := A.WT.on HWT.out (by rw [HL.out]; exact Int.le_refl _)
          have HLE : Hid (i + 1 ≤ ws'.length) := by
            obtain ⟨t, ht⟩ := HT.out
            show _ ≤ _
            rw [ht, List.length_append]
            omega
          have HK3 : Hid (WkAt wr (s + 4) (s + 3) (fun b => s + 4 ≤ b) ws') := HK.out.mono fun b hb => hb.1
          go_wp2_with fail
          go_roundg (B + 1 - (i + 1))
          case measure => omega
          case rel => exact ⟨i + 1, ws', W', HLE.out, rfl, by go_num, HWT2, HND, HK3, HFR⟩
    · have hlt' : ¬ (i : Int) < (ws.length : Int) := by omega
      obtain rfl : i = ws.length := by omega
      obtain ⟨hb, hp, hf, hl, _⟩ := hwv
      have hp2 := WkAt.prs hp
      have hsw := HSW.out
      obtain ⟨AF, cf, rfl⟩ := own_form hf
      obtain ⟨AL, cl, rfl⟩ := own_form hl
      have HWV : Hid (∀ {V : World}, Frm (fun b => b = s + 2) wr V → WalkV V w.heap.size (.agg #[.slice AP ws.length cp, .slice AF ws.length cf, .slice AL ws.length cl]) ws) := fun F => by
        refine ⟨_, _, _, rfl, ?_, ?_, ?_⟩
        · exact (hp2.keep F fun g hg e => by
            obtain ⟨h1, _⟩ := own_typeN hp hg
            omega).mono_ fun g hg => by
            obtain ⟨h1, _⟩ := own_typeN hp hg
            omega
        · have h := own_intsN (l := ws.map A.Tr.before) (by rw [List.length_map]) (by rw [List.map_map]; exact hf)
          exact (h.keep F fun g hg e => by omega).mono_ fun g hg => by omega
        · have h := own_intsN (l := ws.map A.Tr.letter) (by rw [List.length_map]) (by rw [List.map_map]; exact hl)
          exact (h.keep F fun g hg e => by omega).mono_ fun g hg => by omega
      have HZr := Lib.hid (HFR.out.blk HZ.out (show ¬ s + 3 ≤ s + 2 by omega))
      have b1 := hb.cell 1
      have b2 := hb.cell 2
      have z0 := HZr.out.cell 0
      have z1 := HZr.out.cell 1
      have z2 := HZr.out.cell 2
      have q0 := HZr.out.frozen 0
      have q1 := HZr.out.frozen 1
      have q2 := HZr.out.frozen 2
      simp only [zeroW] at z0 z1 z2
      have HFW : Hid (Frm (fun _ => False) w wr) := ((HF.out.mono fun _ _ h => h.elim).trans HFR.out).mono fun x hx h => by have := HSW.out; omega
      clear hb hp hf hl hp2 hsw
      go_wp2_with fail
      have FP : Frm (fun b => b = s + 2) wr (put3 wr (s + 2) (.slice AP ws.length cp) (.slice AF ws.length cf) (.slice AL ws.length cl)) := put3_frm1
      have hwz := HWV.out FP
      refine bodyPost_ret (w := put3 wr (s + 2) (.slice AP ws.length cp) (.slice AF ws.length cf) (.slice AL ws.length cl)) (v := .agg #[.slice AP ws.length cp, .slice AF ws.length cf, .slice AL ws.length cl]) ?_ rfl ⟨_, rfl, ws, hwz, ⟨W, HWT.out⟩, HND.out, (HFW.out.mono fun _ _ h => h.elim).trans FP |>.mono fun b hb h => by have := HSW.out; omega⟩
      have h4 := put3_blk (x := .slice AP ws.length cp) (y := .slice AF ws.length cf) (z := .slice AL ws.length cl) HZr.out
      clear FP hwz
      generalize put3 wr (s + 2) (.slice AP ws.length cp) (.slice AF ws.length cf) (.slice AL ws.length cl) = w4 at *
      clear z0 z1 z2 q0 q1 q2 b0 b1 b2
      have y0 := h4.cell 0
      have y1 := h4.cell 1
      have y2 := h4.cell 2
      simp [results, Try.results21, go_sem, y0, y1, y2]
end Go.Proofs.Ytiekaicbjinbaaa
end
section
namespace Go.Proofs.Ytiekaicbjinbaaa
open Go.RowKit
section
variable {P : Program} {Q : Exit → Act → World → Prop}
/-- As depB, where an edge may hold for the text's order alone. -/
def invB (ops : Array Oper) (ds : List Nat) (n : Nat) (gs : List (Nat × Bool)) : Bool :=
  (List.range ops.size).all fun i => match ops[i]? with
    | none => false
    | some o => (match o.dst with | some x => x == ds.getD i 0 && decide (x < n) | none => decide (n ≤ ds.getD i 0)) && ((List.range ops.size).all fun j => ds.getD i 0 != ds.getD j 0 || i == j || decide (n ≤ ds.getD i 0)) && (o.after.all fun e => decide (e.on < i) || !Region.binds .any e) && (match o.guard with | none => true | some g => gs.contains g && o.after.any fun e => e.on == g.1 && Region.binds .any e)
def updB (L : Nat → Bool) (i : Nat) : Nat → Bool := fun k => if k = i then true else L k
theorem wp_region_inv {id : Nat} {a0 : Act} {w0 : World} {ops : Array Oper} (ds : List Nat) (Inv : (Nat → Bool) → (Nat → Value) → World → Prop) (gs : List (Nat × Bool)) (fix : List (Nat × Value))
    (hm : P.follows .mixedOrders = true) (hB : (invB ops ds a0.tmps.size gs && decide (ds.length = ops.size)) = true)
    (hcong : ∀ L L' vs vs' w, (∀ k < ops.size, L k = L' k) → (∀ k < ops.size, vs k = vs' k) → Inv L vs w → Inv L' vs' w)
    (hg : ∀ g ∈ gs, ∀ L vs w, Inv L vs w → L g.1 = true → vs g.1 = .bool g.2) (h0 : Inv (fun _ => false) (valAt ds a0.tmps) { w0 with drawn := w0.drawn + 1 }) (hfix : ∀ x ∈ fix, x.1 ∉ ds ∧ a0.tmps[x.1]?.getD undef = x.2)
    (hstep : Each (fun i o => ∀ (Q : Exit → Act → World → Prop) (tm : Array Value) (df : List Deferred) w (L : Nat → Bool), Inv L (valAt ds tm) w → L i = false → (∀ e ∈ o.after, Region.binds .any e = true → L e.on = true) → (∀ x ∈ fix, tm[x.1]?.getD undef = x.2) →
      o.wp P ⟨tm, df⟩ w (fun a' w' => ∃ v, a' = Act.put ⟨tm, df⟩ o.dst v ∧ (o.dst = none → v = undef) ∧ Inv (updB L i) (updV (valAt ds tm) i v) w') Q) 0 ops.toList)
    (hend : ∀ (vs : Nat → Value) w, Inv (fun _ => true) vs w → Q .normal ⟨putAll ops.size (fun i => ds.getD i 0) vs a0.tmps, a0.defers⟩ w) : (Code.region id ops true).wp P Q a0 w0 := by
  simp only [Bool.and_eq_true, decide_eq_true_eq] at hB
  obtain ⟨hB1, hB2⟩ := hB
  unfold invB at hB1
  rw [List.all_eq_true] at hB1
  have hB' : ∀ i (h : i < ops.size), (match ops[i].dst with | some x => x == ds.getD i 0 && decide (x < a0.tmps.size) | none => decide (a0.tmps.size ≤ ds.getD i 0)) = true ∧ (∀ j < ops.size, ds.getD i 0 = ds.getD j 0 → i = j ∨ a0.tmps.size ≤ ds.getD i 0) ∧ (∀ e ∈ ops[i].after, e.on < i ∨ Region.binds .any e = false) ∧ (match ops[i].guard with | none => true | some g => gs.contains g && ops[i].after.any fun e => e.on == g.1 && Region.binds .any e) = true := fun i h => by
    have h1 := hB1 i (List.mem_range.2 h)
    rw [Array.getElem?_eq_getElem h] at h1
    simp only [Bool.and_eq_true, decide_eq_true_eq, List.all_eq_true, List.mem_range, Bool.or_eq_true, bne_iff_ne, beq_iff_eq, Bool.not_eq_true', Array.all_eq_true_iff_forall_mem] at h1
    obtain ⟨⟨⟨h2, h3⟩, h4⟩, h5⟩ := h1
    refine ⟨h2, fun j hj e => ?_, h4, h5⟩
    rcases h3 j hj with (h | h) | h
    · exact absurd e h
    · exact .inl h
    · exact .inr h
  clear hB1
  have hmem : ∀ i, i < ops.size → ds.getD i 0 ∈ ds := fun i hi => by
    have : i < ds.length := by omega
    have e : ds.getD i 0 = ds[i] := by simp [this]
    rw [e]
    exact List.getElem_mem this
  refine wp_region_any hm ?_
  have hall : ∀ (listed : Array Bool), listed.size = ops.size → Region.ready .any ops listed = [] → ∀ j < ops.size, listed.getD j true = true := by
    intro listed hs hr j
    induction j using Nat.strongRecOn with
    | _ j ih =>
      intro hj
      rcases hb : listed.getD j true with _ | _
      · exfalso
        have : j ∈ Region.ready .any ops listed := mem_ready.2 ⟨hb, ops[j], by simp [hj], fun e he hbi => by
          have h1 : e.on < j := ((hB' j hj).2.2.1 e he).resolve_right (by rw [hbi]; decide)
          have h2 := ih e.on h1 (by omega)
          have h3 : e.on < listed.size := by omega
          simpa [h3] using h2⟩
        rw [hr] at this
        cases this
      · rfl
  have fin : ∀ (listed : Array Bool) (tm : Array Value) (w : World), listed.size = ops.size → tm.size = a0.tmps.size → (∀ t, t ∉ ds → tm.getD t undef = a0.tmps.getD t undef) → Inv (fun i => listed.getD i true) (valAt ds tm) w → Region.ready .any ops listed = [] → Q .normal ⟨tm, a0.defers⟩ w := by
    intro listed tm w hs ht hu hf hr
    have hl := hall listed hs hr
    have h1 := hend (valAt ds tm) w (hcong _ _ _ _ _ (fun k hk => hl k hk) (fun _ _ => rfl) hf)
    have h2 : putAll ops.size (fun i => ds.getD i 0) (valAt ds tm) a0.tmps = tm := by
      have gen : ∀ n, n ≤ ops.size → (putAll n (fun i => ds.getD i 0) (valAt ds tm) a0.tmps).size = a0.tmps.size ∧ ∀ t, t < a0.tmps.size → (putAll n (fun i => ds.getD i 0) (valAt ds tm) a0.tmps).getD t undef = if (∃ j, j < n ∧ ds.getD j 0 = t) then tm.getD t undef else a0.tmps.getD t undef := by
        intro n
        induction n with
        | zero => intro _; exact ⟨rfl, fun t ht => by rw [if_neg (fun ⟨j, h, _⟩ => absurd h (by omega))]; rfl⟩
        | succ n ih =>
          intro hn
          obtain ⟨i1, i2⟩ := ih (by omega)
          unfold putAll at i1 i2 ⊢
          rw [List.range_succ, List.foldl_append, List.foldl_cons, List.foldl_nil]
          refine ⟨by rw [Array.size_setIfInBounds, i1], fun t ht' => ?_⟩
          dsimp only at i1 i2 ⊢
          by_cases hd : ds.getD n 0 = t
          · rw [hd, getD_setV (by rw [i1]; exact ht'), if_pos rfl, if_pos ⟨n, by omega, hd⟩]
            unfold valAt
            rw [hd, Array.getD_eq_getD_getElem?]
          · have e1 : ∀ (A : Array Value) (v : Value), (A.setIfInBounds (ds.getD n 0) v).getD t undef = A.getD t undef := fun A v => by
              simp only [Array.getD_eq_getD_getElem?, Array.getElem?_setIfInBounds]
              rw [if_neg hd]
            rw [e1, i2 t ht']
            congr 1
            apply propext
            constructor
            · rintro ⟨j, hj, e⟩; exact ⟨j, by omega, e⟩
            · rintro ⟨j, hj, e⟩
              exact ⟨j, by
                rcases Nat.lt_or_ge j n with h | h
                · exact h
                · have : j = n := by omega
                  rw [this] at e
                  exact absurd e hd, e⟩
      obtain ⟨g1, g2⟩ := gen ops.size (Nat.le_refl _)
      apply Array.ext
      · rw [g1, ht]
      · intro t ha hb
        have e1 : ∀ (A : Array Value) (h : t < A.size), A[t] = A.getD t undef := fun A h => by simp [h]
        rw [e1 _ ha, e1 _ hb, g2 t (by omega)]
        by_cases hne : ∃ j, j < ops.size ∧ ds.getD j 0 = t
        · rw [if_pos hne]
        · rw [if_neg hne]
          refine (hu t fun hmem => hne ?_).symm
          obtain ⟨j, hj, e⟩ := List.getElem_of_mem hmem
          exact ⟨j, by omega, by simp [hj, e]⟩
    rw [h2] at h1
    exact h1
  have key : ∀ (fuel : Nat) (listed : Array Bool) (tm : Array Value) (w : World), listed.size = ops.size → listed.toList.count false ≤ fuel → tm.size = a0.tmps.size → (∀ t, t ∉ ds → tm.getD t undef = a0.tmps.getD t undef) → Inv (fun i => listed.getD i true) (valAt ds tm) w → wpAny P .any ops Q fuel listed ⟨tm, a0.defers⟩ w := by
    intro fuel
    induction fuel with
    | zero =>
      intro listed tm w hs hc ht hu hf
      have hr : Region.ready .any ops listed = [] := by
        apply List.eq_nil_iff_forall_not_mem.2
        intro i hi
        obtain ⟨hb, o, ho, _⟩ := mem_ready.1 hi
        have hi' : i < ops.size := by
          rcases Nat.lt_or_ge i ops.size with h | h
          · exact h
          · rw [Array.getElem?_eq_none h] at ho; cases ho
        have := count_setB (l := listed) (i := i) (by omega) hb
        omega
      exact ⟨hr, fin listed tm w hs ht hu hf hr⟩
    | succ fuel ih =>
      intro listed tm w hs hc ht hu hf
      refine ⟨fun hr => fin listed tm w hs ht hu hf hr, fun i hi => ?_⟩
      obtain ⟨hb, o, ho, hall'⟩ := mem_ready.1 hi
      have hi' : i < ops.size := by
        rcases Nat.lt_or_ge i ops.size with h | h
        · exact h
        · rw [Array.getElem?_eq_none h] at ho; cases ho
      have heo : ops[i] = o := by rw [Array.getElem?_eq_getElem hi'] at ho; exact Option.some.inj ho
      obtain ⟨k1, k2, k3, k4⟩ := hB' i hi'
      have hdep : ∀ e ∈ ops[i].after, Region.binds .any e = true → e.on < ops.size ∧ listed.getD e.on true = true := fun e he hbi => by
        have h1 : e.on < i := (k3 e he).resolve_right (by rw [hbi]; decide)
        have h2 := hall' e (heo ▸ he) hbi
        have h3 : e.on < listed.size := by omega
        exact ⟨by omega, by simpa [h3] using h2⟩
      have hw : Region.wanted ops[i] (yielded ops tm) = true := by
        unfold Region.wanted
        rcases hgu : ops[i].guard with _ | ⟨j, b⟩
        · rfl
        · rw [hgu] at k4
          simp only [Bool.and_eq_true, List.contains_iff_mem] at k4
          obtain ⟨e, he, he'⟩ := Array.any_eq_true'.1 k4.2
          obtain ⟨he1, he2⟩ : e.on = j ∧ Region.binds .any e = true := by simpa using he'
          subst he1
          obtain ⟨h1, h2⟩ := hdep e he he2
          have h4 : tm[ds.getD e.on 0]?.getD undef = .bool b := hg _ k4.1 _ _ _ hf h2
          have h5 : yielded ops tm e.on = some b := by
            unfold yielded
            have k1' := (hB' e.on h1).1
            rw [Array.getElem?_eq_getElem h1, Option.bind_some]
            rcases hd : ops[e.on].dst with _ | x
            · rw [hd] at k1'
              exfalso
              have k1' : a0.tmps.size ≤ ds.getD e.on 0 := by simpa using k1'
              rw [Array.getElem?_eq_none (show tm.size ≤ ds.getD e.on 0 by rw [ht]; exact k1')] at h4
              cases h4
            · rw [hd] at k1'
              simp only [Bool.and_eq_true, beq_iff_eq, decide_eq_true_eq] at k1'
              obtain ⟨rfl, hx⟩ := k1'
              replace hx : @LT.lt Nat _ (ds.getD e.on 0) a0.tmps.size := hx
              have hx' : ds.getD e.on 0 < tm.size := by omega
              rw [Option.bind_some, Array.getElem?_eq_getElem hx']
              rw [Array.getElem?_eq_getElem hx'] at h4
              rw [show tm[ds.getD e.on 0] = .bool b from h4]
          simp only [h5, beq_self_eq_true]
      unfold wpOp
      rw [Array.getElem?_eq_getElem hi']
      dsimp only
      rw [if_pos hw]
      have hs1 := Each.get hstep (i := i) (o := ops[i]) (by simp [hi']) Q tm a0.defers w (fun i => listed.getD i true) hf (by rw [Nat.zero_add]; exact hb) (fun e he hbi => (hdep e he hbi).2) (fun x hx => by
        obtain ⟨h5, h6⟩ := hfix x hx
        have := hu x.1 h5
        simp only [Array.getD_eq_getD_getElem?] at this
        rw [this, h6])
      refine .inl (Oper.wp_mono (fun a' w' h' => ?_) hs1)
      obtain ⟨v, rfl, hvn, hv⟩ := h'
      rw [Nat.zero_add] at hv
      obtain ⟨tm', e1, e2, e3, e4⟩ : ∃ tm', Act.put ⟨tm, a0.defers⟩ ops[i].dst v = ⟨tm', a0.defers⟩ ∧ tm'.size = tm.size ∧ (∀ k < ops.size, valAt ds tm' k = updV (valAt ds tm) i v k) ∧ ∀ t, t ∉ ds → tm'.getD t undef = tm.getD t undef := by
        rcases hd : ops[i].dst with _ | x
        · rw [hd] at k1
          have k1 : a0.tmps.size ≤ ds.getD i 0 := by simpa using k1
          refine ⟨tm, rfl, rfl, fun k hk => ?_, fun _ _ => rfl⟩
          unfold updV
          split
          · rename_i h
            rw [hvn hd, h]
            unfold valAt
            rw [Array.getElem?_eq_none (show tm.size ≤ ds.getD i 0 by omega)]
            rfl
          · rfl
        · rw [hd] at k1
          simp only [Bool.and_eq_true, beq_iff_eq, decide_eq_true_eq] at k1
          obtain ⟨rfl, hx⟩ := k1
          replace hx : @LT.lt Nat _ (ds.getD i 0) a0.tmps.size := hx
          refine ⟨tm.setIfInBounds (ds.getD i 0) v, rfl, by simp, fun k hk => ?_, fun t h => ?_⟩
          · unfold updV valAt
            rw [Array.getElem?_setIfInBounds]
            by_cases e : ds.getD i 0 = ds.getD k 0
            · have : i = k := by
                rcases k2 k hk e with h | h
                · exact h
                · exact absurd hx (Nat.not_lt.2 h)
              subst this
              have hx' : ds.getD i 0 < tm.size := by omega
              rw [if_pos rfl, if_pos hx', if_pos rfl]
              rfl
            · rw [if_neg e, if_neg (fun h => e (by rw [h]))]
          · simp only [Array.getD_eq_getD_getElem?, Array.getElem?_setIfInBounds]
            rw [if_neg (fun h' : ds.getD i 0 = t => h (h' ▸ hmem i hi'))]
      rw [e1]
      refine ih (listed.setIfInBounds i true) tm' w' (by simpa using hs) ?_ (by omega) ?_ (hcong _ _ _ _ _ (fun k hk => ?_) (fun k hk => (e3 k hk).symm) hv)
      · have := count_setB (l := listed) (i := i) (by omega) hb
        omega
      · intro t h
        rw [e4 t h]
        exact hu t h
      · unfold updB
        rw [getD_setB (by omega)]
        by_cases e : k = i
        · rw [if_pos e, if_pos e.symm]
        · rw [if_neg e, if_neg (Ne.symm e)]
  exact key ops.size _ a0.tmps _ (by simp) (by simp) rfl (fun _ _ => rfl) (hcong _ _ _ _ _ (fun k hk => by simp [hk]) (fun _ _ => rfl) h0)
theorem Each.mk {S : Nat → Oper → Prop} : ∀ (l : List Oper) (k : Nat), (∀ i o, l[i]? = some o → S (k + i) o) → Each S k l
  | [], _, _ => trivial
  | o :: l, k, h => ⟨h 0 o rfl, Each.mk l (k + 1) fun i o' ho => by
    have := h (i + 1) o' (by simpa using ho)
    rwa [show k + (i + 1) = k + 1 + i by omega] at this⟩
/-- wp_region_list, where an edge may hold for the text's order alone. -/
theorem wp_region_listI {id : Nat} {a0 : Act} {w0 : World} {ops : Array Oper} (ds : List Nat) (Lf : List (Value → World → Prop)) (R : World → World → Prop) (gs : List (Nat × Bool)) (fix : List (Nat × Value))
    (hm : P.follows .mixedOrders = true) (hB : (invB ops ds a0.tmps.size gs && decide (ds.length = ops.size) && decide (Lf.length = ops.size) && ops.all fun o => o.dst.isSome) = true) (hB2 : ((List.range gs.length).all fun i => decide ((gs.getD i (0, true)).1 < ops.size)) = true) (hRt : ∀ a b c, R a b → R b c → R a c) (hst : ∀ f ∈ Lf, ∀ v w w', f v w → R w w' → f v w')
    (hg : ∀ g ∈ gs, ∀ v w, Lf.getD g.1 noF v w → v = .bool g.2) (h0 : R w0 { w0 with drawn := w0.drawn + 1 }) (hfix : ∀ x ∈ fix, x.1 ∉ ds ∧ a0.tmps[x.1]?.getD undef = x.2)
    (hstep : Each (fun i o => ∀ (Q : Exit → Act → World → Prop) (tm : Array Value) (df : List Deferred) w, R w0 w → (∀ x ∈ fix, tm[x.1]?.getD undef = x.2) → (∀ j, (o.after.any fun e => e.on == j && Region.binds .any e) = true → Lf.getD j noF (tm[ds.getD j 0]?.getD undef) w) →
      o.wp P ⟨tm, df⟩ w (fun a' w' => ∃ v, a' = Act.put ⟨tm, df⟩ o.dst v ∧ Lf.getD i noF v w' ∧ R w w') Q) 0 ops.toList)
    (hend : ∀ (vs : Nat → Value) w, R w0 w → (∀ i < ops.size, Lf.getD i noF (vs i) w) → Q .normal ⟨putAll ops.size (fun i => ds.getD i 0) vs a0.tmps, a0.defers⟩ w) : (Code.region id ops true).wp P Q a0 w0 := by
  simp only [Bool.and_eq_true, decide_eq_true_eq] at hB
  obtain ⟨⟨⟨hB1, hB2'⟩, hB3⟩, hB4⟩ := hB
  have hst' : ∀ i v w w', Lf.getD i noF v w → R w w' → Lf.getD i noF v w' := fun i v w w' h F => by
    by_cases hi : i < Lf.length
    · have e : Lf.getD i noF = Lf[i] := by simp [hi]
      rw [e] at h ⊢
      exact hst _ (List.getElem_mem hi) v w w' h F
    · have e : Lf.getD i noF = noF := by simp [Nat.le_of_not_lt hi]
      rw [e] at h
      exact h.elim
  have hgl : ∀ g ∈ gs, g.1 < ops.size := fun g hg' => by
    obtain ⟨i, hi, e⟩ := List.getElem_of_mem hg'
    have := List.all_eq_true.1 hB2 i (List.mem_range.2 hi)
    rw [decide_eq_true_eq] at this
    rw [← e]
    simpa [hi] using this
  have hafter : ∀ i (h : i < ops.size), ∀ e ∈ ops[i].after, Region.binds .any e = true → e.on < ops.size := fun i h e he hbi => by
    unfold invB at hB1
    have h1 := List.all_eq_true.1 hB1 i (List.mem_range.2 h)
    rw [Array.getElem?_eq_getElem h] at h1
    simp only [Bool.and_eq_true, Bool.or_eq_true, Bool.not_eq_true', decide_eq_true_eq, Array.all_eq_true_iff_forall_mem] at h1
    have : e.on < i := (h1.1.2 e he).resolve_right (by rw [hbi]; decide)
    omega
  refine wp_region_inv ds (fun L vs w => R w0 w ∧ ∀ j, j < ops.size → L j = true → Lf.getD j noF (vs j) w) gs fix hm (by simp only [Bool.and_eq_true, decide_eq_true_eq]; exact ⟨hB1, hB2'⟩) (fun L L' vs vs' w hL hv h => ⟨h.1, fun j hj hl => by
    rw [← hv j hj]
    exact h.2 j hj (by rw [hL j hj]; exact hl)⟩) (fun g hg' L vs w h hl => hg g hg' _ w (h.2 g.1 (hgl g hg') hl)) ⟨h0, fun j _ h => by cases h⟩ hfix ?_ (fun vs w h => hend vs w h.1 fun i hi => h.2 i hi rfl)
  refine Each.mk _ _ fun i o ho => ?_
  have hi : i < ops.size := by
    rcases Nat.lt_or_ge i ops.size with h | h
    · exact h
    · rw [List.getElem?_eq_none (by simpa using h)] at ho; cases ho
  have hoe : ops[i] = o := by
    have : ops.toList[i]? = some ops[i] := by simp [hi]
    rw [this] at ho
    exact Option.some.inj ho
  intro Q' tm df w L hI hl hd hu
  have h1 := Each.get hstep ho Q' tm df w hI.1 hu fun j hj => by
    obtain ⟨e, he, he'⟩ := Array.any_eq_true'.1 hj
    simp only [Bool.and_eq_true, beq_iff_eq] at he'
    obtain ⟨rfl, hb⟩ := he'
    exact hI.2 e.on (hafter i hi e (hoe ▸ he) hb) (hd e he hb)
  rw [Nat.zero_add] at h1 ⊢
  refine Oper.wp_mono (fun a' w' h' => ?_) h1
  obtain ⟨v, rfl, hv, hR'⟩ := h'
  refine ⟨v, rfl, fun hn => ?_, hRt _ _ _ hI.1 hR', fun j hj hL => ?_⟩
  · exfalso
    have := Array.all_eq_true_iff_forall_mem.1 hB4 ops[i] (Array.getElem_mem hi)
    rw [hoe, hn] at this
    cases this
  · unfold updV
    by_cases e : j = i
    · subst e
      rw [if_pos rfl]
      exact hv
    · rw [if_neg e]
      refine hst' j _ _ _ (hI.2 j hj ?_) hR'
      unfold updB at hL
      rw [if_neg e] at hL
      exact hL
end
end Go.Proofs.Ytiekaicbjinbaaa
end
section
namespace Go.Proofs.Ytiekaicbjinbaaa
open Go.RowKit Go.Shelf
open Go.Sort (flatK putCells onCells mapBlock)
set_option maxHeartbeats 1000000 in
theorem sortP_all {w : World} {base g cap : Nat} {zs : List DP} (ho : w.ownsRow base 40 2 (.slice (some ⟨g, 0, none⟩) zs.length cap) zs.length (zs.flatMap encP)) (h4 : zs.length ≤ 100000) :
    Calls Try.prog 34 #[.slice (some ⟨g, 0, none⟩) zs.length cap, .func (.func 35) #[] #[]] w fun e w' => e = .returned (.tuple #[]) ∧ ∃ zs' : List DP, zs'.Perm zs ∧ zs'.Pairwise (fun x y => ltOf cfP y x = false) ∧ w'.ownsRow base 40 2 (.slice (some ⟨g, 0, none⟩) zs.length cap) zs.length (zs'.flatMap encP) ∧ Frm (· = g) w w' := by
  have eg : ∀ args w, (callFunc 35 args).run Try.prog w = .ok (.enter 35 args) w := enters_of Try.func35 (by kernel_rfl) rfl
  have hc := @World.ownsRow.cells _ _ _ _ _ _ _ ho g rfl
  have hH : Sort.HoldsK encP 2 w g 0 zs.toArray := fun j hj => by
    have hj' : j < zs.length * 2 := by simpa using hj
    refine ⟨?_, by rw [Nat.zero_add]; exact ho.frozenAt j⟩
    have := hc j _ (flatP_at zs j hj')
    rw [add_zero_off] at this
    rw [Nat.zero_add, this]
    simp only [id]
    rw [Sort.get_flatK _ _ _ _ (by simpa using hj')]
    simp
  have hblk : g < w.heap.size := (ho.lt g rfl).2
  have hcon := AnyQ.slices_SortFunc Try.sortPair 2 (fun w => by kernel_rfl) (fun w => by kernel_rfl) encP (fun _ => rfl) (fun x v hv => by simp [encP, pairC] at hv; rcases hv with rfl | rfl <;> rfl) cfP swoP 35 #[] g 0 cap zs.toArray w eg (fun _ _ _ _ x y => cmpP_any x y _) hH hblk (by simp; omega)
  refine Calls.mono (show Calls Try.prog 34 #[.slice (some ⟨g, 0, none⟩) zs.length cap, .func (.func 35) #[] #[]] w _ from hcon) ?_
  rintro e w' ⟨rfl, d', n, os, hp, hs, rfl⟩
  obtain ⟨hsz, -, hperm⟩ := hp
  have hsz' : d'.size = zs.length := by simpa using hsz
  have hz0 : (zs.toArray.size) = zs.length := by simp
  have hperm' : d'.toList.Perm zs := by
    have e1 : (d'.extract 0 zs.toArray.size).toList = d'.toList := by rw [hz0, ← hsz']; simp
    have e2 : (zs.toArray.extract 0 zs.toArray.size).toList = zs := by simp
    rw [e1, e2] at hperm
    exact hperm
  have hF : Frm (· = g) w (sortWorldK encP 2 w g 0 n d' os) := sortP_frm
  rcases ho.2 with ⟨hv, _⟩ | ⟨g', cap', cur, hv, h1, hg, h3, h4', h5, h6⟩
  · cases hv
  injection hv with hv1 _ hv2
  injection hv1 with hv1
  injection hv1 with hv1
  subst hv1 hv2
  have hcur : d'.size * 2 ≤ cur.size := by
    have := congrArg List.length h6
    rw [List.length_take, flatP_len] at this
    simp at this
    omega
  refine ⟨rfl, d'.toList, hperm', ?_, ⟨by rw [flatP_len]; simp [hsz'], .inr ⟨g, cap, _, rfl, h1, sortP_block hg, h3, h4', by simp [putCells]; omega, ?_⟩⟩, hF⟩
  · rw [List.pairwise_iff_getElem]
    intro i j hi hj hij
    simp only [Array.length_toList] at hi hj
    have h1 := hs i j (Nat.zero_le _) hij (by omega)
    rw [getElem!_pos d' i hi, getElem!_pos d' j hj] at h1
    simpa using h1
  · have := putP_take hcur
    rw [hsz'] at this
    simpa using this
end Go.Proofs.Ytiekaicbjinbaaa
end
section
namespace Go.Proofs.Ytiekaicbjinbaaa
open Go.RowKit Go.Shelf
set_option maxRecDepth 100000 in
set_option maxHeartbeats 8000000 in
theorem relate_same {w : World} {P Q : Nat → Prop} {v v' : Value} {a b : A.Mac} {f : Nat} {zs : List DP} {rows : List (List Int)} (h : MachAt w P v a) (h' : MachAt w Q v' b) (hs : Sized a) (hs' : Sized b) (hfit : A.fit a b = 0) (ht : A.Two a b) (he : A.diffO f a b = some none) (hf : f ≤ 100000) (hst : (a.start, b.start) ≠ (-1, -1)) (hsr : A.searchO (A.nxtP a b) f (a.start, b.start) (-1, -1) a.letters.toNat 20000 = some (zs.map (·.1), rows)) (hz : zs.length ≤ 100000) (hz0 : 0 < zs.length) :
    Calls Try.prog 13 #[v, v'] w fun e w' => ∃ u, ∃ zs' : List DP, e = .returned (.tuple #[u, .int .i64 0]) ∧ zs'.Perm zs ∧ zs'.Pairwise (fun x y => ltOf cfP y x = false) ∧ w'.ownsRow w.heap.size 40 2 u zs.length (zs'.flatMap encP) ∧ Frm (fun _ => False) w w' := by
  obtain ⟨A1, c1, A2, c2, rfl⟩ := h.form
  obtain ⟨B1, d1, B2, d2, rfl⟩ := h'.form
  have HB0 : Hid (Bx w _ (macC a A1 c1 A2 c2) (macC b B1 d1 B2 d2)) := Bx.new w _ _
  have HM := Lib.hid h
  have HM' := Lib.hid h'
  have HSZ := Lib.hid hs
  have HSZ' := Lib.hid hs'
  have HE := Lib.hid he
  have HT := Lib.hid ht
  have HFIT := Lib.hid hfit
  have HST := Lib.hid hst
  have HSR := Lib.hid hsr
  have HZ := Lib.hid hz
  have HZ0 := Lib.hid hz0
  have e0 := HB0.out.ba.cell 0
  have e1 := HB0.out.ba.cell 1
  have e2 := HB0.out.ba.cell 2
  have e3 := HB0.out.ba.cell 3
  have g0 := HB0.out.bb.cell 0
  have g1 := HB0.out.bb.cell 1
  have g2 := HB0.out.bb.cell 2
  have g3 := HB0.out.bb.cell 3
  simp only [macC] at e0 e1 e2 e3 g0 g1 g2 g3
  clear h h' hs hs' he ht hfit hst hsr hz hz0
  go_enter Try.func13, Try.ntmps13
  go_wp2_with fail
  refine (fit_any (HM.out.keep0 HB0.out.fr) (HM'.out.keep0 HB0.out.fr) HSZ.out HSZ'.out).mono ?_
  rintro _ w1 ⟨rfl, f1⟩
  have HB1 := Lib.hid (HB0.out.call f1)
  rw [HFIT.out]
  clear e0 e1 e2 e3 g0 g1 g2 g3 f1 HB0
  have e0 := HB1.out.ba.cell 0
  have e1 := HB1.out.ba.cell 1
  have e2 := HB1.out.ba.cell 2
  have e3 := HB1.out.ba.cell 3
  have g0 := HB1.out.bb.cell 0
  have g1 := HB1.out.bb.cell 1
  have g2 := HB1.out.bb.cell 2
  have g3 := HB1.out.bb.cell 3
  simp only [macC] at e0 e1 e2 e3 g0 g1 g2 g3
  go_wp2_with fail
  refine (diff_any (HM.out.keep0 HB1.out.fr) (HM'.out.keep0 HB1.out.fr) HT.out HE.out hf).mono ?_
  rintro _ w2 ⟨rfl, f2⟩
  have HB2 := Lib.hid (HB1.out.call f2)
  clear e0 e1 e2 e3 g0 g1 g2 g3 f2 HB1
  have HB3 := Lib.hid (HB2.out.call ((Frm.refl _ w2).alloc (.cells #[.int .i64 0, .int .i64 0] 40)))
  have e0 := HB3.out.ba.cell 0
  have e1 := HB3.out.ba.cell 1
  have e2 := HB3.out.ba.cell 2
  have e3 := HB3.out.ba.cell 3
  have g0 := HB3.out.bb.cell 0
  have g1 := HB3.out.bb.cell 1
  have g2 := HB3.out.bb.cell 2
  have g3 := HB3.out.bb.cell 3
  simp only [macC] at e0 e1 e2 e3 g0 g1 g2 g3
  simp only [pairV]
  go_wp2_with fail
  refine (starts_any (HM.out.keep0 HB3.out.fr) (HM'.out.keep0 HB3.out.fr)).mono ?_
  rintro _ w3 ⟨rfl, f3⟩
  have HB4 := Lib.hid (HB3.out.call f3)
  clear e0 e1 e2 e3 g0 g1 g2 g3 f3 HB2 HB3
  simp only [pairV]
  go_wp2_with fail
  refine (nowhere_any w3).mono ?_
  rintro _ w4 ⟨rfl, f4⟩
  have HB5 := Lib.hid (HB4.out.call f4)
  clear f4 HB4
  have e0 := HB5.out.ba.cell 0
  have e1 := HB5.out.ba.cell 1
  have e2 := HB5.out.ba.cell 2
  have e3 := HB5.out.ba.cell 3
  have g0 := HB5.out.bb.cell 0
  have g1 := HB5.out.bb.cell 1
  have g2 := HB5.out.bb.cell 2
  have g3 := HB5.out.bb.cell 3
  simp only [macC] at e0 e1 e2 e3 g0 g1 g2 g3
  simp only [pairV]
  go_wp2_with fail
  · exact absurd (Prod.ext ‹a.start = -1› ‹b.start = -1›) HST.out
  all_goals
    try clear ‹a.start = -1›
    try clear ‹¬b.start = -1›
    try clear ‹¬a.start = -1›
    obtain ⟨L, hL⟩ : ∃ L : Nat, a.letters = (L : Int) := ⟨a.letters.toNat, by have := HT.out.fa.letters; omega⟩
    have HL := Lib.hid hL
    have HINS : Hid (A.InP a b (a.start, b.start)) := ⟨HT.out.fa.start, HT.out.fb.start⟩
    have HOK1 : Hid (okP (a.start, b.start)) := okP_small (BPr.of_in HT.out HINS.out)
    have HOK2 : Hid (okP (-1, -1)) := okP_small (by unfold BPr; decide)
    have HSR2 : Hid (A.searchO (A.nxtP a b) f (a.start, b.start) (-1, -1) L 20000 = some (zs.map (·.1), rows)) := by
      have := HSR.out
      rw [hL, Int.toNat_natCast] at this
      exact this
    have HLL : Hid (L ≤ 300) := show _ ≤ _ by have := HT.out.la; omega
    have HNX : Hid (∀ W', Frm (fun _ => False) w4 W' → ∀ (x : A.Pr) (k : Int) (y : A.Pr) (W : World), A.nxtP a b x k = some y → Frm (fun _ => False) W' W → okP y ∧ Calls Try.prog 32 #[pairV x, .int .i64 k, .pointer (some ⟨w.heap.size, 0, none⟩), .pointer (some ⟨w.heap.size + 1, 0, none⟩)] W fun e w' => e = .returned (pairV y) ∧ Frm (fun _ => False) W w') := fun W' hW' x k y W hy hW => by
      have hF := hW'.trans hW
      have hB := HB5.out.call hF
      unfold A.nxtP at hy
      split at hy
      case isFalse => cases hy
      rename_i hin
      injection hy with hy
      subst hy
      have hI : A.InP a b x := ⟨⟨hin.1, hin.2.1⟩, hin.2.2.1, hin.2.2.2.1⟩
      exact ⟨okP_small (BPr.of_in HT.out (leadP_in HT.out hI hin.2.2.2.2.1 hin.2.2.2.2.2)), relate1_any hB.ba hB.bb (HM.out.keep0 hB.fr) (HM'.out.keep0 hB.fr) HT.out x k hI hin.2.2.2.2.1 hin.2.2.2.2.2⟩
    have e0' : w4.cell? ⟨w.heap.size, 0, none⟩ = some (.int .i64 (L : Int)) := by rw [e0, ← hL]; rfl
    have e1' : w4.cell? ⟨w.heap.size, 1, none⟩ = some (.int .i64 a.start) := e1
    have e2' : w4.cell? ⟨w.heap.size, 2, none⟩ = some (.slice A1 a.next.length c1) := e2
    have e3' : w4.cell? ⟨w.heap.size, 3, none⟩ = some (.slice A2 a.fin.length c2) := e3
    have g0' : w4.cell? ⟨w.heap.size + 1, 0, none⟩ = some (.int .i64 b.letters) := g0
    have g1' : w4.cell? ⟨w.heap.size + 1, 1, none⟩ = some (.int .i64 b.start) := g1
    have g2' : w4.cell? ⟨w.heap.size + 1, 2, none⟩ = some (.slice B1 b.next.length d1) := g2
    have g3' : w4.cell? ⟨w.heap.size + 1, 3, none⟩ = some (.slice B2 b.fin.length d2) := g3
    have HSTA : Hid (∀ W, Frm (fun _ => False) w4 W → Calls Try.prog 29 #[.agg #[.int .i64 (L : Int), .int .i64 a.start, .slice A1 a.next.length c1, .slice A2 a.fin.length c2], .agg #[.int .i64 b.letters, .int .i64 b.start, .slice B1 b.next.length d1, .slice B2 b.fin.length d2]] W fun e w' => e = .returned (pairV (a.start, b.start)) ∧ Frm (fun _ => False) W w') := fun W hW => by
      rw [← hL]
      exact starts_any (HM.out.keep0 (HB5.out.fr.trans hW)) (HM'.out.keep0 (HB5.out.fr.trans hW))
    have HKK : Hid (∀ W, Frm (fun _ => False) w4 W → _) := fun W hW => (⟨hW.cell id e0', hW.cell id e1', hW.cell id e2', hW.cell id e3', hW.cell id g0', hW.cell id g1', hW.cell id g2', hW.cell id g3', hW⟩ : W.cell? ⟨w.heap.size, 0, none⟩ = some (.int .i64 (L : Int)) ∧ W.cell? ⟨w.heap.size, 1, none⟩ = some (.int .i64 a.start) ∧ W.cell? ⟨w.heap.size, 2, none⟩ = some (.slice A1 a.next.length c1) ∧ W.cell? ⟨w.heap.size, 3, none⟩ = some (.slice A2 a.fin.length c2) ∧ W.cell? ⟨w.heap.size + 1, 0, none⟩ = some (.int .i64 b.letters) ∧ W.cell? ⟨w.heap.size + 1, 1, none⟩ = some (.int .i64 b.start) ∧ W.cell? ⟨w.heap.size + 1, 2, none⟩ = some (.slice B1 b.next.length d1) ∧ W.cell? ⟨w.heap.size + 1, 3, none⟩ = some (.slice B2 b.fin.length d2) ∧ Frm (fun _ => False) w4 W)
    clear e0 e1 e2 e3 g0 g1 g2 g3 hL
    go_region_held3 (fun w' => w'.cell? ⟨w.heap.size, 0, none⟩ = some (.int .i64 (L : Int)) ∧ w'.cell? ⟨w.heap.size, 1, none⟩ = some (.int .i64 a.start) ∧ w'.cell? ⟨w.heap.size, 2, none⟩ = some (.slice A1 a.next.length c1) ∧ w'.cell? ⟨w.heap.size, 3, none⟩ = some (.slice A2 a.fin.length c2) ∧ w'.cell? ⟨w.heap.size + 1, 0, none⟩ = some (.int .i64 b.letters) ∧ w'.cell? ⟨w.heap.size + 1, 1, none⟩ = some (.int .i64 b.start) ∧ w'.cell? ⟨w.heap.size + 1, 2, none⟩ = some (.slice B1 b.next.length d1) ∧ w'.cell? ⟨w.heap.size + 1, 3, none⟩ = some (.slice B2 b.fin.length d2) ∧ Frm (fun _ => False) w4 w')
      (first | exact HKK.out _ (Frm.refl _ _) | exact HKK.out _ (Frm.refl _ _).drew | exact HKK.out _ (Frm.trans (E := fun _ => False) (w := w4) (Frm.trans (E := fun _ => False) (w := w4) f5 f6) f7) | exact HKK.out _ (Frm.trans (E := fun _ => False) (w := w4) f5 f6) | exact HKK.out _ f5)
      (first | (go_at_call 29; obtain ⟨-, -, -, -, -, -, -, -, hFx⟩ := ‹_ ∧ _ ∧ _ ∧ _ ∧ _ ∧ _ ∧ _ ∧ _ ∧ Frm (fun _ => False) w4 _›; refine (HSTA.out _ hFx).mono ?_; clear hFx; rintro e w5 ⟨rfl, f5⟩) | (go_at_call 30; refine (nowhere_any _).mono ?_; rintro e w6 ⟨rfl, f6⟩) | (go_at_call 31; have hFx := Frm.trans (E := fun _ => False) (w := w4) f5 f6; refine (searchP_any (HNX.out _ hFx) HOK1.out HOK2.out HLL.out (by omega) (by omega) HSR2.out).mono ?_; clear hFx; rintro e w7 ⟨uT, uR, rfl, o7, r7, f7⟩))
    all_goals
      have F7 := Frm.trans (E := fun _ => False) (w := w4) (Frm.trans (E := fun _ => False) (w := w4) f5 f6) f7
      have HF7 := Lib.hid (HB5.out.fr.trans F7)
      have hsz : w.heap.size ≤ w6.heap.size := by have := HB5.out.fr.1; have := (Frm.trans (E := fun _ => False) (w := w4) f5 f6).1; omega
      rw [List.length_map, List.flatMap_map] at o7
      have HO7 : Hid (w7.ownsRow w.heap.size 40 2 uT zs.length (zs.flatMap encP)) := own_base_ o7 hsz
      obtain ⟨g, cap, rfl, hg⟩ := own_some HO7.out HZ0.out
      clear o7 r7 f5 f6 f7 F7 hsz HKK HNX HSTA e0' e1' e2' e3' g0' g1' g2' g3'
      clear ‹_ ∧ _ ∧ _ ∧ _ ∧ _ ∧ _ ∧ _ ∧ _ ∧ Frm (fun _ => False) w4 _›
      go_wp2_with fail
      refine (sortP_all HO7.out HZ.out).mono ?_
      rintro _ w8 ⟨rfl, zs', hp, hs, ho, f8⟩
      have HP := Lib.hid hp
      have HS := Lib.hid hs
      have HO8 := Lib.hid ho
      have HF8 : Hid (Frm (fun _ => False) w w8) := Frm.mono (E := fun b => w.heap.size ≤ b) ((HF7.out.mono fun _ _ h => h.elim).trans (f8.mono fun b _ h => by omega)) fun b hb h => by omega
      clear hp hs ho f8
      go_wp2_with fail
      refine bodyPost_ret (v := .tuple #[.slice (some ⟨g, 0, none⟩) zs.length cap, .int .i64 0]) (by simp [results, Try.results13, go_sem]) rfl ?_
      exact ⟨_, zs', rfl, HP.out, HS.out, HO8.out, HF8.out⟩
end Go.Proofs.Ytiekaicbjinbaaa
end
section
namespace Go.Proofs.Ytiekaicbjinbaaa
open Go.RowKit
set_option maxRecDepth 100000 in
set_option maxHeartbeats 8000000 in
theorem relate_no {w : World} {P Q : Nat → Prop} {v v' : Value} {a b : A.Mac} (h : MachAt w P v a) (h' : MachAt w Q v' b) (hs : Sized a) (hs' : Sized b) (hfit : A.fit a b ≠ 0) :
    Calls Try.prog 13 #[v, v'] w fun e w' => e = .returned (.tuple #[.slice none 0 0, .int .i64 (A.fit a b)]) ∧ Frm (fun _ => False) w w' := by
  obtain ⟨A1, c1, A2, c2, rfl⟩ := h.form
  obtain ⟨B1, d1, B2, d2, rfl⟩ := h'.form
  have HB0 : Hid (Bx w _ (macC a A1 c1 A2 c2) (macC b B1 d1 B2 d2)) := Bx.new w _ _
  have HM := Lib.hid h
  have HM' := Lib.hid h'
  have HSZ := Lib.hid hs
  have HSZ' := Lib.hid hs'
  have HFIT := Lib.hid hfit
  have e0 := HB0.out.ba.cell 0
  have e1 := HB0.out.ba.cell 1
  have e2 := HB0.out.ba.cell 2
  have e3 := HB0.out.ba.cell 3
  have g0 := HB0.out.bb.cell 0
  have g1 := HB0.out.bb.cell 1
  have g2 := HB0.out.bb.cell 2
  have g3 := HB0.out.bb.cell 3
  simp only [macC] at e0 e1 e2 e3 g0 g1 g2 g3
  clear h h' hs hs' hfit
  go_enter Try.func13, Try.ntmps13
  go_wp2_with fail
  refine (fit_any (HM.out.keep0 HB0.out.fr) (HM'.out.keep0 HB0.out.fr) HSZ.out HSZ'.out).mono ?_
  rintro _ w1 ⟨rfl, f1⟩
  have HB1 := Lib.hid (HB0.out.call f1)
  clear e0 e1 e2 e3 g0 g1 g2 g3 f1 HB0
  have hne : (A.fit a b != 0) = true := by have := HFIT.out; simpa using this
  generalize hft : A.fit a b = ft at *
  have HFT := Lib.hid hft
  clear hft
  go_wp2_with fail
  go_ret2
  exact ⟨by rw [HFT.out]; rfl, HB1.out.fr⟩
set_option maxRecDepth 100000 in
set_option maxHeartbeats 8000000 in
theorem relate_apart {w : World} {P Q : Nat → Prop} {v v' : Value} {a b : A.Mac} {f : Nat} {l : List Int} {q : A.Pr} (h : MachAt w P v a) (h' : MachAt w Q v' b) (hs : Sized a) (hs' : Sized b) (hfit : A.fit a b = 0) (ht : A.Two a b) (he : A.diffO f a b = some (some (l, q))) (hf : f ≤ 100000) :
    Calls Try.prog 13 #[v, v'] w fun e w' => e = .returned (.tuple #[.slice none 0 0, .int .i64 8]) ∧ Frm (fun _ => False) w w' := by
  obtain ⟨A1, c1, A2, c2, rfl⟩ := h.form
  obtain ⟨B1, d1, B2, d2, rfl⟩ := h'.form
  have HB0 : Hid (Bx w _ (macC a A1 c1 A2 c2) (macC b B1 d1 B2 d2)) := Bx.new w _ _
  have HM := Lib.hid h
  have HM' := Lib.hid h'
  have HSZ := Lib.hid hs
  have HSZ' := Lib.hid hs'
  have HE := Lib.hid he
  have HT := Lib.hid ht
  have HFIT := Lib.hid hfit
  have e0 := HB0.out.ba.cell 0
  have e1 := HB0.out.ba.cell 1
  have e2 := HB0.out.ba.cell 2
  have e3 := HB0.out.ba.cell 3
  have g0 := HB0.out.bb.cell 0
  have g1 := HB0.out.bb.cell 1
  have g2 := HB0.out.bb.cell 2
  have g3 := HB0.out.bb.cell 3
  simp only [macC] at e0 e1 e2 e3 g0 g1 g2 g3
  clear h h' hs hs' he ht hfit
  go_enter Try.func13, Try.ntmps13
  go_wp2_with fail
  refine (fit_any (HM.out.keep0 HB0.out.fr) (HM'.out.keep0 HB0.out.fr) HSZ.out HSZ'.out).mono ?_
  rintro _ w1 ⟨rfl, f1⟩
  have HB1 := Lib.hid (HB0.out.call f1)
  rw [HFIT.out]
  clear e0 e1 e2 e3 g0 g1 g2 g3 f1 HB0
  have e0 := HB1.out.ba.cell 0
  have e1 := HB1.out.ba.cell 1
  have e2 := HB1.out.ba.cell 2
  have e3 := HB1.out.ba.cell 3
  have g0 := HB1.out.bb.cell 0
  have g1 := HB1.out.bb.cell 1
  have g2 := HB1.out.bb.cell 2
  have g3 := HB1.out.bb.cell 3
  simp only [macC] at e0 e1 e2 e3 g0 g1 g2 g3
  go_wp2_with fail
  refine (diff_any (HM.out.keep0 HB1.out.fr) (HM'.out.keep0 HB1.out.fr) HT.out HE.out hf).mono ?_
  rintro _ w2 ⟨u, rfl, hu, f2⟩
  have HB2 := Lib.hid (HB1.out.call f2)
  clear e0 e1 e2 e3 g0 g1 g2 g3 f2 HB1 hu
  simp only [pairV]
  go_wp2_with fail
  go_ret2
  exact ⟨rfl, HB2.out.fr.alloc _⟩
set_option maxRecDepth 100000 in
set_option maxHeartbeats 8000000 in
theorem relate_nil {w : World} {P Q : Nat → Prop} {v v' : Value} {a b : A.Mac} {f : Nat} (h : MachAt w P v a) (h' : MachAt w Q v' b) (hs : Sized a) (hs' : Sized b) (hfit : A.fit a b = 0) (ht : A.Two a b) (he : A.diffO f a b = some none) (hf : f ≤ 100000) (hst : (a.start, b.start) = (-1, -1)) :
    Calls Try.prog 13 #[v, v'] w fun e w' => e = .returned (.tuple #[.slice none 0 0, .int .i64 0]) ∧ Frm (fun _ => False) w w' := by
  obtain ⟨A1, c1, A2, c2, rfl⟩ := h.form
  obtain ⟨B1, d1, B2, d2, rfl⟩ := h'.form
  have HB0 : Hid (Bx w _ (macC a A1 c1 A2 c2) (macC b B1 d1 B2 d2)) := Bx.new w _ _
  have HM := Lib.hid h
  have HM' := Lib.hid h'
  have HSZ := Lib.hid hs
  have HSZ' := Lib.hid hs'
  have HE := Lib.hid he
  have HT := Lib.hid ht
  have HFIT := Lib.hid hfit
  have HST := Lib.hid hst
  have e0 := HB0.out.ba.cell 0
  have e1 := HB0.out.ba.cell 1
  have e2 := HB0.out.ba.cell 2
  have e3 := HB0.out.ba.cell 3
  have g0 := HB0.out.bb.cell 0
  have g1 := HB0.out.bb.cell 1
  have g2 := HB0.out.bb.cell 2
  have g3 := HB0.out.bb.cell 3
  simp only [macC] at e0 e1 e2 e3 g0 g1 g2 g3
  clear h h' hs hs' he ht hfit hst
  go_enter Try.func13, Try.ntmps13
  go_wp2_with fail
  refine (fit_any (HM.out.keep0 HB0.out.fr) (HM'.out.keep0 HB0.out.fr) HSZ.out HSZ'.out).mono ?_
  rintro _ w1 ⟨rfl, f1⟩
  have HB1 := Lib.hid (HB0.out.call f1)
  rw [HFIT.out]
  clear e0 e1 e2 e3 g0 g1 g2 g3 f1 HB0
  have e0 := HB1.out.ba.cell 0
  have e1 := HB1.out.ba.cell 1
  have e2 := HB1.out.ba.cell 2
  have e3 := HB1.out.ba.cell 3
  have g0 := HB1.out.bb.cell 0
  have g1 := HB1.out.bb.cell 1
  have g2 := HB1.out.bb.cell 2
  have g3 := HB1.out.bb.cell 3
  simp only [macC] at e0 e1 e2 e3 g0 g1 g2 g3
  go_wp2_with fail
  refine (diff_any (HM.out.keep0 HB1.out.fr) (HM'.out.keep0 HB1.out.fr) HT.out HE.out hf).mono ?_
  rintro _ w2 ⟨rfl, f2⟩
  have HB2 := Lib.hid (HB1.out.call f2)
  clear e0 e1 e2 e3 g0 g1 g2 g3 f2 HB1
  have HB3 := Lib.hid (HB2.out.call ((Frm.refl _ w2).alloc (.cells #[.int .i64 0, .int .i64 0] 40)))
  have e0 := HB3.out.ba.cell 0
  have e1 := HB3.out.ba.cell 1
  have e2 := HB3.out.ba.cell 2
  have e3 := HB3.out.ba.cell 3
  have g0 := HB3.out.bb.cell 0
  have g1 := HB3.out.bb.cell 1
  have g2 := HB3.out.bb.cell 2
  have g3 := HB3.out.bb.cell 3
  simp only [macC] at e0 e1 e2 e3 g0 g1 g2 g3
  simp only [pairV]
  go_wp2_with fail
  refine (starts_any (HM.out.keep0 HB3.out.fr) (HM'.out.keep0 HB3.out.fr)).mono ?_
  rintro _ w3 ⟨rfl, f3⟩
  have HB4 := Lib.hid (HB3.out.call f3)
  clear e0 e1 e2 e3 g0 g1 g2 g3 f3 HB2 HB3
  rw [HST.out]
  simp only [pairV]
  go_wp2_with fail
  refine (nowhere_any w3).mono ?_
  rintro _ w4 ⟨rfl, f4⟩
  have HB5 := Lib.hid (HB4.out.call f4)
  clear f4 HB4
  simp only [pairV]
  go_wp2_with fail
  go_ret2
  exact ⟨rfl, HB5.out.fr⟩
end Go.Proofs.Ytiekaicbjinbaaa
end
section
namespace Go.Proofs.Ytiekaicbjinbaaa
open Go.RowKit
/-- What Relate hands back. -/
def RelPost (w : World) (a b : A.Mac) (e : Ending) (w' : World) : Prop := Frm (fun _ => False) w w' ∧ ∃ u err, e = .returned (.tuple #[u, .int .i64 err]) ∧ (A.fit a b ≠ 0 → err = A.fit a b) ∧ (A.fit a b = 0 → (∃ l, A.Dist a b l) → err = 8) ∧ (A.fit a b = 0 → (¬ ∃ l, A.Dist a b l) → err = 0 ∧ ∃ l, Prs2 w' (fun _ => True) u l ∧ A.check a b l = 0 ∧ l.length ≤ 20000)
theorem relate_all {w : World} {P Q : Nat → Prop} {v v' : Value} {a b : A.Mac} (h : MachAt w P v a) (h' : MachAt w Q v' b) (hs : Sized a) (hs' : Sized b) (hN : A.fit a b = 0 → (1 + a.next.length) * (1 + b.next.length) ≤ 20000) :
    Calls Try.prog 13 #[v, v'] w (RelPost w a b) := by
  by_cases hf : A.fit a b = 0
  case neg => exact (relate_no h h' hs hs' hf).mono fun e w' ⟨he, F⟩ => ⟨F, _, _, he, fun _ => rfl, fun h => absurd h hf, fun h => absurd h hf⟩
  have ht := A.fit_two hf
  have hna := ht.na
  have hnb := ht.nb
  rcases A.diffO_spec ht (f := 20000) (by omega) with ⟨hd, hno⟩ | ⟨l, hd, hl⟩
  case inr => exact (relate_apart h h' hs hs' hf ht hd (by decide)).mono fun e w' ⟨he, F⟩ => ⟨F, _, _, he, fun h => absurd hf h, fun _ _ => rfl, fun _ hn => absurd ⟨l, hl.1⟩ hn⟩
  by_cases hst : (a.start, b.start) = (-1, -1)
  · exact (relate_nil h h' hs hs' hf ht hd (by decide) hst).mono fun e w' ⟨he, F⟩ => ⟨F, _, _, he, fun h => absurd hf h, fun _ hy => absurd hy hno, fun _ _ => ⟨rfl, [], ⟨none, 0, rfl, fun k hk => absurd hk (by simp)⟩, A.check_nil hf hst, by simp⟩⟩
  · obtain ⟨ts, rows, hsr, hF, hin, hcl⟩ := A.search_ok ht (hN hf) hst (f := 20000) (by decide)
    have hB : ∀ z ∈ ts, BPr z := fun z hz => BPr.of_in ht (hF.good z hz).1
    obtain ⟨zs, hzs⟩ : ∃ zs : List DP, zs.map (·.1) = ts := by
      clear hsr hF hin hcl
      induction ts with
      | nil => exact ⟨[], rfl⟩
      | cons z ts ih =>
        obtain ⟨zs, e⟩ := ih fun x hx => hB x (List.mem_cons_of_mem _ hx)
        exact ⟨⟨z, hB z List.mem_cons_self⟩ :: zs, by simp [e]⟩
    have hlen : zs.length = ts.length := by rw [← hzs]; simp
    have hl1 := hF.len
    have hl2 := hN hf
    have hpos : 0 < ts.length := List.length_pos_of_mem hin
    refine (relate_same (zs := zs) (rows := rows) h h' hs hs' hf ht hd (by decide) hst (by rw [hzs]; exact hsr) (by omega) (by omega)).mono fun e w' ⟨u, zs', he, hp, hso, ho, F⟩ => ⟨F, u, 0, he, fun h => absurd hf h, fun _ hy => absurd hy hno, fun _ _ => ⟨rfl, zs'.map (fun z : DP => z.1), ?_, ?_, ?_⟩⟩
    · obtain ⟨g, c, rfl, _⟩ := own_some ho (by omega)
      have hzl : zs'.length = zs.length := hp.length_eq
      rw [← hzl] at ho
      have := own_prs ho rfl (k := zs'.length) (Nat.le_refl _)
      rw [List.take_of_length_le (by simp), hzl] at this
      exact this
    · refine A.check_sorted hf hno hF hin hcl (by rw [← hzs]; exact hp.map _) ?_
      rw [List.pairwise_map]
      exact hso.imp fun {x y} h => by
        have : decide (cfP y x < 0) = false := h
        have h2 := of_decide_eq_false this
        exact h2
    · rw [List.length_map, hp.length_eq]; omega
/-- What Differ hands back, at every two machines. -/
def DifPost (w : World) (a b : A.Mac) (e : Ending) (w' : World) : Prop := Frm (fun _ => False) w w' ∧ ∃ u first err, e = .returned (.tuple #[u, .bool first, .int .i64 err]) ∧ (A.fit a b ≠ 0 → u = .slice none 0 0 ∧ first = false ∧ err = A.fit a b) ∧ (A.fit a b = 0 → (¬ ∃ l, A.Dist a b l) → u = .slice none 0 0 ∧ first = false ∧ err = 7) ∧ (A.fit a b = 0 → ∀ l, A.Least0 a b l → err = 0 ∧ first = A.ends a (A.runP a b (a.start, b.start) l).1 ∧ Ints w' (fun _ => True) u l)
theorem differ_all {w : World} {P Q : Nat → Prop} {v v' : Value} {a b : A.Mac} (h : MachAt w P v a) (h' : MachAt w Q v' b) (hs : Sized a) (hs' : Sized b) :
    Calls Try.prog 8 #[v, v'] w (DifPost w a b) := by
  by_cases hf : A.fit a b = 0
  case neg => exact (differ_any (f := 20000) (r := none) h h' hs hs' (fun h => absurd h hf) (by decide)).mono fun e w' ⟨F, hd⟩ => ⟨F, _, _, _, (by rw [if_neg hf] at hd; exact hd), fun _ => ⟨rfl, rfl, rfl⟩, fun h => absurd h hf, fun h => absurd h hf⟩
  have ht := A.fit_two hf
  have hna := ht.na
  have hnb := ht.nb
  rcases A.diffO_spec ht (f := 20000) (by omega) with ⟨hd, hno⟩ | ⟨l, hd, hl⟩
  · exact (differ_any (f := 20000) (r := none) h h' hs hs' (fun _ => ⟨hd, fun _ _ h => by cases h⟩) (by decide)).mono fun e w' ⟨F, hd⟩ => ⟨F, _, _, _, (by rw [if_pos hf] at hd; exact hd), fun h => absurd hf h, fun _ _ => ⟨rfl, rfl, rfl⟩, fun _ l hl => absurd ⟨l, hl.1⟩ hno⟩
  · refine (differ_any (f := 20000) (r := some (l, A.runP a b (a.start, b.start) l)) h h' hs hs' (fun _ => ⟨hd, fun l' q e => ?_⟩) (by decide)).mono fun e w' ⟨F, hd⟩ => ?_
    · injection e with e
      injection e with e1 e2
      subst e1 e2
      exact ht.run hl.1.1 ⟨ht.fa.start, ht.fb.start⟩
    · rw [if_pos hf] at hd
      obtain ⟨u, he, hu⟩ := hd
      refine ⟨F, u, _, 0, he, fun h => absurd hf h, fun _ hn => absurd ⟨l, hl.1⟩ hn, fun _ l' hl' => ?_⟩
      have := A.least_uniq hl hl'
      subst this
      obtain ⟨A0, c, e1, e2⟩ := hu
      exact ⟨rfl, rfl, A0, c, e1, fun k hk => by obtain ⟨g, o, h1, _, h3⟩ := e2 k hk; exact ⟨g, o, h1, trivial, h3⟩⟩
end Go.Proofs.Ytiekaicbjinbaaa
end
section
namespace Go.Proofs.Ytiekaicbjinbaaa
open Go.RowKit
theorem mach_nm {w w' : World} {E : Nat → Prop} {v : Value} {o : A.Mac} (h : MachAt w (NM w) v o) (F : Frm E w w') (hE : ∀ b, NM w b → ¬ E b) : MachAt w' (NM w') v o := (h.keep F hE).mono fun b hb => hb.frm F (hE b hb)
/-- A machine in a box of its own. -/
def MB (w : World) (g : Nat) (o : A.Mac) : Prop := ∃ nv ev, Blk w g 25 #[.int .i64 o.letters, .int .i64 o.start, nv, ev] ∧ MachAt w (NM w) (.agg #[.int .i64 o.letters, .int .i64 o.start, nv, ev]) o
theorem MB.frm {w w' : World} {E : Nat → Prop} {g : Nat} {o : A.Mac} (h : MB w g o) (F : Frm E w w') (hg : ¬ E g) (hE : ∀ b, NM w b → ¬ E b) : MB w' g o := by
  obtain ⟨nv, ev, h1, h2⟩ := h
  exact ⟨nv, ev, F.blk h1 hg, mach_nm h2 F hE⟩
def D4 (a b : A.Mac) (va vb : Value) (n1 : Nat) (w1 : World) (L : Nat → Bool) (vs : Nat → Value) (w : World) : Prop :=
  Frm (fun x => n1 ≤ x) w1 w ∧ (L 0 = true → vs 0 = va) ∧ (L 1 = true → ∃ o, MachAt w (NM w) (vs 1) o ∧ A.Shr a o) ∧ (L 2 = true → vs 2 = vb) ∧ (L 3 = true → ∃ o, MachAt w (NM w) (vs 3) o ∧ A.Shr b o) ∧
  (L 4 = true → ∃ g c, vs 4 = .pointer (some ⟨g, 0, none⟩) ∧ n1 ≤ g ∧ c.size = 4 ∧ Blk w g 25 c) ∧ (L 5 = true → ∃ g c, vs 5 = .pointer (some ⟨g, 0, none⟩) ∧ n1 ≤ g ∧ c.size = 4 ∧ Blk w g 25 c) ∧
  (L 4 = true → L 5 = true → vs 4 ≠ vs 5) ∧ (L 6 = true → L 4 = true ∧ L 5 = true ∧ ∃ g o, vs 4 = .pointer (some ⟨g, 0, none⟩) ∧ MB w g o ∧ A.Shr a o) ∧ (L 7 = true → L 4 = true ∧ L 5 = true ∧ ∃ g o, vs 5 = .pointer (some ⟨g, 0, none⟩) ∧ MB w g o ∧ A.Shr b o)
section
variable {a b : A.Mac} {va vb v : Value} {n1 : Nat} {w1 w w' : World} {L : Nat → Bool} {vs : Nat → Value}
theorem D4.q (h : D4 a b va vb n1 w1 L vs w) (F : Frm (fun _ => False) w w') : D4 a b va vb n1 w1 L vs w' := by
  obtain ⟨h0, h1, h2, h3, h4, h5, h6, h7, h8, h9⟩ := h
  refine ⟨h0.trans (F.mono fun _ _ h => h.elim), h1, fun h => ?_, h3, fun h => ?_, fun h => ?_, fun h => ?_, h7, fun h => ?_, fun h => ?_⟩
  · obtain ⟨o, m, s⟩ := h2 h
    exact ⟨o, mach_nm m F fun _ _ => id, s⟩
  · obtain ⟨o, m, s⟩ := h4 h
    exact ⟨o, mach_nm m F fun _ _ => id, s⟩
  · obtain ⟨g, c, e, hg, hc, hb⟩ := h5 h
    exact ⟨g, c, e, hg, hc, F.blk hb id⟩
  · obtain ⟨g, c, e, hg, hc, hb⟩ := h6 h
    exact ⟨g, c, e, hg, hc, F.blk hb id⟩
  · obtain ⟨l4, l5, g, o, e, m, s⟩ := h8 h
    exact ⟨l4, l5, g, o, e, m.frm F id fun _ _ => id, s⟩
  · obtain ⟨l4, l5, g, o, e, m, s⟩ := h9 h
    exact ⟨l4, l5, g, o, e, m.frm F id fun _ _ => id, s⟩
theorem D4.cong {L' : Nat → Bool} {vs' : Nat → Value} (hL : ∀ k < 8, L k = L' k) (hv : ∀ k < 8, vs k = vs' k) (h : D4 a b va vb n1 w1 L vs w) : D4 a b va vb n1 w1 L' vs' w := by
  unfold D4 at h ⊢
  rw [hL 0 (by decide), hL 1 (by decide), hL 2 (by decide), hL 3 (by decide), hL 4 (by decide), hL 5 (by decide), hL 6 (by decide), hL 7 (by decide), hv 0 (by decide), hv 1 (by decide), hv 2 (by decide), hv 3 (by decide), hv 4 (by decide), hv 5 (by decide)] at h
  exact h
theorem D4.store {g : Nat} (h : D4 a b va vb n1 w1 L vs w) {c d : Array Value} (hg : n1 ≤ g) (hb : Blk w g 25 c) (hd : Blk w' g 25 d) (hs : d.size = 4) (F : Frm (fun x => x = g) w w') (h67 : (L 6 = true → vs 4 ≠ .pointer (some ⟨g, 0, none⟩)) ∧ (L 7 = true → vs 5 ≠ .pointer (some ⟨g, 0, none⟩))) : D4 a b va vb n1 w1 L vs w' := by
  have hn : ∀ b, NM w b → ¬ b = g := fun b ⟨t, cs, hb', ht⟩ e => by subst e; exact ht (blk_type hb' hb)
  obtain ⟨h0, h1, h2, h3, h4, h5, h6, h7, h8, h9⟩ := h
  refine ⟨h0.trans (F.mono fun x _ e => by subst e; exact hg), h1, fun h => ?_, h3, fun h => ?_, fun h => ?_, fun h => ?_, h7, fun h => ?_, fun h => ?_⟩
  · obtain ⟨o, m, s⟩ := h2 h
    exact ⟨o, mach_nm m F hn, s⟩
  · obtain ⟨o, m, s⟩ := h4 h
    exact ⟨o, mach_nm m F hn, s⟩
  · obtain ⟨g', c', e, hg', hc, hb'⟩ := h5 h
    by_cases e' : g' = g
    · subst e'; exact ⟨g', d, e, hg', hs, hd⟩
    · exact ⟨g', c', e, hg', hc, F.blk hb' e'⟩
  · obtain ⟨g', c', e, hg', hc, hb'⟩ := h6 h
    by_cases e' : g' = g
    · subst e'; exact ⟨g', d, e, hg', hs, hd⟩
    · exact ⟨g', c', e, hg', hc, F.blk hb' e'⟩
  · obtain ⟨l4, l5, g', o, e, m, s⟩ := h8 h
    exact ⟨l4, l5, g', o, e, m.frm F (fun e' => h67.1 h (by rw [e, e'])) hn, s⟩
  · obtain ⟨l4, l5, g', o, e, m, s⟩ := h9 h
    exact ⟨l4, l5, g', o, e, m.frm F (fun e' => h67.2 h (by rw [e, e'])) hn, s⟩
theorem D4.s0 (h : D4 a b va vb n1 w1 L vs w) (e : v = va) : D4 a b va vb n1 w1 (updB L 0) (updV vs 0 v) w := by
  obtain ⟨h0, h1, h2, h3, h4, h5, h6, h7, h8, h9⟩ := h
  exact ⟨h0, fun _ => e, h2, h3, h4, h5, h6, h7, h8, h9⟩
theorem D4.s2 (h : D4 a b va vb n1 w1 L vs w) (e : v = vb) : D4 a b va vb n1 w1 (updB L 2) (updV vs 2 v) w := by
  obtain ⟨h0, h1, h2, h3, h4, h5, h6, h7, h8, h9⟩ := h
  exact ⟨h0, h1, h2, fun _ => e, h4, h5, h6, h7, h8, h9⟩
theorem D4.s1 (h : D4 a b va vb n1 w1 L vs w) (e : ∃ o, MachAt w (NM w) v o ∧ A.Shr a o) : D4 a b va vb n1 w1 (updB L 1) (updV vs 1 v) w := by
  obtain ⟨h0, h1, h2, h3, h4, h5, h6, h7, h8, h9⟩ := h
  exact ⟨h0, h1, fun _ => e, h3, h4, h5, h6, h7, h8, h9⟩
theorem D4.s3 (h : D4 a b va vb n1 w1 L vs w) (e : ∃ o, MachAt w (NM w) v o ∧ A.Shr b o) : D4 a b va vb n1 w1 (updB L 3) (updV vs 3 v) w := by
  obtain ⟨h0, h1, h2, h3, h4, h5, h6, h7, h8, h9⟩ := h
  exact ⟨h0, h1, h2, h3, fun _ => e, h5, h6, h7, h8, h9⟩
theorem D4.s4 (h : D4 a b va vb n1 w1 L vs w) (hL : L 4 = false) (o : Array Value) (ho : o.size = 4) (hn : n1 ≤ w.heap.size) : D4 a b va vb n1 w1 (updB L 4) (updV vs 4 (.pointer (some ⟨w.heap.size, 0, none⟩))) (w.alloc (.cells o 25)) := by
  have h' := h.q ((Frm.refl (fun _ => False) w).alloc (.cells o 25))
  obtain ⟨_, _, _, _, _, _, k6, _, k8, k9⟩ := h
  obtain ⟨h0, h1, h2, h3, h4, h5, h6, h7, h8, h9⟩ := h'
  refine ⟨h0, h1, h2, h3, h4, fun _ => ⟨_, _, rfl, hn, ho, Blk.new _ _ _⟩, h6, fun _ l5 e => ?_, fun l6 => ?_, fun l7 => ?_⟩
  · obtain ⟨g, c, e5, _, _, hb⟩ := k6 l5
    have e' : Value.pointer (some ⟨w.heap.size, 0, none⟩) = vs 5 := e
    rw [e5] at e'
    have := hb.lt
    injection e' with e'
    injection e' with e'
    injection e' with e'
    omega
  · have := (k8 l6).1
    rw [hL] at this
    cases this
  · have := (k9 l7).1
    rw [hL] at this
    cases this
theorem D4.s5 (h : D4 a b va vb n1 w1 L vs w) (hL : L 5 = false) (o : Array Value) (ho : o.size = 4) (hn : n1 ≤ w.heap.size) : D4 a b va vb n1 w1 (updB L 5) (updV vs 5 (.pointer (some ⟨w.heap.size, 0, none⟩))) (w.alloc (.cells o 25)) := by
  have h' := h.q ((Frm.refl (fun _ => False) w).alloc (.cells o 25))
  obtain ⟨_, _, _, _, _, k5, _, _, k8, k9⟩ := h
  obtain ⟨h0, h1, h2, h3, h4, h5, h6, h7, h8, h9⟩ := h'
  refine ⟨h0, h1, h2, h3, h4, h5, fun _ => ⟨_, _, rfl, hn, ho, Blk.new _ _ _⟩, fun l4 _ e => ?_, fun l6 => ?_, fun l7 => ?_⟩
  · obtain ⟨g, c, e5, _, _, hb⟩ := k5 l4
    have e' : vs 4 = Value.pointer (some ⟨w.heap.size, 0, none⟩) := e
    rw [e5] at e'
    have := hb.lt
    injection e' with e'
    injection e' with e'
    injection e' with e'
    omega
  · have := (k8 l6).2.1
    rw [hL] at this
    cases this
  · have := (k9 l7).2.1
    rw [hL] at this
    cases this
theorem D4.s6 (h : D4 a b va vb n1 w1 L vs w) (h4 : L 4 = true) (h5 : L 5 = true) {g : Nat} {o : A.Mac} (e : vs 4 = .pointer (some ⟨g, 0, none⟩)) (hm : MB w g o) (hs : A.Shr a o) : D4 a b va vb n1 w1 (updB L 6) (updV vs 6 v) w := by
  obtain ⟨h0, h1, h2, h3, k4, k5, h6, h7, h8, h9⟩ := h
  exact ⟨h0, h1, h2, h3, k4, k5, h6, h7, fun _ => ⟨h4, h5, g, o, e, hm, hs⟩, h9⟩
theorem D4.s7 (h : D4 a b va vb n1 w1 L vs w) (h4 : L 4 = true) (h5 : L 5 = true) {g : Nat} {o : A.Mac} (e : vs 5 = .pointer (some ⟨g, 0, none⟩)) (hm : MB w g o) (hs : A.Shr b o) : D4 a b va vb n1 w1 (updB L 7) (updV vs 7 v) w := by
  obtain ⟨h0, h1, h2, h3, k4, k5, h6, h7, h8, h9⟩ := h
  exact ⟨h0, h1, h2, h3, k4, k5, h6, h7, h8, fun _ => ⟨h4, h5, g, o, e, hm, hs⟩⟩
end
end Go.Proofs.Ytiekaicbjinbaaa
end
