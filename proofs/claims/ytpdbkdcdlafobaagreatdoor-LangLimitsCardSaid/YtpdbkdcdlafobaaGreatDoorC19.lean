/- The contract of appendNodes. A strings.Builder that is the one field of package lang's writer: written to, and its text. Contracts of the program's functions, with no condition beyond what each theorem states. -/
import Derived.Test.YtpdbkdcdlafobaaGreatDoorC18
import Derived.Test.YtpdbkdcdlafobaaGreatDoorC03
import Derived.Test.YtpdbkdcdlafobaaGreatDoorShelf
import Derived.Shelf.Strings.Builder1
section
namespace Go.Proofs.YtpdbkdcdlafobaaGreatDoor
open Go.RowKit
def nats (l : List Nat) : List Value := l.map fun (k : Nat) => .int .i64 (k : Int)
/-- Cells that read as nodes, whose own rows lie in blocks of B. -/
def Nds (w : World) (B : Nat → Prop) : List L.Nd → List Value → Prop
  | [], cs => cs = []
  | d :: ds, cs => ∃ pv kv cs', cs = .int .i64 d.kind :: .int .i64 d.type :: .string (str d.name) :: .int .i64 d.value :: pv :: .int .i64 d.result :: kv :: cs' ∧
    w.ownsRow 0 49 2 pv d.params.length (prs d.params) ∧ (∀ g, pv.ownBlock = some g → B g) ∧ w.ownsRow 0 3 1 kv d.kids.length (nats d.kids) ∧ (∀ g, kv.ownBlock = some g → B g) ∧ Nds w B ds cs'
theorem Nds.keep {w w' : World} {B B' : Nat → Prop} (h : Same B w w') (hB : ∀ b, B b → b < w.heap.size → B' b) : ∀ {ds : List L.Nd} {cs : List Value}, Nds w B ds cs → Nds w' B' ds cs
  | [], _, e => e
  | _ :: _, _, ⟨pv, kv, cs', e, h1, h2, h3, h4, h5⟩ => ⟨pv, kv, cs', e, h.row h1 h2, fun g hg => hB g (h2 g hg) (World.ownsRow.lt h1 g hg).2, h.row h3 h4, fun g hg => hB g (h4 g hg) (World.ownsRow.lt h3 g hg).2, Nds.keep h hB h5⟩
theorem Nds.keepT {w w' : World} {B : Nat → Prop} (h : Keeps 49 w w') (h' : Keeps 3 w w') : ∀ {ds : List L.Nd} {cs : List Value}, Nds w B ds cs → Nds w' B ds cs
  | [], _, e => e
  | _ :: _, _, ⟨pv, kv, cs', e, h1, h2, h3, h4, h5⟩ => ⟨pv, kv, cs', e, h.row h1, h2, h'.row h3, h4, Nds.keepT h h' h5⟩
theorem Nds.append {w : World} {B : Nat → Prop} {more : List L.Nd} {xs : List Value} (hm : Nds w B more xs) : ∀ {ds : List L.Nd} {cs : List Value}, Nds w B ds cs → Nds w B (ds ++ more) (cs ++ xs)
  | [], _, h => by rw [show _ = [] from h]; exact hm
  | _ :: _, _, ⟨pv, kv, cs', e, h1, h2, h3, h4, h5⟩ => ⟨pv, kv, cs' ++ xs, by rw [e]; rfl, h1, h2, h3, h4, Nds.append hm h5⟩
theorem Nds.len {w : World} {B : Nat → Prop} : ∀ {ds : List L.Nd} {cs : List Value}, Nds w B ds cs → cs.length = ds.length * 7
  | [], _, h => by rw [show _ = [] from h]; rfl
  | _ :: _, _, ⟨pv, kv, cs', e, _, _, _, _, h5⟩ => by rw [e]; have := Nds.len h5; simp; omega
theorem info_node : (Tryz.prog.info? 47).map (fun i => (i.zero, i.size, i.bytes)) = some (some (.agg #[.int .i64 0, .int .i64 0, .string ⟨#[]⟩, .int .i64 0, .slice none 0 0, .int .i64 0, .slice none 0 0]), 7, 96) := by kernel_rfl
theorem info_int : (Tryz.prog.info? 3).map (fun i => (i.zero, i.size, i.bytes)) = some (some (.int .i64 0), 1, 8) := by kernel_rfl
theorem cell_seven_at {w : World} {a b c d e f g : Value} {t : TypeId} {n : Nat} (hn : w.heap.size = n) : ∀ (j : Nat) (z : Value), [a, b, c, d, e, f, g][j]? = some z → (w.alloc (.cells #[a, b, c, d, e, f, g] t)).cell? ((⟨n, 0, none⟩ : Addr).add j) = some z := by
  subst hn
  intro j z hz
  rw [add_zero_off, (Blk.new w t #[a, b, c, d, e, f, g]).cell j]
  simpa using hz
/-- A frame of one's own row keeps blocks of other types. -/
theorem keeps_own {w w' : World} {base size n : Nat} {t e : TypeId} {v : Value} {xs : List Value} (F : Frm (fun b => v.ownBlock = some b) w w') (ho : w.ownsRow base t size v n xs) (hne : t ≠ e) : Keeps e w w' := by
  refine F.keeps fun g cur hE hc => ?_
  rcases ho.2 with ⟨rfl, _⟩ | ⟨g', cap, cur', rfl, _, hh, _⟩
  · cases hE
  · have : g' = g := by simpa [Value.ownBlock] using hE
    subst this
    rw [hc] at hh
    injection hh with hh
    injection hh with _ ht
    exact hne ht.symm
/-- What has been gathered stays as it is when a node's own list of kids grows. -/
theorem Nds.growB {B : Nat → Prop} {lo : Nat} {w w' : World} {v v' : Value} {c : Nat} {xs : List Value} {ds : List L.Nd} {vs : List Value} (h : Nds w (fun b => B b ∧ v.ownBlock ≠ some b) ds vs) (_ho : w.ownsRow lo 3 1 v c xs)
    (o : Obj) (hg : (w.alloc o).grownBy w' v.ownBlock) (hat : v'.ownBlock = v.ownBlock ∨ v'.ownBlock = some (w.heap.size + 1)) : Nds w' (fun b => B b ∧ v'.ownBlock ≠ some b) ds vs := by
  refine Nds.keep (fun b hb hl => ?_) (fun b hb hl => ⟨hb.1, fun e => ?_⟩) h
  · exact (hg.block b (by simp; omega) (fun e => hb.2 e.symm)).trans (Below.heap_alloc w o b hl)
  · rcases hat with h | h
    · exact hb.2 (h ▸ e)
    · rw [h] at e; injection e with e; omega
def headCells (t : L.Tm) (pv kv : Value) : List Value := [.int .i64 (L.kindOf t), .int .i64 (L.typeOf t), .string (str (L.nameOf t)), .int .i64 (L.valueOf t), pv, .int .i64 (L.resultOf t), kv]
theorem ndsL_nil (n k : Nat) : L.ndsL n k [] = ([], []) := by simp [L.ndsL]
theorem nats_snoc (l : List Nat) (k : Nat) : nats (l ++ [k]) = nats l ++ [.int .i64 (k : Int)] := by simp [nats]
theorem set_head {cs rest : List Value} {t : L.Tm} {pv kv kv' : Value} {m : Nat} (h : cs.length = m * 7) : (cs ++ (headCells t pv kv ++ rest)).set (m * 7 + 6) kv' = cs ++ (headCells t pv kv' ++ rest) := by
  rw [List.set_append_right _ _ (by omega), show m * 7 + 6 - cs.length = 6 from by omega]; rfl
theorem at_head {cs rest : List Value} {t : L.Tm} {pv kv : Value} {m : Nat} (h : cs.length = m * 7) : (cs ++ (headCells t pv kv ++ rest))[m * 7 + 6]? = some kv := by
  rw [List.getElem?_append_right (by omega), show m * 7 + 6 - cs.length = 6 from by omega]; rfl
def ApPost (n m : Nat) (t : L.Tm) (cs : List Value) (v : Value) (w : World) (e : Ending) (w' : World) : Prop :=
  Frm (fun b => v.ownBlock = some b) w w' ∧ ∃ v' cs', e = .returned v' ∧ w'.ownsRow 0 47 7 v' (m + L.nodes t) (cs ++ cs') ∧ Nds w' (w.heap.size ≤ ·) (L.nds n m t) cs' ∧ (∀ g, v'.ownBlock = some g → v.ownBlock = some g ∨ w.heap.size ≤ g)
set_option maxRecDepth 100000 in
set_option maxHeartbeats 4000000 in
theorem append_any : ∀ (n : Nat) (t : L.Tm) (A : Nat → Prop) (tv v : Value) (m : Nat) (cs : List Value) (w : World), L.nodes t ≤ n → Rep w A t tv → w.ownsRow 0 47 7 v m cs → m + L.nodes t ≤ 1000000 →
    Calls Tryz.prog 21 #[v, tv] w (ApPost n m t cs v w) := by
  intro n
  induction n with
  | zero => intro t A tv v m cs w hn h; exfalso; have := h.ok.pos; omega
  | succ n ih =>
    intro t A tv v m cs w hn h ho hm
    have IH := Lib.hid ih
    clear ih
    obtain ⟨T, x, F, rfl, hme, hC⟩ := node_any h
    have HM := Lib.hid hme
    have HCl := Lib.hid hC
    obtain ⟨hkn, hko⟩ := L.kids_nodes h.ok
    have HKO := Lib.hid hko
    have HV := Lib.hid ho
    obtain ⟨Av, cv, rfl⟩ := own_form ho
    clear hme hC h hko ho
    go_enter Tryz.func21, Tryz.ntmps21
    go_wp2_with (refine wpList_invoke rfl (.tmp 11) "doppelganger/lang.node" #[] rfl (.iface T (.agg x)) rfl F (.agg x) (HM.out _) ?_)
    intro K hK
    refine HCl.out.mono ?_
    rintro e w1 ⟨f1, pv, kv, ks, rfl, hp, hk, -, hr⟩
    obtain ⟨Ap, cp, rfl⟩ := own_form hp
    obtain ⟨Ak, ck, rfl⟩ := own_form hk
    have HP := Lib.hid hp
    have HKR := Lib.hid hk
    have HR := Lib.hid hr
    have F1 := Lib.hid f1
    refine hK _ _ ?_
    clear hp hk hr hK K
    have F2 := Lib.hid (((f1.alloc (.cells #[.int .i64 (L.kindOf t), .int .i64 (L.typeOf t), .string (str (L.nameOf t)), .int .i64 (L.valueOf t), .slice Ap (L.paramsOf t).length cp, .int .i64 (L.resultOf t), .slice none 0 0] 47))).alloc (.cells #[.int .i64 (L.kindOf t), .int .i64 (L.typeOf t), .string (str (L.nameOf t)), .int .i64 (L.valueOf t), .slice Ap (L.paramsOf t).length cp, .int .i64 (L.resultOf t), .slice none 0 0] 47))
    have ho2 := F2.out.row HV.out (fun _ _ h => h) (Nat.le_refl _)
    have hs1 := f1.1
    have hcount := HR.out.count
    clear f1
    obtain ⟨i0, hi, hz0, hz1, hz2⟩ := info_parts info_node
    go_wp2_with (at_builtin; refine wpList_append_own_at _ rfl _ _ 27 rfl 0 47 i0 (.agg #[.int .i64 0, .int .i64 0, .string ⟨#[]⟩, .int .i64 0, .slice none 0 0, .int .i64 0, .slice none 0 0]) 7 96 Tryz.underlying27 hi hz0 hz1 hz2 rfl (by decide) _ _ _ rfl ho2 ⟨w1.heap.size + 1, 0, none⟩ 1 1 (headCells t (.slice Ap (L.paramsOf t).length cp) (.slice none 0 0)) rfl rfl ?c1 ?c2 ?c3 ?c4 ?c5 ?_)
    case c1 => exact cell_seven_at (by simp)
    case c2 => simp [Value.oneCell', headCells]
    case c3 => unfold maxLen; omega
    case c4 => omega
    case c5 => omega
    intro v' w2 hown2 hgrow2 _ hat2
    have hcl : cs.length = m * 7 := HV.out.1
    have HAT : Hid (∀ g, v'.ownBlock = some g → (Value.slice Av m cv).ownBlock = some g ∨ w.heap.size ≤ g) := fun g hg => by
      rcases hat2 with h | h
      · exact .inl (h ▸ hg)
      · rw [h] at hg; injection hg with hg; right; first | omega | (simp at hg; omega)
    have HF2 : Hid (Frm (fun b => (Value.slice Av m cv).ownBlock = some b) w w2) := (F2.out.mono fun _ _ h => h.elim).grown hgrow2 fun g hg _ => hg
    have GG : ∀ t, 47 ≠ t → Keeps t w1 w2 := fun t ht => ((((Frm.refl (fun _ => False) w1).alloc _).alloc _).keeps0 (e := t)).trans ((Keeps.refl t _).grown ho2 ht hgrow2)
    have HT2 : Hid (Keeps 34 w1 w2) := GG _ (by decide)
    have HQ2 : Hid (Keeps 49 w1 w2) := GG _ (by decide)
    have hw2 : w1.heap.size ≤ w2.heap.size := by have := hgrow2.size; simp at this; omega
    obtain ⟨A2, c2, rfl⟩ := own_form hown2
    have HO2 := Lib.hid hown2
    clear hown2 hgrow2 hat2 ho2 hi hz0 hz1 hz2 GG
    go_wp2_with fail
    go_loopg [0, 23] ((L.kidsOf t).length + 1) (fun q lv i wr => ∃ (k : Nat) (kv : Value) (rest : List Value), k ≤ (L.kidsOf t).length ∧ q = (L.kidsOf t).length + 1 - k ∧ i = .int .i64 k ∧
      wr.ownsRow 0 47 7 lv (m + 1 + L.nodesL ((L.kidsOf t).take k)) (cs ++ (headCells t (.slice Ap (L.paramsOf t).length cp) kv ++ rest)) ∧
      wr.ownsRow w.heap.size 3 1 kv k (nats (L.ndsL n (m + 1) ((L.kidsOf t).take k)).1) ∧ Hid (Nds wr (fun b => w.heap.size ≤ b ∧ kv.ownBlock ≠ some b) (L.ndsL n (m + 1) ((L.kidsOf t).take k)).2 rest) ∧
      Hid (∀ g, lv.ownBlock = some g → (Value.slice Av m cv).ownBlock = some g ∨ w.heap.size ≤ g) ∧ Hid (Frm (fun b => (Value.slice Av m cv).ownBlock = some b) w wr) ∧ Hid (Keeps 34 w1 wr) ∧ Hid (Keeps 49 w1 wr) ∧ w1.heap.size ≤ wr.heap.size)
    case atStart => exact ⟨0, .slice none 0 0, [], Nat.zero_le _, rfl, rfl, by rw [List.append_nil]; exact HO2.out, by rw [List.take_zero, ndsL_nil]; exact World.ownsRow_nil _ _ _ _, show Nds _ _ _ _ by rw [List.take_zero, ndsL_nil]; rfl, HAT.out, HF2.out, HT2.out, HQ2.out, hw2⟩
    case round =>
      obtain ⟨k, kv, rest, hk, rfl, rfl, hol, hok, HN, HA, HF, HT, HQ, hsz⟩ := hrel
      have hkl : L.nodesL ((L.kidsOf t).take k) ≤ L.nodesL (L.kidsOf t) := L.nodesL_le _ _
      by_cases hlt : k < (L.kidsOf t).length
      · obtain ⟨u, hu, hru⟩ := HR.out.at_ hlt
        obtain ⟨Ak', ck', hsl, hcs⟩ := own_cells (HT.out.row HKR.out)
        injection hsl with e1 _ e2
        subst e1 e2
        obtain ⟨gk, rfl, hcu⟩ := hcs k u hu
        have HRU := Lib.hid (hru.keepT HT.out HQ.out)
        obtain ⟨Tk, xk, rfl⟩ := Rep.form hru
        have hmem : (L.kidsOf t)[k] ∈ L.kidsOf t := List.getElem_mem hlt
        have hnk := L.nodesL_mem hmem
        have htk := L.nodesL_take _ _ hlt
        have HTK := Lib.hid htk
        have hkl2 := L.nodesL_le (L.kidsOf t) (k + 1)
        have HLEN : Hid ((L.ndsL n (m + 1) ((L.kidsOf t).take k)).2.length = L.nodesL ((L.kidsOf t).take k)) := L.ndsL_len (fun u hu => HKO.out u (List.mem_of_mem_take hu)) (by omega)
        have HS : Hid (L.ndsL n (m + 1) ((L.kidsOf t).take (k + 1)) = ((L.ndsL n (m + 1) ((L.kidsOf t).take k)).1 ++ [m + 1 + L.nodesL ((L.kidsOf t).take k)], (L.ndsL n (m + 1) ((L.kidsOf t).take k)).2 ++ L.nds n (m + 1 + L.nodesL ((L.kidsOf t).take k)) (L.kidsOf t)[k])) :=
          show _ = _ by rw [List.take_succ_eq_append_getElem hlt, L.ndsL_snoc, HLEN.out]
        clear hru hu hcs hmem htk HLEN
        generalize hM : L.nodesL ((L.kidsOf t).take k) = M at *
        generalize (L.kidsOf t)[k] = kid at *
        have hcell := @World.ownsRow.cells _ _ _ _ _ _ _ hol
        have HOL := Lib.hid hol
        rcases hol.2 with ⟨rfl, hz⟩ | ⟨gl, capl, curl, rfl, _⟩
        · omega
        have hc6 := hcell (g := gl) rfl _ _ (at_head (rest := rest) (t := t) (pv := .slice Ap (L.paramsOf t).length cp) (kv := kv) hcl)
        rw [add_zero_off] at hc6
        obtain ⟨Aq, cq, rfl⟩ := own_form hok
        have HOK := Lib.hid hok
        clear hcell hol hM
        obtain ⟨i1, hi, hz0, hz1, hz2⟩ := info_parts info_int
        go_wp2_with (at_builtin; refine wpList_append_own_at _ rfl _ _ 45 rfl w.heap.size 3 i1 (.int .i64 0) 1 8 Tryz.underlying45 hi hz0 hz1 hz2 rfl (by decide) _ _ _ rfl (hok.alloc _) ⟨wr.heap.size, 0, none⟩ 1 1 [.int .i64 ((m + 1 + M : Nat) : Int)] rfl rfl ?d1 ?d2 ?d3 ?d4 ?d5 ?_)
        case d2 => simp [Value.oneCell']
        case d3 => unfold maxLen; omega
        case d4 => omega
        case d5 => have := F1.out.1; first | omega | (simp; omega)
        intro v3 w3 hown3 hgrow3 _ hat3
        have hs3 : wr.heap.size < w3.heap.size := by have := hgrow3.size; simp at this; omega
        have GA := (Frm.refl (fun _ => False) wr).alloc (.cells #[.int .i64 ((m + 1 + M : Nat) : Int)] 3)
        have K3 : ∀ e, 3 ≠ e → Keeps e wr w3 := fun e he => (GA.keeps0 (e := e)).trans ((Keeps.refl e _).grown (hok.alloc _) he hgrow3)
        have HOL3 := Lib.hid ((K3 _ (by decide)).row HOL.out)
        have HN3 := Lib.hid (Nds.growB (v' := v3) HN.out hok _ hgrow3 hat3)
        have HT3 := Lib.hid (HT.out.trans (K3 _ (by decide)))
        have HQ3 := Lib.hid (HQ.out.trans (K3 _ (by decide)))
        have HF3 := Lib.hid ((HF.out.alloc (.cells #[.int .i64 ((m + 1 + M : Nat) : Int)] 3)).grown hgrow3 fun g hg hl => by have := own_ge HOK.out g hg; omega)
        have z6 := HOL3.out.frozenAt (m * 7 + 6)
        have hc63 := @World.ownsRow.cells _ _ _ _ _ _ _ HOL3.out gl rfl _ _ (at_head (rest := rest) (t := t) (pv := .slice Ap (L.paramsOf t).length cp) (kv := .slice Aq k cq) hcl)
        rw [add_zero_off] at hc63
        obtain ⟨A3, c3, rfl⟩ := own_form hown3
        have HO3 := Lib.hid hown3
        obtain ⟨hst, hgr⟩ := HOL3.out.stored (m * 7 + 6) (.slice A3 (k + 1) c3)
        rw [set_head hcl] at hst
        have HOL4 := Lib.hid hst
        have FS : Frm (· = gl) w3 (w3.setCell ⟨gl, m * 7 + 6, none⟩ (.slice A3 (k + 1) c3)) := (Frm.refl (· = gl) w3).set_ (p := ⟨gl, m * 7 + 6, none⟩) (fun _ => rfl) _
        have KS : ∀ e, 47 ≠ e → Keeps e w3 (w3.setCell ⟨gl, m * 7 + 6, none⟩ (.slice A3 (k + 1) c3)) := fun e he => keeps_own (v := .slice (some ⟨gl, 0, none⟩) (m + 1 + M) capl) (FS.mono fun b _ h => by subst h; rfl) HOL3.out he
        have HN4 := Lib.hid (HN3.out.keepT (KS _ (by decide)) (KS _ (by decide)))
        have HT4 := Lib.hid (HT3.out.trans (KS _ (by decide)))
        have HQ4 := Lib.hid (HQ3.out.trans (KS _ (by decide)))
        have HO4 := Lib.hid ((KS _ (by decide)).row HO3.out)
        have HF4 := Lib.hid (HF3.out.set_ (p := ⟨gl, m * 7 + 6, none⟩) (fun hl => by rcases HA.out gl rfl with h | h; exact h; exact absurd hl (by dsimp only; omega)) (.slice A3 (k + 1) c3))
        have HRU4 := Lib.hid (HRU.out.keepT ((K3 _ (by decide)).trans (KS _ (by decide))) ((K3 _ (by decide)).trans (KS _ (by decide))))
        have hs4 : wr.heap.size < (w3.setCell ⟨gl, m * 7 + 6, none⟩ (.slice A3 (k + 1) c3)).heap.size := by simp; omega
        have hlt3 : ∀ g, (Value.slice A3 (k + 1) c3).ownBlock = some g → g < (w3.setCell ⟨gl, m * 7 + 6, none⟩ (.slice A3 (k + 1) c3)).heap.size := fun g hg => by have := (HO3.out.lt g hg).2; simp; omega
        have HLT3 := Lib.hid hlt3
        clear hi hz0 hz1 hz2 hown3 hgrow3 hat3 GA K3 hst hgr FS KS hlt3 hc6 hok
        go_wp2_with fail
        refine (IH.out kid _ _ _ _ _ _ (by omega) HRU4.out HOL4.out (by have := HTK.out; omega)).mono ?_
        rintro _ w5 ⟨f5, v5, cs5, rfl, ho5, hn5, hb5⟩
        obtain ⟨A5, c5, rfl⟩ := own_form ho5
        have KF : ∀ e, 47 ≠ e → Keeps e (w3.setCell ⟨gl, m * 7 + 6, none⟩ (.slice A3 (k + 1) c3)) w5 := fun e he => keeps_own (v := .slice (some ⟨gl, 0, none⟩) (m + 1 + M) capl) f5 HOL4.out he
        have HN5 := Lib.hid (HN4.out.keepT (KF _ (by decide)) (KF _ (by decide)))
        have HT5 := Lib.hid (HT4.out.trans (KF _ (by decide)))
        have HQ5 := Lib.hid (HQ4.out.trans (KF _ (by decide)))
        have HO5 := Lib.hid ((KF _ (by decide)).row HO4.out)
        have HNN : Hid (Nds w5 (fun b => w.heap.size ≤ b ∧ (Value.slice A3 (k + 1) c3).ownBlock ≠ some b) (L.nds n (m + 1 + M) kid) cs5) := Nds.keep (fun _ _ _ => rfl) (fun b hb _ => by have hb' : (w3.setCell ⟨gl, m * 7 + 6, none⟩ (.slice A3 (k + 1) c3)).heap.size ≤ b := hb; exact ⟨by have := F1.out.1; omega, fun e => by have := HLT3.out b e; omega⟩) hn5
        have HF5 : Hid (Frm (fun b => (Value.slice Av m cv).ownBlock = some b) w w5) := by
          refine ⟨Nat.le_trans HF4.out.1 f5.1, fun b hb hE => (f5.2 b (Nat.lt_of_lt_of_le hb HF4.out.1) fun h => ?_).trans (HF4.out.2 b hb hE), f5.3.1.trans HF4.out.3.1, f5.3.2.trans HF4.out.3.2⟩
          rcases HA.out b h with h | h
          · exact hE h
          · omega
        have HA5 : Hid (∀ g, (Value.slice A5 (m + 1 + M + L.nodes kid) c5).ownBlock = some g → (Value.slice Av m cv).ownBlock = some g ∨ w.heap.size ≤ g) := fun g hg => by
          rcases hb5 g hg with h | h
          · exact HA.out g h
          · right; have := F1.out.1; omega
        have HL5 := Lib.hid ho5
        have hs5 := f5.1
        clear f5 ho5 hn5 hb5 KF
        go_wp2_with fail
        go_roundg ((L.kidsOf t).length + 1 - (k + 1))
        case measure => omega
        case rel =>
          refine ⟨k + 1, .slice A3 (k + 1) c3, rest ++ cs5, by omega, rfl, by go_num, ?_, ?_, ?_, HA5.out, HF5.out, HT5.out, HQ5.out, by omega⟩
          · rw [HTK.out]
            have := HL5.out
            rw [List.append_assoc, List.append_assoc] at this
            rw [← Nat.add_assoc]
            exact this
          · rw [HS.out, nats_snoc]; exact HO5.out
          · exact show Nds _ _ _ _ by rw [HS.out]; exact Nds.append HNN.out HN5.out
      · have ek : k = (L.kidsOf t).length := by omega
        subst ek
        rw [List.take_length] at *
        have HP2 := Lib.hid (HQ.out.row HP.out)
        have HOK := Lib.hid hok
        have HOL := Lib.hid hol
        have HLK : Hid ((L.ndsL n (m + 1) (L.kidsOf t)).1.length = (L.kidsOf t).length) := L.ndsL_kids
        clear hok hol
        go_wp2_with fail
        go_ret
        refine ⟨HF.out, _, headCells t (.slice Ap (L.paramsOf t).length cp) kv ++ rest, rfl, ?_, ?_, HA.out⟩
        · rw [← hkn, ← Nat.add_assoc]; exact HOL.out
        · rw [L.nds]
          exact ⟨_, kv, rest, rfl, own_base HP2.out (Nat.zero_le _), own_ge HP2.out, by rw [HLK.out]; exact own_base HOK.out (Nat.zero_le _), own_ge HOK.out, Nds.keep (fun _ _ _ => rfl) (fun b hb _ => hb.1) HN.out⟩
end Go.Proofs.YtpdbkdcdlafobaaGreatDoor
end
section
namespace Go.Proofs.YtpdbkdcdlafobaaGreatDoor
open Go.RowKit Go.Shelf
/-- A writer at block b that holds the bytes l. -/
def WrAt (w : World) (b : Nat) (l : L.Bytes) : Prop := Lib.IsBuilder 82 5 b b (Lib.byteCells l) w
/-- What writing may change: the writer and rows of bytes, nothing that lies ahead of the writer. -/
structure Kw (b : Nat) (w w' : World) : Prop where
  sz : w.heap.size ≤ w'.heap.size
  ty : ∀ e, e ≠ 5 → e ≠ 82 → Keeps e w w'
  fr : Frm (b ≤ ·) w w'
section
variable {b : Nat} {w w' w'' : World}
theorem Kw.refl (w : World) : Kw b w w := ⟨Nat.le_refl _, fun e _ _ => Keeps.refl e w, Frm.refl _ w⟩
theorem Kw.trans (h : Kw b w w') (h' : Kw b w' w'') : Kw b w w'' := ⟨Nat.le_trans h.1 h'.1, fun e h1 h2 => (h.2 e h1 h2).trans (h'.2 e h1 h2), h.3.trans h'.3⟩
theorem Kw.frm (h : Frm (fun _ => False) w w') : Kw b w w' := ⟨h.1, fun _ _ _ => h.keeps0, h.mono fun _ _ h => h.elim⟩
end
theorem WrAt.frm {w w' : World} {b : Nat} {l : L.Bytes} (h : WrAt w b l) (F : Frm (fun _ => False) w w') : WrAt w' b l := by
  have k : ∀ p, Lib.BuilderAt 82 5 b b p (Lib.byteCells l) w → Lib.BuilderAt 82 5 b b p (Lib.byteCells l) w' := fun p ⟨h1, v, h2, h3, h4⟩ => ⟨h1, v, F.heap id h2, F.row h3 (fun _ _ => id) (Nat.le_refl _), h4⟩
  exact h.imp (k _) (k _)
theorem size_builder : (Tryz.prog.info? 80).map (·.size) = some 2 := by kernel_rfl
theorem lies_builder : liesAt Tryz.prog Tryz.prog.depth 82 (2 / Tryz.prog.cellsOf 82) 0 80 1 = true := by kernel_rfl
set_option maxHeartbeats 1000000 in
set_option maxRecDepth 100000 in
theorem check_used (b : Nat) (w : World) (h0 : w.cell? ⟨b, 0, none⟩ = some (.pointer (some ⟨b, 0, none⟩))) :
    Calls Tryz.prog 115 #[.pointer (some ⟨b, 0, none⟩)] w fun e w' => e = .returned (.tuple #[]) ∧ w' = w := by
  obtain ⟨j, hj, _⟩ := Option.map_eq_some_iff.1 size_builder
  have hp := fun W => @Lib.run_neq_ptr_same Tryz.prog W _ _ j ⟨b, 0, none⟩ Tryz.underlying77 hj
  go_enter Tryz.func115, Tryz.ntmps115
  go_wp2_with fail
  go_end0
  exact ⟨rfl, rfl⟩
set_option maxHeartbeats 1000000 in
set_option maxRecDepth 100000 in
theorem check_fresh (b : Nat) (w : World) (h0 : w.cell? ⟨b, 0, none⟩ = some (.pointer none)) (hsh : w.shape? b = some (82, 2)) (hfz : w.frozen? ⟨b, 0, none⟩ = false) :
    Calls Tryz.prog 115 #[.pointer (some ⟨b, 0, none⟩)] w fun e w' => e = .returned (.tuple #[]) ∧ w' = w.setCell ⟨b, 0, none⟩ (.pointer (some ⟨b, 0, none⟩)) := by
  obtain ⟨j, hj, hjs⟩ := Option.map_eq_some_iff.1 size_builder
  go_enter Tryz.func115, Tryz.ntmps115
  go_wp2_with fail
  rw [Lib.run_to_unsafe w ⟨b, 0, none⟩ Tryz.underlying77 Tryz.underlying219 hj (by rw [hjs]; decide) hsh (Nat.zero_lt_succ 1)]
  simp only [Result.andThen]
  rw [Oper.upon_value]
  go_wp2_with fail
  rw [run_callFunc_extern Tryz.func137 (by kernel_rfl) (by kernel_rfl) (by kernel_rfl) (e := Extern.AbiNoEscape.same) (by kernel_rfl)]
  rw [Lib.run_noEscape]
  simp only [Result.andThen]
  rw [Oper.upon_value]
  go_wp2_with fail
  rw [Lib.run_from_unsafe w ⟨b, 0, none⟩ Tryz.underlying219 Tryz.underlying77 hj hsh lies_builder]
  simp only [Result.andThen]
  rw [Oper.upon_value]
  go_wp2_with fail
  go_end0
  exact ⟨rfl, rfl⟩
theorem builder_set {w : World} {b : Nat} {i : Nat} {cs : Array Value} (hb : Blk w b 82 cs) (u : Value) : Kw b w (w.setCell ⟨b, i, none⟩ u) := by
  have F : Frm (· = b) w (w.setCell ⟨b, i, none⟩ u) := (Frm.refl (· = b) w).set_ (p := ⟨b, i, none⟩) (fun _ => rfl) u
  exact ⟨F.1, fun e _ h2 => F.keeps1 hb (fun h => h2 h.symm), F.mono fun c _ h => by subst h; exact Nat.le_refl _⟩
theorem check_any' {w : World} {b : Nat} {bs : List Value} (h : Lib.IsBuilder 82 5 b b bs w) :
    Calls Tryz.prog 115 #[.pointer (some ⟨b, 0, none⟩)] w fun e w' => e = .returned (.tuple #[]) ∧ Lib.BuilderAt 82 5 b b (.pointer (some ⟨b, 0, none⟩)) bs w' ∧ Kw b w w' := by
  rcases h with h | h
  · refine (check_fresh b w h.cell0 h.shape h.frozen0).mono ?_
    rintro e w' ⟨rfl, rfl⟩
    obtain ⟨_, v, hb, _⟩ := id h
    exact ⟨rfl, h.used _, builder_set hb _⟩
  · refine (check_used b w h.cell0).mono ?_
    rintro e w' ⟨rfl, rfl⟩
    exact ⟨rfl, h, Kw.refl _⟩
theorem info_byte : (Tryz.prog.info? 5).map (fun i => (i.zero, i.size, i.bytes)) = some (some (.int .u8 0), 1, 1) := by kernel_rfl
theorem cells_app (l s : L.Bytes) : Lib.byteCells l ++ Lib.strCells (str s) = Lib.byteCells (l ++ s) := by
  simp [Lib.byteCells, Lib.strCells, str]
set_option maxHeartbeats 2000000 in
set_option maxRecDepth 100000 in
theorem writeString_any {w : World} {b : Nat} {l : L.Bytes} (h : WrAt w b l) (s : L.Bytes) (hlen : l.length + s.length ≤ 1000000000) :
    Calls Tryz.prog 78 #[.pointer (some ⟨b, 0, none⟩), .string (str s)] w fun e w' => (∃ k : Int, e = .returned (.tuple #[.int .i64 k, .nilIface])) ∧ WrAt w' b (l ++ s) ∧ Kw b w w' := by
  obtain ⟨i0, hi, hz0, hz1, hz2⟩ := info_parts info_byte
  have hsz : (str s).size = s.length := by simp [str, ByteArray.size]
  have HB : Hid (b ≤ w.heap.size) := by
    rcases h with h | h <;> exact Nat.le_of_lt h.lt
  have HW := Lib.hid h
  clear h
  go_enter Tryz.func78, Tryz.ntmps78
  go_wp2_with fail
  refine (check_any' HW.out).mono ?_
  rintro e w1 ⟨rfl, h1, k1⟩
  obtain ⟨hB, v, hbk, hown, hne⟩ := h1
  have hbl : Lib.byteCells l = Lib.byteCells l := rfl
  have c1 : w1.cell? ⟨b, 1, none⟩ = some v := by rw [Lib.cell_of_heap hbk]; rfl
  have K1 := Lib.hid k1
  have hk1 := k1.1
  clear k1 hbl
  rw [Lib.byteCells_length] at hown
  go_wp2_with (at_builtin; refine Lib.wpList_append_own_string _ rfl _ _ 78 9 rfl b 5 i0 Tryz.underlying78 Tryz.underlying9 hi hz0 hz1 hz2 _ _ _ rfl hown (str s) rfl ?c3 ?c4 ?c5 ?_)
  case c3 => unfold maxLen; omega
  case c4 => omega
  case c5 => have := HB.out; omega
  intro v' w2 hown' hgrow _
  have hlt : b < w1.heap.size := lt_of_heap hbk
  have hb2 : w2.heap[b]? = some (.cells #[.pointer (some ⟨b, 0, none⟩), v] 82 (0, 0)) := (hgrow.block b hlt (fun e => hne e.symm)).trans hbk
  have d1 : w2.cell? ⟨b, 1, none⟩ = some v := by rw [Lib.cell_of_heap hb2]; rfl
  have f1 : w2.frozen? ⟨b, 1, none⟩ = false := Lib.frozen_of_heap hb2 1
  obtain ⟨ao, n', cap, rfl⟩ : ∃ ao n' cap, v' = .slice ao n' cap := by
    rcases hown'.2 with ⟨hv, _⟩ | ⟨g, cap, cur, hv, _⟩
    · exact ⟨_, _, _, hv⟩
    · exact ⟨_, _, _, hv⟩
  have K2 : Hid (Kw b w w2) := K1.out.trans ⟨hgrow.size, fun e h1 _ => (Keeps.refl e w1).grown hown (fun h => h1 h.symm) hgrow, (Frm.refl _ w1).grown hgrow fun g hg _ => own_ge hown g hg⟩
  have hput := Lib.hid (Lib.BuilderAt.put (T := 82) (e := 5) hB hb2 (bs' := Lib.byteCells l ++ Lib.strCells (str s)) (by simpa [Lib.strCells_length, Lib.byteCells_length] using hown') (by decide))
  have hset := Lib.hid (builder_set (i := 1) (show Blk w2 b 82 _ from hb2) (.slice ao n' cap))
  clear c1 hown hown' hgrow hi hz0 hz1 hz2
  go_wp2_with fail
  go_ret2
  refine ⟨⟨_, rfl⟩, .inr ?_, K2.out.trans hset.out⟩
  rw [← cells_app]
  exact hput.out
theorem cells_byte : Tryz.prog.cellsOf 5 = 1 := by kernel_rfl
set_option maxHeartbeats 2000000 in
set_option maxRecDepth 100000 in
/-- The text of a writer that holds something. -/
theorem string_any {w : World} {b : Nat} {l : L.Bytes} (h : WrAt w b l) (h0 : l ≠ []) :
    Calls Tryz.prog 31 #[.pointer (some ⟨b, 0, none⟩)] w fun e w' => e = .returned (.string (str l)) ∧ Below b w w' := by
  obtain ⟨p, hB, v, hbk, hown, hne⟩ : ∃ p, Lib.BuilderAt 82 5 b b p (Lib.byteCells l) w := by
    rcases h with h | h
    · exact ⟨_, h⟩
    · exact ⟨_, h⟩
  have hl0 : l.length ≠ 0 := by simpa using h0
  rw [Lib.byteCells_length] at hown
  rcases hown.2 with ⟨_, hz⟩ | ⟨g, cap, cur, rfl, hbg, hg, hnc, hcm, hcs, htake⟩
  · exact absurd hz hl0
  have c1 : w.drew.cell? ⟨b, 1, none⟩ = some (.slice (some ⟨g, 0, none⟩) l.length cap) := by
    have : w.drew.heap[b]? = some (.cells #[p, .slice (some ⟨g, 0, none⟩) l.length cap] 82 (0, 0)) := hbk
    rw [Lib.cell_of_heap this]; rfl
  have hSD : (Builtin.unsafeSliceData_ #[78] 140 #[.slice (some ⟨g, 0, none⟩) l.length cap]).run Tryz.prog w.drew = .ok (.pointer (some ⟨g, 0, none⟩)) w.drew :=
    Lib.run_unsafeSliceData_row _ _ _ _ _ _ (by omega)
  have hUS : (Builtin.unsafeString_ #[140, 3] 9 #[.pointer (some ⟨g, 0, none⟩), .int .i64 l.length]).run Tryz.prog w.drew = .ok (.string (str l)) (w.drew.freeze ⟨g, 0, none⟩ l.length) := by
    refine Lib.run_unsafeString_row w.drew 140 3 9 5 Tryz.underlying140 cells_byte g cur.size (by have hg' : w.drew.heap[g]? = some (.cells cur 5 (0, 0)) := hg; simp [World.shape?, hg']) l h0 (by omega) (by unfold maxLen at hcm; omega) ?_
    intro j x hx
    have := hown.cells (g := g) rfl j (.int .u8 x.toNat) (by simp [Lib.byteCells, hx])
    exact this
  have HF := Lib.hid (Lib.below_freeze (Below.drew (Below.refl b w)) (p := ⟨g, 0, none⟩) hbg l.length)
  clear hown htake hcs hbk hg
  go_enter Tryz.func31, Tryz.ntmps31
  go_wp2_with fail
  go_region
  all_goals (go_wp2_with fail; go_ret; exact ⟨rfl, HF.out⟩)
end Go.Proofs.YtpdbkdcdlafobaaGreatDoor
end
