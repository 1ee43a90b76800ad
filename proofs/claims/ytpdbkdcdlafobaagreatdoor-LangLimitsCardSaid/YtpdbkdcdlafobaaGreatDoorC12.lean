/- The contract of wrong. Reading a term: what is to be shown; within and all. Contracts of the program's functions, with no condition beyond what each theorem states. -/
import Derived.Test.YtpdbkdcdlafobaaGreatDoorC11
import Derived.Maps.AppendAt
section
namespace Go.Proofs.YtpdbkdcdlafobaaGreatDoor
open Go.RowKit
set_option maxRecDepth 100000 in
set_option maxHeartbeats 2000000 in
theorem wrong_other {T : TypeId} {cs : Array Value} (h1 : T ≠ 116) (h2 : T ≠ 93) (h3 : T ≠ 150) (h4 : T ≠ 106) (R : Nat) (w : World) :
    Calls Tryz.prog 43 #[.pointer (some ⟨R, 0, none⟩), .iface T (.agg cs)] w fun e w' => e = .returned (.int .i64 0) ∧ Frm (fun _ => False) w w' := by
  have a1 := fun W => assert_assign_no W T (.agg cs) h1
  have a2 := fun W => assert_read_no W T (.agg cs) h2
  have a3 := fun W => assert_exit_no W T (.agg cs) h3
  have a4 := fun W => assert_call_no W T (.agg cs) h4
  have F0 := Lib.hid (Frm.refl (fun _ => False) w)
  clear h1 h2 h3 h4
  go_enter Tryz.func43, Tryz.ntmps43
  go_wp2_with fail
  go_ret
  exact ⟨rfl, by repeat (first | exact F0.out | apply Frm.alloc | apply Frm.drew)⟩
set_option maxRecDepth 100000 in
set_option maxHeartbeats 2000000 in
theorem wrong_any {w : World} {R : Nat} {lo : Nat → Prop} {bs : List L.Bnd} {vis : Value} (h : RdAt w R lo bs vis) (hm : bs.length ≤ 1000000) {A : Nat → Prop} {t : L.Tm} {v : Value} (ht : Rep w A t v) (hn : L.nodes t ≤ 1000000) :
    Calls Tryz.prog 43 #[.pointer (some ⟨R, 0, none⟩), v] w fun e w' => e = .returned (.int .i64 (L.wrong bs t)) ∧ Frm (fun _ => False) w w' := by
  cases t with
  | assign n x =>
    obtain ⟨a, rfl, ha⟩ := ht
    obtain ⟨T0, c0, rfl⟩ := ha.form
    have a1 := assert_assign_yes
    clear ha
    go_enter Tryz.func43, Tryz.ntmps43
    go_wp2_with fail
    refine (wrongSort_any (h.keep ((Frm.refl _ w).alloc _)) hm n 3).mono ?_
    rintro e w1 ⟨rfl, f1⟩
    go_wp2_with fail
    go_ret
    exact ⟨rfl, ((Frm.refl _ w).alloc _).trans f1⟩
  | read n =>
    obtain rfl := ht
    have a1 := fun W x => assert_assign_no W 93 x (by decide)
    have a2 := assert_read_yes
    go_enter Tryz.func43, Tryz.ntmps43
    go_wp2_with fail
    refine (wrongSort_any (h.keep ((Frm.refl _ w).alloc _)) hm n 3).mono ?_
    rintro e w1 ⟨rfl, f1⟩
    go_wp2_with fail
    go_ret
    exact ⟨rfl, ((Frm.refl _ w).alloc _).trans f1⟩
  | exit t n =>
    obtain rfl := ht
    have a1 := fun W x => assert_assign_no W 150 x (by decide)
    have a2 := fun W x => assert_read_no W 150 x (by decide)
    have a3 := assert_exit_yes
    go_enter Tryz.func43, Tryz.ntmps43
    go_wp2_with fail
    refine (wrongSort_any (h.keep ((Frm.refl _ w).alloc _)) hm n 4).mono ?_
    rintro e w1 ⟨rfl, f1⟩
    go_wp2_with fail
    go_ret
    exact ⟨rfl, ((Frm.refl _ w).alloc _).trans f1⟩
  | call of n ts =>
    obtain ⟨sl, vs, rfl, ho, ha, hr⟩ := ht
    obtain ⟨As, c, rfl⟩ := own_form ho
    have a1 := fun W x => assert_assign_no W 106 x (by decide)
    have a2 := fun W x => assert_read_no W 106 x (by decide)
    have a3 := fun W x => assert_exit_no W 106 x (by decide)
    have a4 := assert_call_yes
    have HO := Lib.hid ho
    have HR := Lib.hid hr
    have hlen : ts.length ≤ 1000000 := by have := hr.count; simp only [L.nodes] at hn; omega
    clear ho hr
    go_enter Tryz.func43, Tryz.ntmps43
    go_wp2_with fail
    have F0 := (Frm.refl (fun _ => False) w).alloc (.cells #[.int .i64 of, .string (str n), .slice As ts.length c] 106)
    refine (find_any (h.keep F0) hm n).mono ?_
    rintro e w1 ⟨f1, ⟨b, A2, c2, hl, hT, rfl⟩ | ⟨hl, rfl⟩⟩
    · have hbx := f1.blk (Blk.new w 106 #[.int .i64 of, .string (str n), .slice As ts.length c]) id
      have d0 : ∀ o, (w1.alloc o).cell? ⟨w.heap.size, 0, none⟩ = _ := fun o => (hbx.alloc o).cell 0
      have d1 : ∀ o, (w1.alloc o).cell? ⟨w.heap.size, 1, none⟩ = _ := fun o => (hbx.alloc o).cell 1
      have d2 : ∀ o, (w1.alloc o).cell? ⟨w.heap.size, 2, none⟩ = _ := fun o => (hbx.alloc o).cell 2
      have HW : Hid (L.wrong bs (.call of n ts) = if L.takes b of ts then 0 else 4) := show L.wrong bs (.call of n ts) = _ by simp [L.wrong, hl]
      have HF := Lib.hid ((F0.trans f1).alloc (.cells #[.int .i64 b.sort, .string (str b.name), .slice A2 b.args.length c2, .int .i64 b.result] 67))
      have HT := Lib.hid hT
      clear hbx hl hT
      go_wp2_with fail
      refine (takes_any of n ((f1.alloc _).row HT.out (fun _ _ h => h) (Nat.le_refl _)) (HF.out.row HO.out (fun _ _ h => h) (Nat.le_refl _)) (RepL.keep (A' := A) (HF.out.same fun _ _ _ => id) (fun _ hb _ => hb) HR.out) hlen).mono ?_
      rintro e w2 ⟨rfl, f2⟩
      have HF2 := Lib.hid (HF.out.trans f2)
      cases htk : L.takes b of ts
      · go_wp2_with fail
        go_ret
        exact ⟨by rw [HW.out, htk]; rfl, HF2.out⟩
      · go_wp2_with fail
        go_ret
        exact ⟨by rw [HW.out, htk]; rfl, HF2.out⟩
    · have HW : Hid (L.wrong bs (.call of n ts) = 3) := show L.wrong bs (.call of n ts) = _ by simp [L.wrong, hl]
      go_wp2_with fail
      go_ret
      exact ⟨by rw [HW.out]; rfl, (F0.trans f1).alloc _⟩
  | _ =>
    obtain ⟨cs, rfl⟩ := ht.ty
    exact wrong_other (by simp [tyOf]) (by simp [tyOf]) (by simp [tyOf]) (by simp [tyOf]) R w
end Go.Proofs.YtpdbkdcdlafobaaGreatDoor
end
section
namespace Go.Proofs.YtpdbkdcdlafobaaGreatDoor
open Go.RowKit
/-- A call of a function value with one argument: its function is entered. -/
theorem wpList_callv {P : Program} {ops : Array Oper} {Q : Exit → Act → World → Prop} {a : Act} {w : World} {rest : List Oper} {o : Oper} (hgd : o.guard = none) (f x : Operand) (tys : Array TypeId)
    (ho : o.op = .call { callee := .value f, args := #[x], argTypes := tys }) (F : FuncId) (caps : Array Value) (v : Value) (hf : a.eval f = .func (.func F) #[] caps) (hx : a.eval x = v) (hm : (callFunc F (#[v] ++ caps)).run P w = .ok (.enter F (#[v] ++ caps)) w)
    (h : ∀ K : Act → World → Prop, (∀ a w, wpList P ops Q rest a w → K a w) → Calls P F (#[v] ++ caps) w fun e w' => match e, w' with
      | .returned v, w'' => K (a.put o.dst v) w''
      | .panicked chain, w'' => Q (.panic chain) a w''
      | .outgrown, _ => LetsOut Q) : wpList P ops Q (o :: rest) a w := by
  refine wpList_plain hgd fun K hK => ?_
  have e0 : (#[] ++ #[v] : Array Value) = #[v] := by simp
  unfold Oper.wp execOp
  simp only [ho, resolve, Deferred.ofValue, invoke, Sem.run_bind, Sem.run_pure, Result.andThen_ok, List.map_toArray, List.map_cons, List.map_nil, hf, hx, e0, hm, Oper.upon_enter]
  exact h K hK
theorem Kp.grown {R E : Nat} {lo : Nat → Prop} {w w' w'' : World} {t : TypeId} {size n : Nat} {v : Value} {xs : List Value} (h : Kp R E lo w w') (ho : w'.ownsRow w.heap.size t size v n xs) (hg : w'.grownBy w'' v.ownBlock) : Kp R E lo w w'' := by
  refine ⟨Nat.le_trans h.1 hg.size, fun e he g cur hc => ?_, h.3.grown hg fun g hg hlt => by have := own_ge ho g hg; omega⟩
  have h1 := h.2 e he g cur hc
  have hlt := lt_of_heap hc
  exact (hg.block g (Nat.lt_of_lt_of_le hlt h.1) fun e' => by have := own_ge ho g e'.symm; omega).trans h1
theorem RS.grown {w w' : World} {R E base n : Nat} {lo : Nat → Prop} {vis v : Value} {xs : List Value} {bs : List L.Bnd} {e : Int} (h : RS w R lo E vis bs e) (ho : w.ownsRow base 34 1 v n xs) (hg : w.grownBy w' v.ownBlock) : RS w' R lo E vis bs e := by
  have K : ∀ t, 34 ≠ t → Keeps t w w' := fun t ht => (Keeps.refl t w).grown ho ht hg
  exact ⟨h.rd.keepT hg.size (K _ (by decide)) (K _ (by decide)) (K _ (by decide)), (K _ (by decide) _ _ h.err).trans h.err⟩
/-- What has been gathered in a row of the call's own stays as it is when the row grows. -/
theorem RepL.growB {B : Nat → Prop} {lo : Nat} {w w' : World} {v v' : Value} {c : Nat} {xs : List Value} {ts : List L.Tm} {vs : List Value} (h : RepL w (fun b => B b ∧ v.ownBlock ≠ some b) ts vs) (_ho : w.ownsRow lo 34 1 v c xs)
    (o : Obj) (hg : (w.alloc o).grownBy w' v.ownBlock) (hat : v'.ownBlock = v.ownBlock ∨ v'.ownBlock = some (w.heap.size + 1)) : RepL w' (fun b => B b ∧ v'.ownBlock ≠ some b) ts vs := by
  refine RepL.keep (fun b hb hl => ?_) (fun b hb hl => ⟨hb.1, fun e => ?_⟩) h
  · exact (hg.block b (by simp; omega) (fun e => hb.2 e.symm)).trans (Below.heap_alloc w o b hl)
  · rcases hat with h | h
    · exact hb.2 (h ▸ e)
    · rw [h] at e; injection e with e; omega
section
variable (n0 R E F : Nat) (lo : Nat → Prop) (caps : Array Value) (V : L.Vst) (Inv : World → Prop) (P : Nat)
/-- What comes of reading: the term and the error; the reader as it was; the memory that is not the reader's own. -/
def RdPost (bs : List L.Bnd) (w : World) (r : L.Tm × Int) (e : Ending) (w' : World) : Prop :=
  (∃ v', e = .returned v' ∧ Rep w' (fun b => b < n0 ∨ w.heap.size ≤ b) r.1 v') ∧ RS w' R lo E (.func (.func F) #[] caps) bs r.2 ∧ Kp R E lo w w'
def ReadOk (t : L.Tm) : Prop := ∀ (w : World) (lo : Nat → Prop) (bs : List L.Bnd) (e : Int) (v : Value), RS w R lo E (.func (.func F) #[] caps) bs e → Inv w → n0 ≤ w.heap.size →
  bs.length + 4 * L.levels t ≤ 1000000 → P * L.nodes t ≤ 1000000 → Rep w (· < n0) t v → Calls Tryz.prog 28 #[.pointer (some ⟨R, 0, none⟩), v] w (RdPost n0 R E F lo caps bs w (L.rd V bs t e))
end
section
variable {n0 R E F : Nat} {lo : Nat → Prop} {caps : Array Value} {V : L.Vst} {Inv : World → Prop} {P : Nat}
set_option maxHeartbeats 1000000 in
theorem within_ok {t : L.Tm} (hInv : ∀ (w w' : World), Kt w w' → Inv w → Inv w') (h : ReadOk n0 R E F caps V Inv P t) {w : World} {bs : List L.Bnd} {e : Int} {v sl : Value} {more : List L.Bnd} (hrs : RS w R lo E (.func (.func F) #[] caps) bs e) (hinv : Inv w) (hn0 : n0 ≤ w.heap.size)
    (hb : bs.length + more.length + 4 * L.levels t ≤ 1000000) (hP : P * L.nodes t ≤ 1000000) (hrep : Rep w (· < n0) t v) (hsl : Bnds w 0 sl more) :
    Calls Tryz.prog 53 #[.pointer (some ⟨R, 0, none⟩), v, sl] w (RdPost n0 R E F lo caps bs w (L.rd V (bs ++ more) t e)) := by
  have HS := Lib.hid hsl
  obtain ⟨cs, hos, -⟩ := hsl
  obtain ⟨A, c, rfl⟩ := own_form hos
  obtain ⟨T, x, rfl⟩ := Rep.form hrep
  have HR := Lib.hid hrep
  have HRS := Lib.hid hrs
  have hbs : bs.length + more.length ≤ 1000000 := by omega
  clear hos hrep hrs
  go_enter Tryz.func53, Tryz.ntmps53
  go_wp2_with fail
  refine (bind_any HRS.out.rd HS.out hbs).mono ?_
  rintro _ w1 ⟨rfl, rd1, k1⟩
  have HRS1 : Hid (RS w1 R lo E (.func (.func F) #[] caps) (bs ++ more) e) := ⟨rd1, HRS.out.err.kb k1⟩
  have K1 : Hid (Kp R E lo w w1) := k1.kp
  have HI1 := Lib.hid (hInv w w1 K1.out.t hinv)
  have HR1 := Lib.hid (HR.out.kp K1.out)
  have hn1 : n0 ≤ w1.heap.size := Nat.le_trans hn0 k1.1
  clear rd1 k1
  go_wp2_with fail
  refine (h w1 lo (bs ++ more) e _ HRS1.out HI1.out hn1 (by rw [List.length_append]; omega) hP HR1.out).mono ?_
  rintro _ w2 ⟨⟨u, rfl, hu⟩, rs2, k2⟩
  obtain ⟨T2, x2, rfl⟩ := Rep.form hu
  have HU := Lib.hid hu
  have HRS2 := Lib.hid rs2
  have K2 := Lib.hid (K1.out.trans k2)
  clear hu rs2 k2
  go_wp2_with fail
  refine (release_any HRS2.out.rd hbs).mono ?_
  rintro _ w3 ⟨rfl, rd3, k3⟩
  have HRS3 : Hid (RS w3 R lo E (.func (.func F) #[] caps) bs (L.rd V (bs ++ more) t e).2) := ⟨rd3, HRS2.out.err.kb k3⟩
  have K23 : Kp R E lo w2 w3 := k3.kp
  have K3 := Lib.hid (K2.out.trans K23)
  have HU3 := Lib.hid ((HU.out.kp K23).sub (A' := fun b => b < n0 ∨ w.heap.size ≤ b) fun b hb _ => hb.imp id fun h => Nat.le_trans K1.out.1 h)
  clear rd3 k3 K23
  go_wp2_with fail
  go_ret
  exact ⟨⟨_, rfl, HU3.out⟩, HRS3.out, K3.out⟩
def AllPost (n0 R E F : Nat) (lo : Nat → Prop) (caps : Array Value) (bs : List L.Bnd) (w : World) (n : Nat) (r : List L.Tm × Int) (e : Ending) (w' : World) : Prop :=
  (∃ sl' xs, e = .returned sl' ∧ w'.ownsRow w.heap.size 34 1 sl' n xs ∧ RepL w' (fun b => b < n0 ∨ w.heap.size ≤ b) r.1 xs) ∧ RS w' R lo E (.func (.func F) #[] caps) bs r.2 ∧ Kp R E lo w w'
set_option maxHeartbeats 1000000 in
theorem all_ok {ts : List L.Tm} (hInv : ∀ (w w' : World), Kt w w' → Inv w → Inv w') (h : ∀ t ∈ ts, ReadOk n0 R E F caps V Inv P t) {w : World} {bs : List L.Bnd} {e : Int} {sl : Value} {vs : List Value} (hrs : RS w R lo E (.func (.func F) #[] caps) bs e) (hinv : Inv w) (hn0 : n0 ≤ w.heap.size)
    (hb : ∀ t ∈ ts, bs.length + 4 * L.levels t ≤ 1000000) (hP : ∀ t ∈ ts, P * L.nodes t ≤ 1000000) (hlen : ts.length ≤ 1000000) (ho : w.ownsRow 0 34 1 sl ts.length vs) (hr : RepL w (· < n0) ts vs) :
    Calls Tryz.prog 52 #[.pointer (some ⟨R, 0, none⟩), sl] w (AllPost n0 R E F lo caps bs w ts.length (L.rdL V bs ts e)) := by
  obtain ⟨Ad, c, rfl, -⟩ := own_cells ho
  have HO := Lib.hid ho
  have HR := Lib.hid hr
  have HRS := Lib.hid hrs
  have HB := Lib.hid hb
  have HP := Lib.hid hP
  clear ho hr hrs hb hP
  go_enter Tryz.func52, Tryz.ntmps52
  go_wp2_with fail
  go_loopg [5, 11] (ts.length + 1) (fun n fv i wr => ∃ (k : Nat) (xs : List Value), k ≤ ts.length ∧ n = ts.length + 1 - k ∧ i = .int .i64 k ∧ wr.ownsRow w.heap.size 34 1 fv k xs ∧
    Hid (RepL wr (fun b => (b < n0 ∨ w.heap.size ≤ b) ∧ fv.ownBlock ≠ some b) (L.rdL V bs (ts.take k) e).1 xs) ∧ Hid (RS wr R lo E (.func (.func F) #[] caps) bs (L.rdL V bs (ts.take k) e).2) ∧ Hid (Kp R E lo w wr))
  case atStart => exact ⟨0, [], Nat.zero_le _, rfl, rfl, World.ownsRow_nil _ _ _ _, rfl, HRS.out, Kp.refl w⟩
  case round =>
    obtain ⟨k, xs, hk, rfl, rfl, hown, HX, HRSk, HK⟩ := hrel
    by_cases hlt : k < ts.length
    · obtain ⟨u, hu, hru⟩ := HR.out.at_ hlt
      obtain ⟨Ad', c', hsl, hcs⟩ := own_cells ((HK.out.2 _ (by unfold Own3; decide)).row HO.out)
      injection hsl with e1 _ e2
      subst e1 e2
      obtain ⟨g, rfl, hcu⟩ := hcs k u hu
      have hmem : ts[k] ∈ ts := List.getElem_mem hlt
      have HIH := Lib.hid (h _ hmem)
      have hb1 := HB.out _ hmem
      have hp1 := HP.out _ hmem
      have HT := Lib.hid (L.rdL_take V bs ts e k hlt)
      have HRU := Lib.hid (hru.kp HK.out)
      obtain ⟨T, x, rfl⟩ := Rep.form hru
      have HI := Lib.hid (hInv w wr HK.out.t hinv)
      have hn1 : n0 ≤ wr.heap.size := Nat.le_trans hn0 HK.out.1
      have hsz := HK.out.1
      have hlt1 : ∀ g, u5.ownBlock = some g → g < wr.heap.size := fun g hg => (hown.lt g hg).2
      have hge1 : ∀ g, u5.ownBlock = some g → w.heap.size ≤ g := fun g hg => (hown.lt g hg).1
      have HL1 := Lib.hid hlt1
      have HG1 := Lib.hid hge1
      have HOW := Lib.hid hown
      clear hru hu hcs hlt1 hge1 hown hmem
      generalize ts[k] = t at *
      go_wp2_with fail
      refine (HIH.out wr lo bs _ _ HRSk.out HI.out hn1 hb1 hp1 HRU.out).mono ?_
      rintro _ w2 ⟨⟨v2, rfl, hv2⟩, rs2, k2⟩
      have HX2 := Lib.hid (HX.out.kp k2)
      have hown2 : w2.ownsRow w.heap.size 34 1 u5 k xs := (k2.2 _ (by unfold Own3; decide)).row HOW.out
      have HV2 : Hid (Rep w2 (fun b => (b < n0 ∨ w.heap.size ≤ b) ∧ u5.ownBlock ≠ some b) (L.rd V bs t (L.rdL V bs (ts.take k) e).2).1 v2) := hv2.sub fun b hb _ => by
        refine ⟨hb.imp id fun h => Nat.le_trans hsz h, fun e => ?_⟩
        have := HL1.out b e
        have := HG1.out b e
        omega
      obtain ⟨T2, x2, rfl⟩ := Rep.form hv2
      have HK2 := Lib.hid (HK.out.trans k2)
      have HRS2 := Lib.hid rs2
      clear hv2 rs2 k2 hcu
      obtain ⟨i0, hi, hz0, hz1, hz2⟩ := info_parts info_term
      go_wp2_with (at_builtin; refine wpList_append_own_at _ rfl _ _ 100 rfl w.heap.size 34 i0 .nilIface 1 16 Tryz.underlying100 hi hz0 hz1 hz2 rfl (by decide) _ _ _ rfl (hown2.alloc _) ⟨w2.heap.size, 0, none⟩ 1 1 [.iface T2 (.agg x2)] rfl rfl ?c1 ?c2 ?c3 ?c4 ?c5 ?_)
      case c1 => exact cell_one_at (by simp)
      case c2 => simp [Value.oneCell']
      case c3 => unfold maxLen; omega
      case c4 => omega
      case c5 => have := HK2.out.1; simp; omega
      intro v' w3 hown3 hgrow _ hat
      have HR3 := Lib.hid (RepL.growB (RepL.snoc HV2.out HX2.out) hown2 _ hgrow hat)
      have HK3 : Hid (Kp R E lo w w3) := (HK2.out.trans (Kp.frm ((Frm.refl (fun _ => False) w2).alloc _))).grown (hown2.alloc _) hgrow
      have HRS3 := Lib.hid ((HRS2.out.frm ((Frm.refl (fun _ => False) w2).alloc _)).grown (hown2.alloc _) hgrow)
      clear hgrow hown2 hi hz0 hz1 hz2 hat
      go_wp2_with fail
      go_roundg (ts.length + 1 - (k + 1))
      case measure => omega
      case rel =>
        refine ⟨k + 1, _, by omega, rfl, by go_num, hown3, ?_, ?_, HK3.out⟩
        · exact show RepL _ _ _ _ by rw [HT.out]; exact HR3.out
        · exact show RS _ _ _ _ _ _ _ by rw [HT.out]; exact HRS3.out
    · have ek : k = ts.length := by omega
      subst ek
      rw [List.take_length] at HX HRSk
      have HX2 := Lib.hid (HX.out.sub (A' := fun b => b < n0 ∨ w.heap.size ≤ b) fun b hb _ => hb.1)
      have HOW := Lib.hid hown
      clear hown HX
      go_wp2_with fail
      go_ret
      exact ⟨⟨_, _, rfl, HOW.out, HX2.out⟩, HRSk.out, HK.out⟩
end
end Go.Proofs.YtpdbkdcdlafobaaGreatDoor
end
