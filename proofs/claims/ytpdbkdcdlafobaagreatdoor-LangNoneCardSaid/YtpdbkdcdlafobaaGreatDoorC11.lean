/- The contract of takes. What is done at each node when a term is checked, resolved or filled, as plain functions. Assertions of a term's type. Terms stay as they are where blocks of their types do; a reader with its error and its visit. Contracts of the program's functions, with no condition beyond what each theorem states. -/
import Derived.Test.YtpdbkdcdlafobaaGreatDoorC10
import Derived.Deep.RegionHeld3
import Derived.Test.YtpdbkdcdlafobaaGreatDoorC02
section
namespace Go.Proofs.YtpdbkdcdlafobaaGreatDoor
namespace L
/-- Whether types and terms agree in which are commands. -/
def okArgs : List Int → List Tm → Bool
  | x :: xs, t :: ts => (decide (x = 0) == decide (typeOf t = 0)) && okArgs xs ts
  | _, _ => true
/-- Whether a call of a binding is right. -/
def takes (b : Bnd) (of : Int) (ts : List Tm) : Bool :=
  !decide (b.sort = 3) && !decide (b.sort = 4) && decide (b.result = of) && decide (b.args.length = ts.length) && okArgs b.args ts
end L
open Go.RowKit
set_option maxRecDepth 100000 in
set_option maxHeartbeats 2000000 in
theorem takes_any {w : World} {b : L.Bnd} {A2 As : Option Addr} {c2 c : Nat} {A : Nat → Prop} {ts : List L.Tm} {vs : List Value} (of : Int) (nm : L.Bytes) (ht : Tys w 0 (.slice A2 b.args.length c2) b.args)
    (ho : w.ownsRow 0 34 1 (.slice As ts.length c) ts.length vs) (hr : RepL w A ts vs) (hn : ts.length ≤ 1000000) :
    Calls Tryz.prog 71 #[.agg #[.int .i64 b.sort, .string (str b.name), .slice A2 b.args.length c2, .int .i64 b.result], .agg #[.int .i64 of, .string (str nm), .slice As ts.length c]] w fun e w' => e = .returned (.bool (L.takes b of ts)) ∧ Frm (fun _ => False) w w' := by
  obtain ⟨A3, c3, e3, hta⟩ := ht.form
  injection e3 with e1 _ e2
  subst e1 e2
  obtain ⟨A4, c4, e4, htb⟩ := own_cells ho
  injection e4 with e1 _ e2
  subst e1 e2
  have HA := Lib.hid hta
  have HB := Lib.hid htb
  have HR := Lib.hid hr
  clear ht ho hr hta htb
  go_enter Tryz.func71, Tryz.ntmps71
  have F : ∀ o1 o2, Frm (fun _ => False) w ((w.alloc o1).alloc o2) := fun o1 o2 => ((Frm.refl (fun _ => False) w).alloc o1).alloc o2
  by_cases h1 : b.sort = 3
  · have hv : L.takes b of ts = false := by simp [L.takes, h1]
    have HV := Lib.hid hv
    clear hv
    go_wp2_with fail
    go_ret
    exact ⟨by rw [HV.out]; rfl, F _ _⟩
  by_cases h2 : b.sort = 4
  · have hv : L.takes b of ts = false := by simp [L.takes, h2]
    have HV := Lib.hid hv
    clear hv
    go_wp2_with fail
    go_ret
    exact ⟨by rw [HV.out]; rfl, F _ _⟩
  have h12 : (b.sort == 3 || b.sort == 4) = false := by simp [h1, h2]
  by_cases h3 : b.result = of
  · by_cases h4 : b.args.length = ts.length
    · have hv : L.takes b of ts = L.okArgs b.args ts := by simp [L.takes, h1, h2, h3, h4]
      have HV := Lib.hid hv
      have H12 := Lib.hid h12
      clear hv
      go_wp2_with fail
      go_loopg [34] (ts.length + 1) (fun n i wr => ∃ k : Nat, k ≤ ts.length ∧ n = ts.length + 1 - k ∧ i = .int .i64 k ∧ Hid (L.okArgs b.args ts = L.okArgs (b.args.drop k) (ts.drop k)) ∧ Blk wr w.heap.size 67 #[.int .i64 b.sort, .string (str b.name), .slice A2 ts.length c2, .int .i64 of] ∧ Frm (fun _ => False) w wr)
      case atStart => exact ⟨0, Nat.zero_le _, rfl, rfl, rfl, (Blk.new w _ _).alloc _, F _ _⟩
      case round =>
        obtain ⟨k, hk, rfl, rfl, hok, hbx, hf⟩ := hrel
        by_cases hlt : k < ts.length
        · obtain ⟨u, hu, hru⟩ := HR.out.at_ hlt
          obtain ⟨ga, rfl, hca⟩ := HB.out k u hu
          obtain ⟨gb, rfl, hcb⟩ := HA.out k (by omega)
          have hcu := hf.cell id hca
          have hcv := hf.cell id hcb
          have hcx : wr.cell? ⟨w.heap.size, 2, none⟩ = some (.slice (some ⟨gb, 0, none⟩) ts.length c2) := hbx.cell 2
          have hru2 := Rep.keep (A' := A) (hf.same fun _ _ _ => id) (fun _ hb _ => hb) hru
          have hstep : L.okArgs (b.args.drop k) (ts.drop k) = ((decide (b.args[k]'(by omega) = 0) == decide (L.typeOf ts[k] = 0)) && L.okArgs (b.args.drop (k + 1)) (ts.drop (k + 1))) := by
            rw [List.drop_eq_getElem_cons (i := k) (l := b.args) (by omega), List.drop_eq_getElem_cons (i := k) (l := ts) hlt]; rfl
          have HS := Lib.hid hstep
          have HRU := Lib.hid hru2
          clear hstep hru hca hcb
          obtain ⟨T3, x3, rfl⟩ := Rep.form hru2
          generalize b.args[k]'(by omega) = ak at *
          clear hru2
          have hkk : (k : Int) < (ts.length : Int) := by omega
          have hk0 : (0 : Int) ≤ (k : Int) := by omega
          go_wp2_with fail
          go_region_held3 (fun w' => w'.cell? ⟨w.heap.size, 2, none⟩ = some (.slice (some ⟨gb, 0, none⟩) ts.length c2) ∧ w'.cell? ⟨gb, k, none⟩ = some (.int .i64 ak) ∧ Frm (fun _ => False) wr w')
            (first | exact ⟨hcx, hcv, Frm.refl _ _⟩ | exact ⟨hcx, hcv, Frm0.drew _⟩ | (go_split_ands; exact ⟨Frm.cell (by assumption) id (by assumption), Frm.cell (by assumption) id (by assumption), Frm.trans (by assumption) (by assumption)⟩) | exact ⟨Frm.cell (by assumption) id hcx, Frm.cell (by assumption) id hcv, Frm.trans (Frm0.drew _) (by assumption)⟩)
            (first | (go_at_call 102; refine (typeOf_any (Rep.keep (A' := A) (Frm.same (w := wr) (E := fun _ => False) (by first | assumption | exact Frm0.drew _ | exact Frm.refl _ _) fun _ _ _ => id) (fun _ hb _ => hb) HRU.out)).mono ?_; rintro e w3 ⟨rfl, f3⟩))
          obtain ⟨-, -, hw3⟩ := ‹_ ∧ _ ∧ Frm (fun _ => False) wr w3›
          have HFr := Lib.hid (hf.trans hw3)
          have HB3 := Lib.hid (hw3.blk hbx id)
          generalize L.typeOf ts[k] = ty at *
          clear hcx hcv hbx hcu HRU
          go_wp2_with fail
          · rename_i hcond
            have hgo : (decide (ak = 0) == decide (ty = 0)) = false := by
              revert hcond
              rw [show (ak == 0) = decide (ak = 0) from rfl, show (ty == 0) = decide (ty = 0) from rfl]
              cases decide (ak = 0) <;> cases decide (ty = 0) <;> simp
            have hv2 : L.okArgs b.args ts = false := by rw [hok.out, HS.out, hgo]; rfl
            go_ret
            exact ⟨by rw [HV.out, hv2]; rfl, HFr.out⟩
          · rename_i hcond
            have hgo : (decide (ak = 0) == decide (ty = 0)) = true := by
              revert hcond
              rw [show (ak == 0) = decide (ak = 0) from rfl, show (ty == 0) = decide (ty = 0) from rfl]
              cases decide (ak = 0) <;> cases decide (ty = 0) <;> simp
            have hv2 : L.okArgs (b.args.drop k) (ts.drop k) = L.okArgs (b.args.drop (k + 1)) (ts.drop (k + 1)) := by rw [HS.out, hgo]; rfl
            have HG := Lib.hid hv2
            clear hv2
            go_roundg (ts.length + 1 - (k + 1))
            case measure => omega
            case rel => exact ⟨k + 1, by omega, rfl, by go_num, hok.out.trans HG.out, HB3.out, HFr.out⟩
        · have e : k = ts.length := by omega
          have hgo : L.okArgs b.args ts = true := by rw [hok.out, e, List.drop_length]; cases b.args.drop ts.length <;> rfl
          have HG := Lib.hid hgo
          clear hgo
          go_wp2_with fail
          go_ret
          exact ⟨by rw [HV.out, HG.out]; rfl, hf⟩
    · have hv : L.takes b of ts = false := by simp [L.takes, h4]
      have HV := Lib.hid hv
      clear hv
      go_wp2_with fail
      go_ret
      exact ⟨by rw [HV.out]; rfl, F _ _⟩
  · have hv : L.takes b of ts = false := by simp [L.takes, h3]
    have HV := Lib.hid hv
    clear hv
    go_wp2_with fail
    go_ret
    exact ⟨by rw [HV.out]; rfl, F _ _⟩
end Go.Proofs.YtpdbkdcdlafobaaGreatDoor
end
section
namespace Go.Proofs.YtpdbkdcdlafobaaGreatDoor.L
/-- What is wrong with the name that a node uses. -/
def wrong (bs : List Bnd) : Tm → Int
  | .assign n _ => wrongSort bs n 3
  | .read n => wrongSort bs n 3
  | .exit _ n => wrongSort bs n 4
  | .call of n ts => match look bs n with
    | none => 3
    | some b => if takes b of ts then 0 else 4
  | _ => 0
def isRead : Tm → Bool
  | .read _ => true
  | _ => false
def visCheck : Vst := fun bs t e => (if e = 0 then wrong bs t else e, none)
def visResolve : Vst := fun bs t e => (if e = 0 then wrong bs (meant bs t) else e, if isRead (meant bs t) then some (meant bs t) else none)
theorem visCheck_good : Good 1 visCheck := fun bs t e u h => by simp [visCheck] at h
theorem visResolve_good : Good 1 visResolve := fun bs t e u h => by
  simp only [visResolve] at h
  split at h
  · rename_i hr
    simp only [Option.some.injEq] at h
    subst h
    generalize meant bs t = m at *
    cases m <;> first | exact ⟨.read _, flat_of rfl, by simp [nodes]⟩ | simp [isRead] at hr
  · cases h
/-- What is bound around a term by declarations. -/
def check (ds : List Decl) (t : Tm) : Int := (rd visCheck (ds.map ofDecl) t 0).2
def resolve (ds : List Decl) (t : Tm) : Tm × Int := rd visResolve (ds.map ofDecl) t 0
end Go.Proofs.YtpdbkdcdlafobaaGreatDoor.L
end
section
namespace Go.Proofs.YtpdbkdcdlafobaaGreatDoor
open Go.RowKit
theorem zero_skip (W : World) : (do pure (Value.tuple #[← zeroValue 166, .bool false]) : Sem Value).run Tryz.prog W = .ok (.tuple #[.agg #[], .bool false]) W := by kernel_rfl
theorem assert_skip_yes (W : World) (v : Value) : (Instr.typeAssert (.iface 166 v) 34 166 true).run Tryz.prog W = .ok (.tuple #[v, .bool true]) W := by kernel_rfl
theorem assert_skip_no (W : World) (u : TypeId) (v : Value) (h : u ≠ 166) : (Instr.typeAssert (.iface u v) 34 166 true).run Tryz.prog W = .ok (.tuple #[.agg #[], .bool false]) W := by
  have e : (Instr.typeAssert (.iface u v) 34 166 true).run Tryz.prog W = (if u = 166 then (pure (Value.tuple #[v, .bool true]) : Sem Value) else (do pure (Value.tuple #[← zeroValue 166, .bool false]))).run Tryz.prog W := by kernel_rfl
  rw [e, if_neg h]
  exact zero_skip W
theorem zero_stop (W : World) : (do pure (Value.tuple #[← zeroValue 168, .bool false]) : Sem Value).run Tryz.prog W = .ok (.tuple #[.agg #[.int .i64 0], .bool false]) W := by kernel_rfl
theorem assert_stop_yes (W : World) (v : Value) : (Instr.typeAssert (.iface 168 v) 34 168 true).run Tryz.prog W = .ok (.tuple #[v, .bool true]) W := by kernel_rfl
theorem assert_stop_no (W : World) (u : TypeId) (v : Value) (h : u ≠ 168) : (Instr.typeAssert (.iface u v) 34 168 true).run Tryz.prog W = .ok (.tuple #[.agg #[.int .i64 0], .bool false]) W := by
  have e : (Instr.typeAssert (.iface u v) 34 168 true).run Tryz.prog W = (if u = 168 then (pure (Value.tuple #[v, .bool true]) : Sem Value) else (do pure (Value.tuple #[← zeroValue 168, .bool false]))).run Tryz.prog W := by kernel_rfl
  rw [e, if_neg h]
  exact zero_stop W
theorem zero_fault (W : World) : (do pure (Value.tuple #[← zeroValue 169, .bool false]) : Sem Value).run Tryz.prog W = .ok (.tuple #[.agg #[.int .i64 0], .bool false]) W := by kernel_rfl
theorem assert_fault_yes (W : World) (v : Value) : (Instr.typeAssert (.iface 169 v) 34 169 true).run Tryz.prog W = .ok (.tuple #[v, .bool true]) W := by kernel_rfl
theorem assert_fault_no (W : World) (u : TypeId) (v : Value) (h : u ≠ 169) : (Instr.typeAssert (.iface u v) 34 169 true).run Tryz.prog W = .ok (.tuple #[.agg #[.int .i64 0], .bool false]) W := by
  have e : (Instr.typeAssert (.iface u v) 34 169 true).run Tryz.prog W = (if u = 169 then (pure (Value.tuple #[v, .bool true]) : Sem Value) else (do pure (Value.tuple #[← zeroValue 169, .bool false]))).run Tryz.prog W := by kernel_rfl
  rw [e, if_neg h]
  exact zero_fault W
theorem zero_assign (W : World) : (do pure (Value.tuple #[← zeroValue 116, .bool false]) : Sem Value).run Tryz.prog W = .ok (.tuple #[.agg #[.string ⟨#[]⟩, .nilIface], .bool false]) W := by kernel_rfl
theorem assert_assign_yes (W : World) (v : Value) : (Instr.typeAssert (.iface 116 v) 34 116 true).run Tryz.prog W = .ok (.tuple #[v, .bool true]) W := by kernel_rfl
theorem assert_assign_no (W : World) (u : TypeId) (v : Value) (h : u ≠ 116) : (Instr.typeAssert (.iface u v) 34 116 true).run Tryz.prog W = .ok (.tuple #[.agg #[.string ⟨#[]⟩, .nilIface], .bool false]) W := by
  have e : (Instr.typeAssert (.iface u v) 34 116 true).run Tryz.prog W = (if u = 116 then (pure (Value.tuple #[v, .bool true]) : Sem Value) else (do pure (Value.tuple #[← zeroValue 116, .bool false]))).run Tryz.prog W := by kernel_rfl
  rw [e, if_neg h]
  exact zero_assign W
theorem zero_choice (W : World) : (do pure (Value.tuple #[← zeroValue 118, .bool false]) : Sem Value).run Tryz.prog W = .ok (.tuple #[.agg #[.int .i64 0, .nilIface, .nilIface, .nilIface], .bool false]) W := by kernel_rfl
theorem assert_choice_yes (W : World) (v : Value) : (Instr.typeAssert (.iface 118 v) 34 118 true).run Tryz.prog W = .ok (.tuple #[v, .bool true]) W := by kernel_rfl
theorem assert_choice_no (W : World) (u : TypeId) (v : Value) (h : u ≠ 118) : (Instr.typeAssert (.iface u v) 34 118 true).run Tryz.prog W = .ok (.tuple #[.agg #[.int .i64 0, .nilIface, .nilIface, .nilIface], .bool false]) W := by
  have e : (Instr.typeAssert (.iface u v) 34 118 true).run Tryz.prog W = (if u = 118 then (pure (Value.tuple #[v, .bool true]) : Sem Value) else (do pure (Value.tuple #[← zeroValue 118, .bool false]))).run Tryz.prog W := by kernel_rfl
  rw [e, if_neg h]
  exact zero_choice W
theorem zero_loop (W : World) : (do pure (Value.tuple #[← zeroValue 120, .bool false]) : Sem Value).run Tryz.prog W = .ok (.tuple #[.agg #[.nilIface, .nilIface], .bool false]) W := by kernel_rfl
theorem assert_loop_yes (W : World) (v : Value) : (Instr.typeAssert (.iface 120 v) 34 120 true).run Tryz.prog W = .ok (.tuple #[v, .bool true]) W := by kernel_rfl
theorem assert_loop_no (W : World) (u : TypeId) (v : Value) (h : u ≠ 120) : (Instr.typeAssert (.iface u v) 34 120 true).run Tryz.prog W = .ok (.tuple #[.agg #[.nilIface, .nilIface], .bool false]) W := by
  have e : (Instr.typeAssert (.iface u v) 34 120 true).run Tryz.prog W = (if u = 120 then (pure (Value.tuple #[v, .bool true]) : Sem Value) else (do pure (Value.tuple #[← zeroValue 120, .bool false]))).run Tryz.prog W := by kernel_rfl
  rw [e, if_neg h]
  exact zero_loop W
theorem zero_fresh (W : World) : (do pure (Value.tuple #[← zeroValue 126, .bool false]) : Sem Value).run Tryz.prog W = .ok (.tuple #[.agg #[.int .i64 0, .string ⟨#[]⟩, .nilIface, .nilIface], .bool false]) W := by kernel_rfl
theorem assert_fresh_yes (W : World) (v : Value) : (Instr.typeAssert (.iface 126 v) 34 126 true).run Tryz.prog W = .ok (.tuple #[v, .bool true]) W := by kernel_rfl
theorem assert_fresh_no (W : World) (u : TypeId) (v : Value) (h : u ≠ 126) : (Instr.typeAssert (.iface u v) 34 126 true).run Tryz.prog W = .ok (.tuple #[.agg #[.int .i64 0, .string ⟨#[]⟩, .nilIface, .nilIface], .bool false]) W := by
  have e : (Instr.typeAssert (.iface u v) 34 126 true).run Tryz.prog W = (if u = 126 then (pure (Value.tuple #[v, .bool true]) : Sem Value) else (do pure (Value.tuple #[← zeroValue 126, .bool false]))).run Tryz.prog W := by kernel_rfl
  rw [e, if_neg h]
  exact zero_fresh W
theorem zero_proc (W : World) : (do pure (Value.tuple #[← zeroValue 129, .bool false]) : Sem Value).run Tryz.prog W = .ok (.tuple #[.agg #[.int .i64 0, .string ⟨#[]⟩, .slice none 0 0, .int .i64 0, .nilIface, .nilIface], .bool false]) W := by kernel_rfl
theorem assert_proc_yes (W : World) (v : Value) : (Instr.typeAssert (.iface 129 v) 34 129 true).run Tryz.prog W = .ok (.tuple #[v, .bool true]) W := by kernel_rfl
theorem assert_proc_no (W : World) (u : TypeId) (v : Value) (h : u ≠ 129) : (Instr.typeAssert (.iface u v) 34 129 true).run Tryz.prog W = .ok (.tuple #[.agg #[.int .i64 0, .string ⟨#[]⟩, .slice none 0 0, .int .i64 0, .nilIface, .nilIface], .bool false]) W := by
  have e : (Instr.typeAssert (.iface u v) 34 129 true).run Tryz.prog W = (if u = 129 then (pure (Value.tuple #[v, .bool true]) : Sem Value) else (do pure (Value.tuple #[← zeroValue 129, .bool false]))).run Tryz.prog W := by kernel_rfl
  rw [e, if_neg h]
  exact zero_proc W
theorem zero_num (W : World) : (do pure (Value.tuple #[← zeroValue 175, .bool false]) : Sem Value).run Tryz.prog W = .ok (.tuple #[.agg #[.int .i64 0], .bool false]) W := by kernel_rfl
theorem assert_num_yes (W : World) (v : Value) : (Instr.typeAssert (.iface 175 v) 34 175 true).run Tryz.prog W = .ok (.tuple #[v, .bool true]) W := by kernel_rfl
theorem assert_num_no (W : World) (u : TypeId) (v : Value) (h : u ≠ 175) : (Instr.typeAssert (.iface u v) 34 175 true).run Tryz.prog W = .ok (.tuple #[.agg #[.int .i64 0], .bool false]) W := by
  have e : (Instr.typeAssert (.iface u v) 34 175 true).run Tryz.prog W = (if u = 175 then (pure (Value.tuple #[v, .bool true]) : Sem Value) else (do pure (Value.tuple #[← zeroValue 175, .bool false]))).run Tryz.prog W := by kernel_rfl
  rw [e, if_neg h]
  exact zero_num W
theorem zero_read (W : World) : (do pure (Value.tuple #[← zeroValue 93, .bool false]) : Sem Value).run Tryz.prog W = .ok (.tuple #[.agg #[.string ⟨#[]⟩], .bool false]) W := by kernel_rfl
theorem assert_read_yes (W : World) (v : Value) : (Instr.typeAssert (.iface 93 v) 34 93 true).run Tryz.prog W = .ok (.tuple #[v, .bool true]) W := by kernel_rfl
theorem assert_read_no (W : World) (u : TypeId) (v : Value) (h : u ≠ 93) : (Instr.typeAssert (.iface u v) 34 93 true).run Tryz.prog W = .ok (.tuple #[.agg #[.string ⟨#[]⟩], .bool false]) W := by
  have e : (Instr.typeAssert (.iface u v) 34 93 true).run Tryz.prog W = (if u = 93 then (pure (Value.tuple #[v, .bool true]) : Sem Value) else (do pure (Value.tuple #[← zeroValue 93, .bool false]))).run Tryz.prog W := by kernel_rfl
  rw [e, if_neg h]
  exact zero_read W
theorem zero_binary (W : World) : (do pure (Value.tuple #[← zeroValue 122, .bool false]) : Sem Value).run Tryz.prog W = .ok (.tuple #[.agg #[.int .i64 0, .nilIface, .nilIface], .bool false]) W := by kernel_rfl
theorem assert_binary_yes (W : World) (v : Value) : (Instr.typeAssert (.iface 122 v) 34 122 true).run Tryz.prog W = .ok (.tuple #[v, .bool true]) W := by kernel_rfl
theorem assert_binary_no (W : World) (u : TypeId) (v : Value) (h : u ≠ 122) : (Instr.typeAssert (.iface u v) 34 122 true).run Tryz.prog W = .ok (.tuple #[.agg #[.int .i64 0, .nilIface, .nilIface], .bool false]) W := by
  have e : (Instr.typeAssert (.iface u v) 34 122 true).run Tryz.prog W = (if u = 122 then (pure (Value.tuple #[v, .bool true]) : Sem Value) else (do pure (Value.tuple #[← zeroValue 122, .bool false]))).run Tryz.prog W := by kernel_rfl
  rw [e, if_neg h]
  exact zero_binary W
theorem zero_doing (W : World) : (do pure (Value.tuple #[← zeroValue 124, .bool false]) : Sem Value).run Tryz.prog W = .ok (.tuple #[.agg #[.nilIface, .nilIface], .bool false]) W := by kernel_rfl
theorem assert_doing_yes (W : World) (v : Value) : (Instr.typeAssert (.iface 124 v) 34 124 true).run Tryz.prog W = .ok (.tuple #[v, .bool true]) W := by kernel_rfl
theorem assert_doing_no (W : World) (u : TypeId) (v : Value) (h : u ≠ 124) : (Instr.typeAssert (.iface u v) 34 124 true).run Tryz.prog W = .ok (.tuple #[.agg #[.nilIface, .nilIface], .bool false]) W := by
  have e : (Instr.typeAssert (.iface u v) 34 124 true).run Tryz.prog W = (if u = 124 then (pure (Value.tuple #[v, .bool true]) : Sem Value) else (do pure (Value.tuple #[← zeroValue 124, .bool false]))).run Tryz.prog W := by kernel_rfl
  rw [e, if_neg h]
  exact zero_doing W
theorem zero_labelled (W : World) : (do pure (Value.tuple #[← zeroValue 133, .bool false]) : Sem Value).run Tryz.prog W = .ok (.tuple #[.agg #[.string ⟨#[]⟩, .nilIface], .bool false]) W := by kernel_rfl
theorem assert_labelled_yes (W : World) (v : Value) : (Instr.typeAssert (.iface 133 v) 34 133 true).run Tryz.prog W = .ok (.tuple #[v, .bool true]) W := by kernel_rfl
theorem assert_labelled_no (W : World) (u : TypeId) (v : Value) (h : u ≠ 133) : (Instr.typeAssert (.iface u v) 34 133 true).run Tryz.prog W = .ok (.tuple #[.agg #[.string ⟨#[]⟩, .nilIface], .bool false]) W := by
  have e : (Instr.typeAssert (.iface u v) 34 133 true).run Tryz.prog W = (if u = 133 then (pure (Value.tuple #[v, .bool true]) : Sem Value) else (do pure (Value.tuple #[← zeroValue 133, .bool false]))).run Tryz.prog W := by kernel_rfl
  rw [e, if_neg h]
  exact zero_labelled W
theorem zero_exit (W : World) : (do pure (Value.tuple #[← zeroValue 150, .bool false]) : Sem Value).run Tryz.prog W = .ok (.tuple #[.agg #[.int .i64 0, .string ⟨#[]⟩], .bool false]) W := by kernel_rfl
theorem assert_exit_yes (W : World) (v : Value) : (Instr.typeAssert (.iface 150 v) 34 150 true).run Tryz.prog W = .ok (.tuple #[v, .bool true]) W := by kernel_rfl
theorem assert_exit_no (W : World) (u : TypeId) (v : Value) (h : u ≠ 150) : (Instr.typeAssert (.iface u v) 34 150 true).run Tryz.prog W = .ok (.tuple #[.agg #[.int .i64 0, .string ⟨#[]⟩], .bool false]) W := by
  have e : (Instr.typeAssert (.iface u v) 34 150 true).run Tryz.prog W = (if u = 150 then (pure (Value.tuple #[v, .bool true]) : Sem Value) else (do pure (Value.tuple #[← zeroValue 150, .bool false]))).run Tryz.prog W := by kernel_rfl
  rw [e, if_neg h]
  exact zero_exit W
/-- The type of a term's value. -/
def tyOf : L.Tm → TypeId
  | .skip => 166
  | .stop _ => 168
  | .fault _ => 169
  | .row _ => 111
  | .assign _ _ => 116
  | .choice _ _ _ _ => 118
  | .loop _ _ => 120
  | .fresh _ _ _ _ => 126
  | .call _ _ _ => 106
  | .proc _ _ _ _ _ _ => 129
  | .num _ => 175
  | .read _ => 93
  | .binary _ _ _ => 122
  | .doing _ _ => 124
  | .labelled _ _ => 133
  | .exit _ _ => 150
theorem Rep.ty {w : World} {A : Nat → Prop} : ∀ {t : L.Tm} {v : Value}, Rep w A t v → ∃ cs, v = .iface (tyOf t) (.agg cs)
  | .skip, _, h => ⟨_, h⟩
  | .stop _, _, h => ⟨_, h⟩
  | .fault _, _, h => ⟨_, h⟩
  | .row _, _, ⟨_, _, e, _⟩ => ⟨_, e⟩
  | .assign _ _, _, ⟨_, e, _⟩ => ⟨_, e⟩
  | .choice _ _ _ _, _, ⟨_, _, _, e, _⟩ => ⟨_, e⟩
  | .loop _ _, _, ⟨_, _, e, _⟩ => ⟨_, e⟩
  | .fresh _ _ _ _, _, ⟨_, _, e, _⟩ => ⟨_, e⟩
  | .call _ _ _, _, ⟨_, _, e, _⟩ => ⟨_, e⟩
  | .proc _ _ _ _ _ _, _, ⟨_, _, _, e, _⟩ => ⟨_, e⟩
  | .num _, _, h => ⟨_, h⟩
  | .read _, _, h => ⟨_, h⟩
  | .binary _ _ _, _, ⟨_, _, e, _⟩ => ⟨_, e⟩
  | .doing _ _, _, ⟨_, _, e, _⟩ => ⟨_, e⟩
  | .labelled _ _, _, ⟨_, e, _⟩ => ⟨_, e⟩
  | .exit _ _, _, h => ⟨_, h⟩
end Go.Proofs.YtpdbkdcdlafobaaGreatDoor
end
section
namespace Go.Proofs.YtpdbkdcdlafobaaGreatDoor
open Go.RowKit
/-- What a reader's work may change: blocks of these three types. -/
def Own3 (e : TypeId) : Prop := e = 67 ∨ e = 72 ∨ e = 23
/-- What stays, by types. -/
structure Kt (w w' : World) : Prop where
  sz : w.heap.size ≤ w'.heap.size
  ty : ∀ e, ¬ Own3 e → Keeps e w w'
/-- What stays, by types and by places: all but the reader, its list and its error. -/
structure Kp (R E : Nat) (lo : Nat → Prop) (w w' : World) : Prop where
  sz : w.heap.size ≤ w'.heap.size
  ty : ∀ e, ¬ Own3 e → Keeps e w w'
  fr : Frm (fun b => b = R ∨ b = E ∨ lo b) w w'
section
variable {R E : Nat} {lo : Nat → Prop} {w w' w'' : World}
theorem Kp.t (h : Kp R E lo w w') : Kt w w' := ⟨h.1, h.2⟩
theorem Kp.refl (w : World) : Kp R E lo w w := ⟨Nat.le_refl _, fun e _ => Keeps.refl e w, Frm.refl _ w⟩
theorem Kp.trans (h : Kp R E lo w w') (h' : Kp R E lo w' w'') : Kp R E lo w w'' := ⟨Nat.le_trans h.1 h'.1, fun e he => (h.2 e he).trans (h'.2 e he), h.3.trans h'.3⟩
theorem Kp.frm (h : Frm (fun _ => False) w w') : Kp R E lo w w' := ⟨h.1, fun _ _ => h.keeps0, h.mono fun _ _ h => h.elim⟩
theorem Kt.frm (h : Frm (fun _ => False) w w') : Kt w w' := ⟨h.1, fun _ _ => h.keeps0⟩
theorem Kt.trans (h : Kt w w') (h' : Kt w' w'') : Kt w w'' := ⟨Nat.le_trans h.1 h'.1, fun e he => (h.2 e he).trans (h'.2 e he)⟩
theorem Kb.kp (h : Kb R lo w w') : Kp R E lo w w' := ⟨h.1, fun e he => h.2 e fun h => he (h.elim .inl fun h => .inr (.inl h)), h.3.mono fun _ _ h => h.imp id .inr⟩
theorem Kp.wide {lo' : Nat → Prop} (h : Kp R E lo' w w') (hl : ∀ b, b < w.heap.size → lo' b → lo b) : Kp R E lo w w' := ⟨h.1, h.2, h.3.mono fun b hb h => h.imp id fun h => h.imp id (hl b hb)⟩
end
mutual
theorem Rep.keepT {w w' : World} {A : Nat → Prop} (h : Keeps 34 w w') (h' : Keeps 49 w w') : ∀ {t : L.Tm} {v : Value}, Rep w A t v → Rep w' A t v
  | .skip, _, e => e
  | .stop _, _, e => e
  | .fault _, _, e => e
  | .row _, _, ⟨sl, vs, e, h2, ho, ha, hr⟩ => ⟨sl, vs, e, h2, h.row ho, ha, RepL.keepT h h' hr⟩
  | .assign _ _, _, ⟨a, e, ha⟩ => ⟨a, e, Rep.keepT h h' ha⟩
  | .choice _ _ _ _, _, ⟨a, b, c, e, ha, hb, hc⟩ => ⟨a, b, c, e, Rep.keepT h h' ha, Rep.keepT h h' hb, Rep.keepT h h' hc⟩
  | .loop _ _, _, ⟨a, b, e, ha, hb⟩ => ⟨a, b, e, Rep.keepT h h' ha, Rep.keepT h h' hb⟩
  | .fresh _ _ _ _, _, ⟨a, b, e, ha, hb⟩ => ⟨a, b, e, Rep.keepT h h' ha, Rep.keepT h h' hb⟩
  | .call _ _ _, _, ⟨sl, vs, e, ho, ha, hr⟩ => ⟨sl, vs, e, h.row ho, ha, RepL.keepT h h' hr⟩
  | .proc _ _ _ _ _ _, _, ⟨sl, a, b, e, h3, ho, hs, ha, hb⟩ => ⟨sl, a, b, e, h3, h'.row ho, hs, Rep.keepT h h' ha, Rep.keepT h h' hb⟩
  | .num _, _, e => e
  | .read _, _, e => e
  | .binary _ _ _, _, ⟨a, b, e, ha, hb⟩ => ⟨a, b, e, Rep.keepT h h' ha, Rep.keepT h h' hb⟩
  | .doing _ _, _, ⟨a, b, e, ha, hb⟩ => ⟨a, b, e, Rep.keepT h h' ha, Rep.keepT h h' hb⟩
  | .labelled _ _, _, ⟨a, e, ha⟩ => ⟨a, e, Rep.keepT h h' ha⟩
  | .exit _ _, _, e => e
theorem RepL.keepT {w w' : World} {A : Nat → Prop} (h : Keeps 34 w w') (h' : Keeps 49 w w') : ∀ {ts : List L.Tm} {vs : List Value}, RepL w A ts vs → RepL w' A ts vs
  | [], _, e => e
  | _ :: _, _, ⟨v, vs', e, hv, hr⟩ => ⟨v, vs', e, Rep.keepT h h' hv, RepL.keepT h h' hr⟩
end
mutual
theorem Rep.ok {w : World} {A : Nat → Prop} : ∀ {t : L.Tm} {v : Value}, Rep w A t v → L.Ok t
  | .skip, _, _ => .skip
  | .stop _, _, _ => .stop _
  | .fault _, _, _ => .fault _
  | .row _, _, ⟨_, _, _, h2, _, _, hr⟩ => .row _ h2 (RepL.ok hr)
  | .assign _ _, _, ⟨_, _, ha⟩ => .assign _ _ ha.ok
  | .choice _ _ _ _, _, ⟨_, _, _, _, ha, hb, hc⟩ => .choice _ _ _ _ ha.ok hb.ok hc.ok
  | .loop _ _, _, ⟨_, _, _, ha, hb⟩ => .loop _ _ ha.ok hb.ok
  | .fresh _ _ _ _, _, ⟨_, _, _, ha, hb⟩ => .fresh _ _ _ _ ha.ok hb.ok
  | .call _ _ _, _, ⟨_, _, _, _, _, hr⟩ => .call _ _ _ (RepL.ok hr)
  | .proc _ _ _ _ _ _, _, ⟨_, _, _, _, _, _, _, ha, hb⟩ => .proc _ _ _ _ _ _ ha.ok hb.ok
  | .num _, _, _ => .num _
  | .read _, _, _ => .read _
  | .binary _ _ _, _, ⟨_, _, _, ha, hb⟩ => .binary _ _ _ ha.ok hb.ok
  | .doing _ _, _, ⟨_, _, _, ha, hb⟩ => .doing _ _ ha.ok hb.ok
  | .labelled _ _, _, ⟨_, _, ha⟩ => .labelled _ _ ha.ok
  | .exit _ _, _, _ => .exit _ _
theorem RepL.ok {w : World} {A : Nat → Prop} : ∀ {ts : List L.Tm} {vs : List Value}, RepL w A ts vs → ∀ t ∈ ts, L.Ok t
  | [], _, _ => fun t ht => by cases ht
  | _ :: _, _, ⟨_, _, _, hv, hr⟩ => fun t ht => (List.mem_cons.1 ht).elim (fun e => e ▸ Rep.ok hv) fun h => RepL.ok hr t h
end
theorem Rep.kt {w w' : World} {A : Nat → Prop} {t : L.Tm} {v : Value} (h : Rep w A t v) (k : Kt w w') : Rep w' A t v := h.keepT (k.2 _ (by unfold Own3; decide)) (k.2 _ (by unfold Own3; decide))
theorem RepL.kt {w w' : World} {A : Nat → Prop} {t : List L.Tm} {v : List Value} (h : RepL w A t v) (k : Kt w w') : RepL w' A t v := h.keepT (k.2 _ (by unfold Own3; decide)) (k.2 _ (by unfold Own3; decide))
theorem Rep.kp {R E : Nat} {lo : Nat → Prop} {w w' : World} {A : Nat → Prop} {t : L.Tm} {v : Value} (h : Rep w A t v) (k : Kp R E lo w w') : Rep w' A t v := h.kt k.t
theorem RepL.kp {R E : Nat} {lo : Nat → Prop} {w w' : World} {A : Nat → Prop} {t : List L.Tm} {v : List Value} (h : RepL w A t v) (k : Kp R E lo w w') : RepL w' A t v := h.kt k.t
theorem Rep.sub {w : World} {A A' : Nat → Prop} {t : L.Tm} {v : Value} (h : Rep w A t v) (hA : ∀ b, A b → b < w.heap.size → A' b) : Rep w A' t v := Rep.keep (fun _ _ _ => rfl) hA h
theorem RepL.sub {w : World} {A A' : Nat → Prop} {t : List L.Tm} {v : List Value} (h : RepL w A t v) (hA : ∀ b, A b → b < w.heap.size → A' b) : RepL w A' t v := RepL.keep (fun _ _ _ => rfl) hA h
/-- Where the error stands that a visit has found. -/
def ErrAt (w : World) (E : Nat) (e : Int) : Prop := Blk w E 23 #[.int .i64 e]
theorem ErrAt.kb {w w' : World} {R E : Nat} {lo : Nat → Prop} {e : Int} (h : ErrAt w E e) (k : Kb R lo w w') : ErrAt w' E e := (k.2 _ (by unfold Own2; decide) _ _ h).trans h
theorem RdAt.keepT {w w' : World} {R : Nat} {lo : Nat → Prop} {bs : List L.Bnd} {vis : Value} (h : RdAt w R lo bs vis) (hs : w.heap.size ≤ w'.heap.size) (h1 : Keeps 72 w w') (h2 : Keeps 67 w w') (h3 : Keeps 32 w w') : RdAt w' R lo bs vis := by
  obtain ⟨v, hb, hR, hlo, cs, ho, hl, hB⟩ := h
  exact ⟨v, (h1 _ _ hb).trans hb, hR, fun b hb => hlo b (Nat.le_trans hs hb), cs, h2.row ho, hl, hB.keep h3⟩
theorem Blk.keepsE {w : World} {E : Nat} {e : Int} (h : ErrAt w E e) (u : Value) {t : TypeId} (hne : 23 ≠ t) : Keeps t w (w.setCell ⟨E, 0, none⟩ u) :=
  ((Frm.refl (· = E) w).set_ (p := ⟨E, 0, none⟩) (fun _ => rfl) u).keeps1 h hne
/-- A reader, what binds names there, and the error so far. -/
structure RS (w : World) (R : Nat) (lo : Nat → Prop) (E : Nat) (vis : Value) (bs : List L.Bnd) (e : Int) : Prop where
  rd : RdAt w R lo bs vis
  err : ErrAt w E e
section
variable {w w' : World} {R E : Nat} {lo : Nat → Prop} {vis : Value} {bs : List L.Bnd} {e : Int}
theorem RS.frm (h : RS w R lo E vis bs e) (F : Frm (fun _ => False) w w') : RS w' R lo E vis bs e := ⟨h.rd.keep F, F.blk h.err id⟩
theorem RS.set_ (h : RS w R lo E vis bs e) (e' : Int) : RS (w.setCell ⟨E, 0, none⟩ (.int .i64 e')) R lo E vis bs e' ∧ Kp R E lo w (w.setCell ⟨E, 0, none⟩ (.int .i64 e')) := by
  have F : Frm (· = E) w (w.setCell ⟨E, 0, none⟩ (.int .i64 e')) := (Frm.refl (· = E) w).set_ (p := ⟨E, 0, none⟩) (fun _ => rfl) _
  refine ⟨⟨h.rd.keepT F.1 (Blk.keepsE h.err _ (by decide)) (Blk.keepsE h.err _ (by decide)) (Blk.keepsE h.err _ (by decide)), h.err.set_ 0 _⟩, F.1, fun t ht => Blk.keepsE h.err _ fun e => ht (.inr (.inr e.symm)), F.mono fun _ _ h => .inr (.inl h)⟩
/-- A block that is laid anew is none of the reader's. -/
theorem RS.narrow (h : RS w R lo E vis bs e) (o : Obj) : RS (w.alloc o) R (fun b => lo b ∧ b ≠ w.heap.size) E vis bs e := by
  obtain ⟨⟨v, hb, hR, hlo, cs, ho, hl, hB⟩, he⟩ := h
  have F := (Frm.refl (fun _ => False) w).alloc o
  refine ⟨⟨v, hb.alloc o, fun h => hR h.1, fun b hb => ⟨hlo b (by simp at hb; omega), fun e => by subst e; simp at hb; omega⟩, cs, F.row ho (fun _ _ => id) (Nat.le_refl _), fun g hg => ⟨hl g hg, fun e => by have := (ho.lt g hg).2; omega⟩, hB.keep F.keeps0⟩, he.alloc o⟩
theorem RS.wide {lo' : Nat → Prop} (h : RS w R lo' E vis bs e) (hs : ∀ b, lo' b → lo b) (hR : ¬ lo R) : RS w R lo E vis bs e := by
  obtain ⟨⟨v, hb, -, hlo, cs, ho, hl, hB⟩, he⟩ := h
  exact ⟨⟨v, hb, hR, fun b hb => hs b (hlo b hb), cs, ho, fun g hg => hs g (hl g hg), hB⟩, he⟩
end
/-- A function value with what it has captured; what it must do as a reader's visit. -/
def Vis (n0 R E F : Nat) (caps : Array Value) (V : L.Vst) (Inv : World → Prop) : Prop :=
  (∀ (w w' : World), Kt w w' → Inv w → Inv w') ∧ (∀ (x : Value) (W : World), (callFunc F (#[x] ++ caps)).run Tryz.prog W = .ok (.enter F (#[x] ++ caps)) W) ∧
  ∀ (w : World) (lo : Nat → Prop) (bs : List L.Bnd) (e : Int) (t : L.Tm) (v : Value), RS w R lo E (.func (.func F) #[] caps) bs e → Inv w → n0 ≤ w.heap.size → bs.length ≤ 1000000 → Rep w (· < n0) t v → L.isRow t = false → L.nodes t ≤ 1000000 →
    Calls Tryz.prog F (#[v] ++ caps) w fun r w' => (∃ v', r = .returned v' ∧ (match (V bs t e).2 with | none => v' = .nilIface | some u => Rep w' (· < n0) u v')) ∧ RS w' R lo E (.func (.func F) #[] caps) bs (V bs t e).1 ∧ Kp R E lo w w'
end Go.Proofs.YtpdbkdcdlafobaaGreatDoor
end
