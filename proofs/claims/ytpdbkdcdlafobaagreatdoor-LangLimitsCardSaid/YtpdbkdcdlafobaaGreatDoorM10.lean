/- The contract of takes. Terms read within what binds their names, as plain functions. Contracts of the program's functions, with no condition beyond what each theorem states. -/
import Derived.Test.YtpdbkdcdlafobaaGreatDoorM09
import Derived.Deep.RegionHeld3
import Derived.Test.YtpdbkdcdlafobaaGreatDoorM07
section
namespace Go.Proofs.YtpdbkdcdlafobaaGreatDoor
namespace L
/-- Whether types and terms agree in which are commands. -/
def okArgs : List Int → List Tm → Bool
  | x :: xs, t :: ts => (decide (x = 0) == decide (typeOf t = 0)) && okArgs xs ts
  | _, _ => true
/-- Whether a call of a binding is right. -/
def takes (b : Bnd) (of : Int) (ts : List Tm) : Bool :=
  !decide (b.sort = 3) && !decide (b.sort = 4) && decide (b.result = of) && decide (b.args.length = ts.length) && okArgs b.args ts
end L
open Go.RowKit
set_option maxRecDepth 100000 in
set_option maxHeartbeats 2000000 in
theorem takes_any {w : World} {b : L.Bnd} {A2 As : Option Addr} {c2 c : Nat} {A : Nat → Prop} {ts : List L.Tm} {vs : List Value} (of : Int) (nm : L.Bytes) (ht : Tys w 0 (.slice A2 b.args.length c2) b.args)
    (ho : w.ownsRow 0 34 1 (.slice As ts.length c) ts.length vs) (hr : RepL w A ts vs) (hn : ts.length ≤ 1000000) :
    Calls Tryz.prog 71 #[.agg #[.int .i64 b.sort, .string (str b.name), .slice A2 b.args.length c2, .int .i64 b.result], .agg #[.int .i64 of, .string (str nm), .slice As ts.length c]] w fun e w' => e = .returned (.bool (L.takes b of ts)) ∧ Frm (fun _ => False) w w' := by
  obtain ⟨A3, c3, e3, hta⟩ := ht.form
  injection e3 with e1 _ e2
  subst e1 e2
  obtain ⟨A4, c4, e4, htb⟩ := own_cells ho
  injection e4 with e1 _ e2
  subst e1 e2
  have HA := Lib.hid hta
  have HB := Lib.hid htb
  have HR := Lib.hid hr
  clear ht ho hr hta htb
  go_enter Tryz.func71, Tryz.ntmps71
  have F : ∀ o1 o2, Frm (fun _ => False) w ((w.alloc o1).alloc o2) := fun o1 o2 => ((Frm.refl (fun _ => False) w).alloc o1).alloc o2
  by_cases h1 : b.sort = 3
  · have hv : L.takes b of ts = false := by simp [L.takes, h1]
    have HV := Lib.hid hv
    clear hv
    go_wp2_with fail
    go_ret
    exact ⟨by rw [HV.out]; rfl, F _ _⟩
  by_cases h2 : b.sort = 4
  · have hv : L.takes b of ts = false := by simp [L.takes, h2]
    have HV := Lib.hid hv
    clear hv
    go_wp2_with fail
    go_ret
    exact ⟨by rw [HV.out]; rfl, F _ _⟩
  have h12 : (b.sort == 3 || b.sort == 4) = false := by simp [h1, h2]
  by_cases h3 : b.result = of
  · by_cases h4 : b.args.length = ts.length
    · have hv : L.takes b of ts = L.okArgs b.args ts := by simp [L.takes, h1, h2, h3, h4]
      have HV := Lib.hid hv
      have H12 := Lib.hid h12
      clear hv
      go_wp2_with fail
      go_loopg [34] (ts.length + 1) (fun n i wr => ∃ k : Nat, k ≤ ts.length ∧ n = ts.length + 1 - k ∧ i = .int .i64 k ∧ Hid (L.okArgs b.args ts = L.okArgs (b.args.drop k) (ts.drop k)) ∧ Blk wr w.heap.size 67 #[.int .i64 b.sort, .string (str b.name), .slice A2 ts.length c2, .int .i64 of] ∧ Frm (fun _ => False) w wr)
      case atStart => exact ⟨0, Nat.zero_le _, rfl, rfl, rfl, (Blk.new w _ _).alloc _, F _ _⟩
      case round =>
        obtain ⟨k, hk, rfl, rfl, hok, hbx, hf⟩ := hrel
        by_cases hlt : k < ts.length
        · obtain ⟨u, hu, hru⟩ := HR.out.at_ hlt
          obtain ⟨ga, rfl, hca⟩ := HB.out k u hu
          obtain ⟨gb, rfl, hcb⟩ := HA.out k (by omega)
          have hcu := hf.cell id hca
          have hcv := hf.cell id hcb
          have hcx : wr.cell? ⟨w.heap.size, 2, none⟩ = some (.slice (some ⟨gb, 0, none⟩) ts.length c2) := hbx.cell 2
          have hru2 := Rep.keep (A' := A) (hf.same fun _ _ _ => id) (fun _ hb _ => hb) hru
          have hstep : L.okArgs (b.args.drop k) (ts.drop k) = ((decide (b.args[k]'(by omega) = 0) == decide (L.typeOf ts[k] = 0)) && L.okArgs (b.args.drop (k + 1)) (ts.drop (k + 1))) := by
            rw [List.drop_eq_getElem_cons (i := k) (l := b.args) (by omega), List.drop_eq_getElem_cons (i := k) (l := ts) hlt]; rfl
          have HS := Lib.hid hstep
          have HRU := Lib.hid hru2
          clear hstep hru hca hcb
          obtain ⟨T3, x3, rfl⟩ := Rep.form hru2
          generalize b.args[k]'(by omega) = ak at *
          clear hru2
          have hkk : (k : Int) < (ts.length : Int) := by omega
          have hk0 : (0 : Int) ≤ (k : Int) := by omega
          go_wp2_with fail
          go_region_held3 (fun w' => w'.cell? ⟨w.heap.size, 2, none⟩ = some (.slice (some ⟨gb, 0, none⟩) ts.length c2) ∧ w'.cell? ⟨gb, k, none⟩ = some (.int .i64 ak) ∧ Frm (fun _ => False) wr w')
            (first | exact ⟨hcx, hcv, Frm.refl _ _⟩ | exact ⟨hcx, hcv, Frm0.drew _⟩ | (go_split_ands; exact ⟨Frm.cell (by assumption) id (by assumption), Frm.cell (by assumption) id (by assumption), Frm.trans (by assumption) (by assumption)⟩) | exact ⟨Frm.cell (by assumption) id hcx, Frm.cell (by assumption) id hcv, Frm.trans (Frm0.drew _) (by assumption)⟩)
            (first | (go_at_call 102; refine (typeOf_any (Rep.keep (A' := A) (Frm.same (w := wr) (E := fun _ => False) (by first | assumption | exact Frm0.drew _ | exact Frm.refl _ _) fun _ _ _ => id) (fun _ hb _ => hb) HRU.out)).mono ?_; rintro e w3 ⟨rfl, f3⟩))
          obtain ⟨-, -, hw3⟩ := ‹_ ∧ _ ∧ Frm (fun _ => False) wr w3›
          have HFr := Lib.hid (hf.trans hw3)
          have HB3 := Lib.hid (hw3.blk hbx id)
          generalize L.typeOf ts[k] = ty at *
          clear hcx hcv hbx hcu HRU
          go_wp2_with fail
          · rename_i hcond
            have hgo : (decide (ak = 0) == decide (ty = 0)) = false := by
              revert hcond
              rw [show (ak == 0) = decide (ak = 0) from rfl, show (ty == 0) = decide (ty = 0) from rfl]
              cases decide (ak = 0) <;> cases decide (ty = 0) <;> simp
            have hv2 : L.okArgs b.args ts = false := by rw [hok.out, HS.out, hgo]; rfl
            go_ret
            exact ⟨by rw [HV.out, hv2]; rfl, HFr.out⟩
          · rename_i hcond
            have hgo : (decide (ak = 0) == decide (ty = 0)) = true := by
              revert hcond
              rw [show (ak == 0) = decide (ak = 0) from rfl, show (ty == 0) = decide (ty = 0) from rfl]
              cases decide (ak = 0) <;> cases decide (ty = 0) <;> simp
            have hv2 : L.okArgs (b.args.drop k) (ts.drop k) = L.okArgs (b.args.drop (k + 1)) (ts.drop (k + 1)) := by rw [HS.out, hgo]; rfl
            have HG := Lib.hid hv2
            clear hv2
            go_roundg (ts.length + 1 - (k + 1))
            case measure => omega
            case rel => exact ⟨k + 1, by omega, rfl, by go_num, hok.out.trans HG.out, HB3.out, HFr.out⟩
        · have e : k = ts.length := by omega
          have hgo : L.okArgs b.args ts = true := by rw [hok.out, e, List.drop_length]; cases b.args.drop ts.length <;> rfl
          have HG := Lib.hid hgo
          clear hgo
          go_wp2_with fail
          go_ret
          exact ⟨by rw [HV.out, HG.out]; rfl, hf⟩
    · have hv : L.takes b of ts = false := by simp [L.takes, h4]
      have HV := Lib.hid hv
      clear hv
      go_wp2_with fail
      go_ret
      exact ⟨by rw [HV.out]; rfl, F _ _⟩
  · have hv : L.takes b of ts = false := by simp [L.takes, h3]
    have HV := Lib.hid hv
    clear hv
    go_wp2_with fail
    go_ret
    exact ⟨by rw [HV.out]; rfl, F _ _⟩
end Go.Proofs.YtpdbkdcdlafobaaGreatDoor
end
section
namespace Go.Proofs.YtpdbkdcdlafobaaGreatDoor.L
def ofParam (p : Bytes × Int) : Bnd := if p.2 = 2 then ⟨3, p.1, [], 0⟩ else ⟨2, p.1, [], p.2⟩
def innerOf (ps : List (Bytes × Int)) : List Bnd := ps.map ofParam
def outerOf (n : Bytes) (ps : List (Bytes × Int)) (r : Int) : Bnd := ⟨1, n, ps.map (·.2), r⟩
/-- What is done at each node, with what binds names there, and the error so far: the error then, and what stands in the node's place. -/
abbrev Vst := List Bnd → Tm → Int → Int × Option Tm
def at_ (V : Vst) (bs : List Bnd) (t : Tm) (e : Int) (k : Int → Tm × Int) : Tm × Int := match V bs t e with
  | (e1, some u) => (u, e1)
  | (e1, none) => k e1
mutual
def rd (V : Vst) (bs : List Bnd) : Tm → Int → Tm × Int
  | .row ts, e => (inRow (rdL V bs ts e).1, (rdL V bs ts e).2)
  | .assign n x, e => at_ V bs (.assign n x) e fun e => (.assign n (rd V bs x e).1, (rd V bs x e).2)
  | .choice of x y z, e => at_ V bs (.choice of x y z) e fun e =>
    (.choice of (rd V bs x e).1 (rd V bs y (rd V bs x e).2).1 (rd V bs z (rd V bs y (rd V bs x e).2).2).1, (rd V bs z (rd V bs y (rd V bs x e).2).2).2)
  | .loop x y, e => at_ V bs (.loop x y) e fun e => (.loop (rd V bs x e).1 (rd V bs y (rd V bs x e).2).1, (rd V bs y (rd V bs x e).2).2)
  | .fresh of n x y, e => at_ V bs (.fresh of n x y) e fun e =>
    (.fresh of n (rd V bs x e).1 (rd V (bs ++ [⟨3, n, [], 0⟩]) y (rd V bs x e).2).1, (rd V (bs ++ [⟨3, n, [], 0⟩]) y (rd V bs x e).2).2)
  | .call of n ts, e => at_ V bs (.call of n ts) e fun e => (.call of n (rdL V bs ts e).1, (rdL V bs ts e).2)
  | .proc of n ps r x y, e => at_ V bs (.proc of n ps r x y) e fun e =>
    (.proc of n ps r (rd V (bs ++ innerOf ps) x e).1 (rd V (bs ++ [outerOf n ps r]) y (rd V (bs ++ innerOf ps) x e).2).1, (rd V (bs ++ [outerOf n ps r]) y (rd V (bs ++ innerOf ps) x e).2).2)
  | .binary k x y, e => at_ V bs (.binary k x y) e fun e => (.binary k (rd V bs x e).1 (rd V bs y (rd V bs x e).2).1, (rd V bs y (rd V bs x e).2).2)
  | .doing x y, e => at_ V bs (.doing x y) e fun e => (.doing (rd V bs x e).1 (rd V bs y (rd V bs x e).2).1, (rd V bs y (rd V bs x e).2).2)
  | .labelled n x, e => at_ V bs (.labelled n x) e fun e => (.labelled n (rd V (bs ++ [⟨4, n, [], 0⟩]) x e).1, (rd V (bs ++ [⟨4, n, [], 0⟩]) x e).2)
  | .skip, e => at_ V bs .skip e fun e => (.skip, e)
  | .stop t, e => at_ V bs (.stop t) e fun e => (.stop t, e)
  | .fault t, e => at_ V bs (.fault t) e fun e => (.fault t, e)
  | .num i, e => at_ V bs (.num i) e fun e => (.num i, e)
  | .read n, e => at_ V bs (.read n) e fun e => (.read n, e)
  | .exit t n, e => at_ V bs (.exit t n) e fun e => (.exit t n, e)
def rdL (V : Vst) (bs : List Bnd) : List Tm → Int → List Tm × Int
  | [], e => ([], e)
  | t :: ts, e => ((rd V bs t e).1 :: (rdL V bs ts (rd V bs t e).2).1, (rdL V bs ts (rd V bs t e).2).2)
end
theorem rdL_append (V : Vst) (bs : List Bnd) (b : List Tm) : ∀ (a : List Tm) (e : Int), rdL V bs (a ++ b) e = ((rdL V bs a e).1 ++ (rdL V bs b (rdL V bs a e).2).1, (rdL V bs b (rdL V bs a e).2).2)
  | [], e => by simp [rdL]
  | t :: a, e => by rw [List.cons_append, rdL, rdL, rdL_append V bs b a]; rfl
theorem rdL_len (V : Vst) (bs : List Bnd) : ∀ (a : List Tm) (e : Int), (rdL V bs a e).1.length = a.length
  | [], e => rfl
  | t :: a, e => by rw [rdL]; simp [rdL_len V bs a]
theorem rdL_take (V : Vst) (bs : List Bnd) (ts : List Tm) (e : Int) (k : Nat) (hk : k < ts.length) :
    rdL V bs (ts.take (k + 1)) e = ((rdL V bs (ts.take k) e).1 ++ [(rd V bs ts[k] (rdL V bs (ts.take k) e).2).1], (rd V bs ts[k] (rdL V bs (ts.take k) e).2).2) := by
  rw [List.take_succ_eq_append_getElem hk, rdL_append]; simp [rdL]
/-- Rows have two steps or more. -/
inductive Ok : Tm → Prop
  | skip : Ok .skip
  | stop (t : Int) : Ok (.stop t)
  | fault (t : Int) : Ok (.fault t)
  | row (ts : List Tm) : 2 ≤ ts.length → (∀ t ∈ ts, Ok t) → Ok (.row ts)
  | assign (n : Bytes) (x : Tm) : Ok x → Ok (.assign n x)
  | choice (t : Int) (x y z : Tm) : Ok x → Ok y → Ok z → Ok (.choice t x y z)
  | loop (x y : Tm) : Ok x → Ok y → Ok (.loop x y)
  | fresh (t : Int) (n : Bytes) (x y : Tm) : Ok x → Ok y → Ok (.fresh t n x y)
  | call (t : Int) (n : Bytes) (ts : List Tm) : (∀ t ∈ ts, Ok t) → Ok (.call t n ts)
  | proc (t : Int) (n : Bytes) (ps : List (Bytes × Int)) (r : Int) (x y : Tm) : Ok x → Ok y → Ok (.proc t n ps r x y)
  | num (i : Int) : Ok (.num i)
  | read (n : Bytes) : Ok (.read n)
  | binary (k : Int) (x y : Tm) : Ok x → Ok y → Ok (.binary k x y)
  | doing (x y : Tm) : Ok x → Ok y → Ok (.doing x y)
  | labelled (n : Bytes) (x : Tm) : Ok x → Ok (.labelled n x)
  | exit (t : Int) (n : Bytes) : Ok (.exit t n)
theorem nodesL_pos {l : List Tm} (h : ∀ t ∈ l, 1 ≤ nodes t) : l.length ≤ nodesL l := by
  induction l with
  | nil => simp [nodesL]
  | cons t l ih =>
    have := ih fun u hu => h u (List.mem_cons_of_mem _ hu)
    have := h t (List.mem_cons_self ..)
    simp [nodesL]; omega
theorem Ok.pos {t : Tm} (h : Ok t) : 1 ≤ nodes t := by
  induction h <;> simp only [nodes] <;> try omega
theorem levelsL_max {l : List Tm} {k : Nat} (h : ∀ t ∈ l, levels t ≤ k) : levelsL l ≤ k := by
  induction l with
  | nil => simp [levelsL]
  | cons t l ih =>
    have := ih fun u hu => h u (List.mem_cons_of_mem _ hu)
    have := h t (List.mem_cons_self ..)
    simp only [levelsL]; omega
theorem nodesL_mem {l : List Tm} {t : Tm} (h : t ∈ l) : nodes t ≤ nodesL l := by
  induction l with
  | nil => cases h
  | cons u l ih =>
    rcases List.mem_cons.1 h with rfl | h
    · simp only [nodesL]; omega
    · have := ih h; simp only [nodesL]; omega
theorem Ok.levels {t : Tm} (h : Ok t) : levels t ≤ nodes t := by
  induction h with
  | row ts h2 hk ih =>
    have := levelsL_max (k := nodesL ts) fun t ht => Nat.le_trans (ih t ht) (nodesL_mem ht)
    simp only [L.levels, nodes]; omega
  | call t n ts hk ih =>
    have := levelsL_max (k := nodesL ts) fun t ht => Nat.le_trans (ih t ht) (nodesL_mem ht)
    simp only [L.levels, nodes]; omega
  | _ => simp only [L.levels, nodes]; omega
theorem levelsL_mem {l : List Tm} {t : Tm} (h : t ∈ l) : levels t ≤ levelsL l := by
  induction l with
  | nil => cases h
  | cons u l ih =>
    rcases List.mem_cons.1 h with rfl | h
    · simp only [levelsL]; omega
    · have := ih h; simp only [levelsL]; omega
/-- No row stands directly in it. -/
def Flat (t : Tm) : Prop := ∀ u ∈ stepsOf t, isRow u = false
theorem flat_of {t : Tm} (h : isRow t = false) : Flat t := fun u hu => by
  cases t <;> first | (simp [isRow] at h; done) | (simp only [stepsOf, List.mem_singleton] at hu; rw [hu]; exact h)
theorem steps_one {t : Tm} (h : isRow t = false) : stepsOf t = [t] := by
  cases t <;> first | rfl | simp [isRow] at h
theorem inRow_cases {l : List Tm} (h : ∀ t ∈ l, Flat t) : (∃ u, l.flatMap stepsOf = [u] ∧ isRow u = false ∧ inRow l = u) ∨ inRow l = .row (l.flatMap stepsOf) := by
  match e : l.flatMap stepsOf with
  | [] => right; unfold inRow; rw [e]
  | [u] =>
    refine .inl ⟨u, rfl, ?_, by unfold inRow; rw [e]⟩
    have hu : u ∈ l.flatMap stepsOf := by rw [e]; exact List.mem_singleton.2 rfl
    obtain ⟨t, ht, hu⟩ := List.mem_flatMap.1 hu
    exact h t ht u hu
  | _ :: _ :: _ => right; unfold inRow; rw [e]
theorem inRow_flat {l : List Tm} (h : ∀ t ∈ l, Flat t) : Flat (inRow l) := by
  rcases inRow_cases h with ⟨u, _, hu, e⟩ | e
  · rw [e]; exact flat_of hu
  · rw [e]; intro u hu
    obtain ⟨t, ht, hu⟩ := List.mem_flatMap.1 (show u ∈ l.flatMap stepsOf from hu)
    exact h t ht u hu
theorem inRow_steps {l : List Tm} (h : ∀ t ∈ l, Flat t) : stepsOf (inRow l) = l.flatMap stepsOf := by
  rcases inRow_cases h with ⟨u, e1, hu, e⟩ | e
  · rw [e, e1, steps_one hu]
  · rw [e]; rfl
theorem stepsOf_ok {t : Tm} (h : Ok t) : 1 ≤ (stepsOf t).length ∧ ∀ u ∈ stepsOf t, Ok u := by
  cases h with
  | row ts h2 hk => exact ⟨by simp only [stepsOf]; omega, hk⟩
  | _ => refine ⟨Nat.le_refl _, fun u hu => ?_⟩; simp only [stepsOf, List.mem_singleton] at hu; subst hu; constructor <;> assumption
theorem flat_len {l : List Tm} (h : ∀ t ∈ l, Ok t) : l.length ≤ (l.flatMap stepsOf).length := by
  induction l with
  | nil => simp
  | cons t l ih =>
    have := ih fun u hu => h u (List.mem_cons_of_mem _ hu)
    have := (stepsOf_ok (h t (List.mem_cons_self ..))).1
    rw [List.flatMap_cons, List.length_append, List.length_cons]; omega
theorem inRow_ok {l : List Tm} (hf : ∀ t ∈ l, Flat t) (h : ∀ t ∈ l, Ok t) (hne : l ≠ []) : Ok (inRow l) := by
  have hm : ∀ u ∈ l.flatMap stepsOf, Ok u := fun u hu => by
    obtain ⟨t, ht, hu⟩ := List.mem_flatMap.1 hu
    exact (stepsOf_ok (h t ht)).2 u hu
  rcases inRow_cases hf with ⟨u, e1, hu, e⟩ | e
  · rw [e]; exact hm u (by rw [e1]; exact List.mem_singleton.2 rfl)
  · by_cases h1 : (l.flatMap stepsOf).length = 1
    · obtain ⟨u, hu⟩ := List.length_eq_one_iff.1 h1
      have : inRow l = u := by unfold inRow; rw [hu]
      rw [this]; exact hm u (by rw [hu]; exact List.mem_singleton.2 rfl)
    · rw [e]
      have := flat_len h
      have : 0 < l.length := List.length_pos_iff.2 hne
      exact .row _ (by omega) hm
theorem steps_nodes {t : Tm} (h : Ok t) : (stepsOf t).length + nodesL (stepsOf t) = nodes t + 1 := by
  cases h with
  | row ts h2 hk => simp only [stepsOf, nodes]; omega
  | _ => simp [stepsOf, nodesL]; omega
theorem flat_nodes {l : List Tm} (h : ∀ t ∈ l, Ok t) : (l.flatMap stepsOf).length + nodesL (l.flatMap stepsOf) = nodesL l + l.length := by
  induction l with
  | nil => simp [nodesL]
  | cons t l ih =>
    have := ih fun u hu => h u (List.mem_cons_of_mem _ hu)
    have := steps_nodes (h t (List.mem_cons_self ..))
    rw [List.flatMap_cons, List.length_append, nodesL_append, List.length_cons]; simp only [nodesL]; omega
theorem inRow_nodes {l : List Tm} (hf : ∀ t ∈ l, Flat t) (h : ∀ t ∈ l, Ok t) (hne : l ≠ []) : nodes (inRow l) + 1 = nodesL l + l.length := by
  have h1 := flat_nodes h
  have := flat_len h
  have : 0 < l.length := List.length_pos_iff.2 hne
  rcases inRow_cases hf with ⟨u, e1, hu, e⟩ | e
  · rw [e]; rw [e1, List.length_singleton] at h1; simp only [nodesL] at h1; omega
  · rw [e]; simp only [nodes]; omega
theorem steps_le_nodes {t : Tm} (h : Ok t) : (stepsOf t).length ≤ nodes t := by
  cases h with
  | row ts h2 hk => have := nodesL_pos (l := ts) fun t ht => (hk t ht).pos; simp only [stepsOf, nodes]; omega
  | _ => simp [stepsOf, nodes] <;> omega
theorem nodesL_scale {P : Nat} {f : Tm → Tm} {l : List Tm} (h : ∀ t ∈ l, nodes (f t) ≤ P * nodes t) : nodesL (l.map f) ≤ P * nodesL l := by
  induction l with
  | nil => simp [nodesL]
  | cons t l ih =>
    have := ih fun u hu => h u (List.mem_cons_of_mem _ hu)
    have := h t (List.mem_cons_self ..)
    simp only [List.map_cons, nodesL, Nat.mul_add]; omega
/-- What stands in a node's place is as terms are, and small. -/
def Good (P : Nat) (V : Vst) : Prop := ∀ bs t e u, (V bs t e).2 = some u → Ok u ∧ Flat u ∧ nodes u ≤ P
def Fine (P k : Nat) (u : Tm) : Prop := Ok u ∧ Flat u ∧ nodes u ≤ P * k
theorem at_fine {P k : Nat} {V : Vst} (hV : Good P V) {bs : List Bnd} {t : Tm} {e : Int} {f : Int → Tm × Int} (hk : 1 ≤ k) (hf : ∀ e, Fine P k (f e).1) : Fine P k (at_ V bs t e f).1 := by
  unfold at_
  split
  · rename_i u h
    obtain ⟨h1, h2, h3⟩ := hV bs t e _ (by rw [h])
    exact ⟨h1, h2, Nat.le_trans h3 (Nat.le_mul_of_pos_right _ hk)⟩
  · exact hf _
theorem rd_fine {P : Nat} {V : Vst} (hP : 1 ≤ P) (hV : Good P V) {t : Tm} (h : Ok t) : ∀ (bs : List Bnd) (e : Int), Fine P (nodes t) (rd V bs t e).1 := by
  have hL : ∀ (ts : List Tm) (bs : List Bnd), (∀ t ∈ ts, ∀ (bs : List Bnd) (e : Int), Fine P (nodes t) (rd V bs t e).1) → ∀ e, (∀ u ∈ (rdL V bs ts e).1, Ok u ∧ Flat u) ∧ nodesL (rdL V bs ts e).1 ≤ P * nodesL ts := by
    intro ts bs
    induction ts with
    | nil => intro _ e; simp [rdL, nodesL]
    | cons t ts ih =>
      intro h e
      obtain ⟨h1, h2⟩ := ih (fun u hu => h u (List.mem_cons_of_mem _ hu)) (rd V bs t e).2
      obtain ⟨g1, g2, g3⟩ := h t (List.mem_cons_self ..) bs e
      rw [rdL]
      refine ⟨fun u hu => ?_, by simp only [nodesL, Nat.mul_add]; omega⟩
      rcases List.mem_cons.1 hu with rfl | hu
      · exact ⟨g1, g2⟩
      · exact h1 u hu
  induction h with
  | row ts h2 hk ih =>
    intro bs e
    rw [rd]
    obtain ⟨h1, h3⟩ := hL ts bs ih e
    have hl := rdL_len V bs ts e
    have hne : (rdL V bs ts e).1 ≠ [] := List.ne_nil_of_length_pos (by omega)
    have := inRow_nodes (fun t ht => (h1 t ht).2) (fun t ht => (h1 t ht).1) hne
    refine ⟨inRow_ok (fun t ht => (h1 t ht).2) (fun t ht => (h1 t ht).1) hne, inRow_flat fun t ht => (h1 t ht).2, ?_⟩
    have : ts.length - 1 ≤ P * (ts.length - 1) := Nat.le_mul_of_pos_left _ hP
    simp only [nodes, Nat.mul_add]; omega
  | call t n ts hk ih =>
    intro bs e
    rw [rd]
    refine at_fine hV (by simp only [nodes]; omega) fun e => ?_
    obtain ⟨h1, h3⟩ := hL ts bs ih e
    exact ⟨.call _ _ _ fun t ht => (h1 t ht).1, flat_of rfl, by simp only [nodes, Nat.mul_add]; omega⟩
  | assign n x _ ih =>
    intro bs e
    rw [rd]
    refine at_fine hV (by simp only [nodes]; omega) fun e => ?_
    have h1 := ih bs e
    exact ⟨.assign _ _ h1.1, flat_of rfl, by have := h1.2.2; simp only [nodes, Nat.mul_add]; omega⟩
  | choice t x y z _ _ _ ihx ihy ihz =>
    intro bs e
    rw [rd]
    refine at_fine hV (by simp only [nodes]; omega) fun e => ?_
    have h1 := ihx bs e
    have h2 := ihy bs (rd V bs x e).2
    have h3 := ihz bs (rd V bs y (rd V bs x e).2).2
    exact ⟨.choice _ _ _ _ h1.1 h2.1 h3.1, flat_of rfl, by have := h1.2.2; have := h2.2.2; have := h3.2.2; simp only [nodes, Nat.mul_add]; omega⟩
  | loop x y _ _ ihx ihy =>
    intro bs e
    rw [rd]
    refine at_fine hV (by simp only [nodes]; omega) fun e => ?_
    have h1 := ihx bs e
    have h2 := ihy bs (rd V bs x e).2
    exact ⟨.loop _ _ h1.1 h2.1, flat_of rfl, by have := h1.2.2; have := h2.2.2; simp only [nodes, Nat.mul_add]; omega⟩
  | fresh t n x y _ _ ihx ihy =>
    intro bs e
    rw [rd]
    refine at_fine hV (by simp only [nodes]; omega) fun e => ?_
    have h1 := ihx bs e
    have h2 := ihy (bs ++ [⟨3, n, [], 0⟩]) (rd V bs x e).2
    exact ⟨.fresh _ _ _ _ h1.1 h2.1, flat_of rfl, by have := h1.2.2; have := h2.2.2; simp only [nodes, Nat.mul_add]; omega⟩
  | proc t n ps r x y _ _ ihx ihy =>
    intro bs e
    rw [rd]
    refine at_fine hV (by simp only [nodes]; omega) fun e => ?_
    have h1 := ihx (bs ++ innerOf ps) e
    have h2 := ihy (bs ++ [outerOf n ps r]) (rd V (bs ++ innerOf ps) x e).2
    exact ⟨.proc _ _ _ _ _ _ h1.1 h2.1, flat_of rfl, by have := h1.2.2; have := h2.2.2; simp only [nodes, Nat.mul_add]; omega⟩
  | binary k x y _ _ ihx ihy =>
    intro bs e
    rw [rd]
    refine at_fine hV (by simp only [nodes]; omega) fun e => ?_
    have h1 := ihx bs e
    have h2 := ihy bs (rd V bs x e).2
    exact ⟨.binary _ _ _ h1.1 h2.1, flat_of rfl, by have := h1.2.2; have := h2.2.2; simp only [nodes, Nat.mul_add]; omega⟩
  | doing x y _ _ ihx ihy =>
    intro bs e
    rw [rd]
    refine at_fine hV (by simp only [nodes]; omega) fun e => ?_
    have h1 := ihx bs e
    have h2 := ihy bs (rd V bs x e).2
    exact ⟨.doing _ _ h1.1 h2.1, flat_of rfl, by have := h1.2.2; have := h2.2.2; simp only [nodes, Nat.mul_add]; omega⟩
  | labelled n x _ ih =>
    intro bs e
    rw [rd]
    refine at_fine hV (by simp only [nodes]; omega) fun e => ?_
    have h1 := ih (bs ++ [⟨4, n, [], 0⟩]) e
    exact ⟨.labelled _ _ h1.1, flat_of rfl, by have := h1.2.2; simp only [nodes, Nat.mul_add]; omega⟩
  | _ =>
    intro bs e
    rw [rd]
    refine at_fine hV (by simp only [nodes]; omega) fun e => ⟨by constructor, flat_of rfl, by simp only [nodes]; omega⟩
theorem rdL_fine {P : Nat} {V : Vst} (hP : 1 ≤ P) (hV : Good P V) : ∀ {ts : List Tm} (_ : ∀ t ∈ ts, Ok t) (bs : List Bnd) (e : Int), (∀ u ∈ (rdL V bs ts e).1, Ok u ∧ Flat u) ∧ nodesL (rdL V bs ts e).1 ≤ P * nodesL ts
  | [], _, _, _ => by simp [rdL, nodesL]
  | t :: ts, h, bs, e => by
    obtain ⟨h1, h2⟩ := rdL_fine hP hV (ts := ts) (fun u hu => h u (List.mem_cons_of_mem _ hu)) bs (rd V bs t e).2
    obtain ⟨g1, g2, g3⟩ := rd_fine hP hV (h t (List.mem_cons_self ..)) bs e
    rw [rdL]
    refine ⟨fun u hu => ?_, by simp only [nodesL, Nat.mul_add]; omega⟩
    rcases List.mem_cons.1 hu with rfl | hu
    · exact ⟨g1, g2⟩
    · exact h1 u hu
theorem rdL_steps {P : Nat} {V : Vst} (hP : 1 ≤ P) (hV : Good P V) {ts : List Tm} (h : ∀ t ∈ ts, Ok t) (bs : List Bnd) (e : Int) : ((rdL V bs ts e).1.flatMap stepsOf).length ≤ P * nodesL ts + ts.length := by
  obtain ⟨h1, h2⟩ := rdL_fine hP hV h bs e
  have := flat_nodes fun t ht => (h1 t ht).1
  have := rdL_len V bs ts e
  omega
theorem at_none {V : Vst} {bs : List Bnd} {t : Tm} {e : Int} (h : (V bs t e).2 = none) (k : Int → Tm × Int) : at_ V bs t e k = k (V bs t e).1 := by
  unfold at_
  generalize V bs t e = r at *
  obtain ⟨r1, r2⟩ := r
  subst h
  rfl
theorem at_some {V : Vst} {bs : List Bnd} {t u : Tm} {e : Int} (h : (V bs t e).2 = some u) (k : Int → Tm × Int) : at_ V bs t e k = (u, (V bs t e).1) := by
  unfold at_
  generalize V bs t e = r at *
  obtain ⟨r1, r2⟩ := r
  subst h
  rfl
end Go.Proofs.YtpdbkdcdlafobaaGreatDoor.L
end
