/- The reference's Valid, step, ends. A region that draws its order, told by what each of its operations leaves behind: a fact of each value that stays true whatever the others do. Each operation is walked once, in whatever order they come up. A region that draws its order, told by what each of its operations leaves behind, where a fact may speak of the values of operations ahead of it, and an operation need leave no value. append of whatever row onto a new, empty one. The reference's live: a closed set of the states from which a word is accepted. The reference's alike. Plain: the refinement of classes. Contracts of the program's functions, with no condition beyond what each theorem states. -/
import Derived.Test.YtmoniecknimmdaaC02
import Derived.Deep.AppendSrc
import Derived.Test.YtmoniecknimmdaaC01
import Derived.BigQuiet
section
namespace Go.Proofs.Ytmoniecknimmdaa
open Go.RowKit
set_option maxRecDepth 100000 in
set_option maxHeartbeats 2000000 in
theorem rvalid_any {w : World} {P : Nat → Prop} {v : Value} {m : A.Mac} (h : MachAt w P v m) (hs : Sized m) :
    Calls Try.prog 11 #[v] w fun e w' => e = .returned (.int .i64 (A.valid m)) ∧ Frm (fun _ => False) w w' := by
  obtain ⟨A1, c1, A2, c2, rfl⟩ := h.form
  have F0 : Frm (fun _ => False) w (w.alloc (.cells #[.int .i64 m.letters, .int .i64 m.start, .slice A1 m.next.length c1, .slice A2 m.fin.length c2] 25)) := (Frm.refl _ w).alloc _
  have HM := Lib.hid (h.keep0 F0)
  have HF0 := Lib.hid F0
  have bx := Lib.hid (Blk.new w 25 #[.int .i64 m.letters, .int .i64 m.start, .slice A1 m.next.length c1, .slice A2 m.fin.length c2])
  have HSZ := Lib.hid hs
  have hn := hs.1
  unfold maxLen at hn
  have HX : Hid (A.valid m = if A.fits m then (if 300 < m.letters ∨ 4000 < m.next.length then 5 else 0) else 1) := rfl
  clear h F0 hs
  have y0 := bx.out.cell 0
  have y1 := bx.out.cell 1
  have y2 := bx.out.cell 2
  have y3 := bx.out.cell 3
  go_enter Try.func11, Try.ntmps11
  go_wp2_with fail
  refine (shaped_any HM.out HSZ.out).mono ?_
  rintro _ w1 ⟨rfl, f1⟩
  have F1 := Lib.hid (HF0.out.trans f1)
  have x0 := (f1.blk bx.out id).cell 0
  have x2 := (f1.blk bx.out id).cell 2
  clear f1 y0 y1 y2 y3
  cases hf : A.fits m
  · have HY : Hid (A.valid m = 1) := show _ = _ by rw [HX.out, hf]; rfl
    clear hf
    go_wp2_with fail
    go_ret
    exact ⟨ret_int HY.out.symm, F1.out⟩
  · by_cases h1 : 300 < m.letters
    · have HY : Hid (A.valid m = 5) := show _ = _ by rw [HX.out, hf]; simp [h1]
      clear hf
      go_wp2_with fail
      go_ret
      exact ⟨ret_int HY.out.symm, by first | exact F1.out | exact F1.out.drew⟩
    · have h1' : m.letters ≤ 300 := by omega
      by_cases h2 : 4000 < m.next.length
      · have h2' : (4000 : Int) < (m.next.length : Int) := by omega
        have HY : Hid (A.valid m = 5) := show _ = _ by rw [HX.out, hf]; simp [h2]
        clear hf
        go_wp2_with fail
        go_ret
        exact ⟨ret_int HY.out.symm, by first | exact F1.out | exact F1.out.drew⟩
      · have h2' : (m.next.length : Int) ≤ 4000 := by omega
        have HY : Hid (A.valid m = 0) := show _ = _ by rw [HX.out, hf]; simp [h1, h2]
        clear hf
        go_wp2_with fail
        go_ret
        exact ⟨ret_int HY.out.symm, by first | exact F1.out | exact F1.out.drew⟩
end Go.Proofs.Ytmoniecknimmdaa
end
section
namespace Go.Proofs.Ytmoniecknimmdaa
open Go.RowKit
section
variable {P : Program} {Q : Exit → Act → World → Prop}
theorem getD_setB {l : Array Bool} {i j : Nat} {d : Bool} (h : i < l.size) : (l.setIfInBounds i true).getD j d = if i = j then true else l.getD j d := by
  simp only [Array.getD_eq_getD_getElem?, Array.getElem?_setIfInBounds, h, if_true]
  split <;> simp
theorem count_setB {l : Array Bool} {i : Nat} (h : i < l.size) (hf : l.getD i true = false) : (l.setIfInBounds i true).toList.count false + 1 = l.toList.count false := by
  have h' : i < l.toList.length := by simpa using h
  have e : l.toList[i] = false := by simpa [h] using hf
  rw [Array.toList_setIfInBounds, List.count_set h', e]
  have : 0 < l.toList.count false := List.count_pos_iff.2 (e ▸ List.getElem_mem h')
  rw [if_pos (by rfl), if_neg (by decide)]
  omega
theorem getD_setV {l : Array Value} {i j : Nat} {v d : Value} (h : i < l.size) : (l.setIfInBounds i v).getD j d = if i = j then v else l.getD j d := by
  simp only [Array.getD_eq_getD_getElem?, Array.getElem?_setIfInBounds, h, if_true]
  split <;> simp
theorem fold_set (d : Nat → Nat) (vs : Nat → Value) (t0 : Array Value) : ∀ n, ((List.range n).foldl (fun t i => t.setIfInBounds (d i) (vs i)) t0).size = t0.size ∧ ((∀ i < n, d i < t0.size) → (∀ i < n, ∀ j < n, d i = d j → i = j) → (∀ i < n, ((List.range n).foldl (fun t i => t.setIfInBounds (d i) (vs i)) t0).getD (d i) undef = vs i) ∧ ∀ t, (∀ j < n, d j ≠ t) → ((List.range n).foldl (fun t i => t.setIfInBounds (d i) (vs i)) t0).getD t undef = t0.getD t undef)
  | 0 => ⟨rfl, fun _ _ => ⟨fun _ h => absurd h (by omega), fun _ _ => rfl⟩⟩
  | n + 1 => by
    obtain ⟨h1, h2⟩ := fold_set d vs t0 n
    rw [List.range_succ, List.foldl_append, List.foldl_cons, List.foldl_nil]
    refine ⟨by rw [Array.size_setIfInBounds, h1], fun hl hi => ?_⟩
    obtain ⟨h3, h4⟩ := h2 (fun i h => hl i (by omega)) (fun i h j h' => hi i (by omega) j (by omega))
    refine ⟨fun i h => ?_, fun t ht => ?_⟩
    · rw [getD_setV (by rw [h1]; exact hl n (by omega))]
      by_cases e : d n = d i
      · rw [if_pos e, hi n (by omega) i h e]
      · rw [if_neg e]
        have : i ≠ n := fun h' => e (by rw [h'])
        exact h3 i (by omega)
    · rw [getD_setV (by rw [h1]; exact hl n (by omega)), if_neg (ht n (by omega))]
      exact h4 t (fun j hj => ht j (by omega))
theorem fold_self {n : Nat} {d : Nat → Nat} {t0 tm : Array Value} (hlt : ∀ i < n, d i < t0.size) (hinj : ∀ i < n, ∀ j < n, d i = d j → i = j) (ht : tm.size = t0.size) (hu : ∀ t, (∀ j < n, d j ≠ t) → tm.getD t undef = t0.getD t undef) : (List.range n).foldl (fun t i => t.setIfInBounds (d i) (tm.getD (d i) undef)) t0 = tm := by
  obtain ⟨h2, h3⟩ := fold_set d (fun i => tm.getD (d i) undef) t0 n
  obtain ⟨h4, h5⟩ := h3 hlt hinj
  apply Array.ext
  · rw [h2, ht]
  · intro t ha hb
    have e1 : ∀ (A : Array Value) (h : t < A.size), A[t] = A.getD t undef := fun A h => by simp [h]
    rw [e1, e1]
    by_cases hj : ∃ j, j < n ∧ d j = t
    · obtain ⟨j, hj, rfl⟩ := hj
      exact h4 j hj
    · have hj' : ∀ j < n, d j ≠ t := fun j h e => hj ⟨j, h, e⟩
      rw [h5 t hj', hu t hj']
theorem wp_region_facts {id : Nat} {a0 : Act} {w0 : World} {ops : Array Oper} (d : Nat → Nat) (fact : Nat → Value → World → Prop) (R : World → World → Prop)
    (hm : P.follows .mixedOrders = true) (hd : ∀ i (h : i < ops.size), ops[i].dst = some (d i)) (hinj : ∀ i < ops.size, ∀ j < ops.size, d i = d j → i = j) (hlt : ∀ i < ops.size, d i < a0.tmps.size)
    (haf : ∀ i (h : i < ops.size), ∀ e ∈ ops[i].after, e.on < i ∧ Region.binds .any e = true)
    (hRt : ∀ a b c, R a b → R b c → R a c) (hst : ∀ i v w w', fact i v w → R w w' → fact i v w')
    (hg : ∀ i (h : i < ops.size) j b, ops[i].guard = some (j, b) → (∃ e ∈ ops[i].after, e.on = j) ∧ ∀ v w, fact j v w → v = .bool b)
    (h0 : R w0 { w0 with drawn := w0.drawn + 1 })
    (hstep : ∀ i (h : i < ops.size) (tm : Array Value) w, tm.size = a0.tmps.size → R w0 w → (∀ t, (∀ j < ops.size, d j ≠ t) → tm.getD t undef = a0.tmps.getD t undef) → (∀ e ∈ ops[i].after, fact e.on (tm.getD (d e.on) undef) w) →
      ops[i].wp P ⟨tm, a0.defers⟩ w (fun a' w' => ∃ v, a' = Act.put ⟨tm, a0.defers⟩ (some (d i)) v ∧ fact i v w' ∧ R w w') Q)
    (hend : ∀ (vs : Nat → Value) w, R w0 w → (∀ i < ops.size, fact i (vs i) w) → Q .normal ⟨(List.range ops.size).foldl (fun t i => t.setIfInBounds (d i) (vs i)) a0.tmps, a0.defers⟩ w) :
    (Code.region id ops true).wp P Q a0 w0 := by
  refine wp_region_any hm ?_
  have key : ∀ (fuel : Nat) (listed : Array Bool) (tm : Array Value) (w : World), listed.size = ops.size → listed.toList.count false ≤ fuel → tm.size = a0.tmps.size → R w0 w → (∀ t, (∀ j < ops.size, d j ≠ t) → tm.getD t undef = a0.tmps.getD t undef) → (∀ j < ops.size, listed.getD j true = true → fact j (tm.getD (d j) undef) w) → wpAny P .any ops Q fuel listed ⟨tm, a0.defers⟩ w := by
    have hall : ∀ (listed : Array Bool), listed.size = ops.size → Region.ready .any ops listed = [] → ∀ j < ops.size, listed.getD j true = true := by
      intro listed hs hr j
      induction j using Nat.strongRecOn with
      | _ j ih =>
        intro hj
        rcases hb : listed.getD j true with _ | _
        · exfalso
          have : j ∈ Region.ready .any ops listed := mem_ready.2 ⟨hb, ops[j], by simp [hj], fun e he _ => by
            have h1 := (haf j hj e he).1
            have h2 := ih e.on h1 (by omega)
            have h3 : e.on < listed.size := by omega
            simpa [h3] using h2⟩
          rw [hr] at this
          cases this
        · rfl
    have fin : ∀ (listed : Array Bool) (tm : Array Value) (w : World), listed.size = ops.size → tm.size = a0.tmps.size → R w0 w → (∀ t, (∀ j < ops.size, d j ≠ t) → tm.getD t undef = a0.tmps.getD t undef) → (∀ j < ops.size, listed.getD j true = true → fact j (tm.getD (d j) undef) w) → Region.ready .any ops listed = [] → Q .normal ⟨tm, a0.defers⟩ w := by
      intro listed tm w hs ht hR hu hf hr
      have hl := hall listed hs hr
      have h1 := hend (fun i => tm.getD (d i) undef) w hR (fun i hi => hf i hi (hl i hi))
      rw [fold_self hlt hinj ht hu] at h1
      exact h1
    intro fuel
    induction fuel with
    | zero =>
      intro listed tm w hs hc ht hR hu hf
      have hr : Region.ready .any ops listed = [] := by
        apply List.eq_nil_iff_forall_not_mem.2
        intro i hi
        obtain ⟨hb, o, ho, _⟩ := mem_ready.1 hi
        have hi' : i < ops.size := by
          rcases Nat.lt_or_ge i ops.size with h | h
          · exact h
          · rw [Array.getElem?_eq_none h] at ho; cases ho
        have := count_setB (l := listed) (i := i) (by omega) hb
        omega
      exact ⟨hr, fin listed tm w hs ht hR hu hf hr⟩
    | succ fuel ih =>
      intro listed tm w hs hc ht hR hu hf
      refine ⟨fun hr => fin listed tm w hs ht hR hu hf hr, fun i hi => ?_⟩
      obtain ⟨hb, o, ho, hall'⟩ := mem_ready.1 hi
      have hi' : i < ops.size := by
        rcases Nat.lt_or_ge i ops.size with h | h
        · exact h
        · rw [Array.getElem?_eq_none h] at ho; cases ho
      have heo : ops[i] = o := by rw [Array.getElem?_eq_getElem hi'] at ho; exact Option.some.inj ho
      have hdep : ∀ e ∈ ops[i].after, listed.getD e.on true = true := fun e he => by
        have h1 := haf i hi' e he
        have h2 := hall' e (heo ▸ he) h1.2
        have h3 : e.on < listed.size := by omega
        simpa [h3] using h2
      have hfd : ∀ e ∈ ops[i].after, fact e.on (tm.getD (d e.on) undef) w := fun e he => hf e.on (by have := haf i hi' e he; omega) (hdep e he)
      have hw : Region.wanted ops[i] (yielded ops tm) = true := by
        unfold Region.wanted
        rcases hgu : ops[i].guard with _ | ⟨j, b⟩
        · rfl
        · obtain ⟨⟨e, he, rfl⟩, h2⟩ := hg i hi' j b hgu
          have h3 := h2 _ _ (hfd e he)
          have h4 : e.on < ops.size := by have := haf i hi' e he; omega
          have h5 : yielded ops tm e.on = some b := by
            unfold yielded
            have h6 : d e.on < tm.size := by rw [ht]; exact hlt _ h4
            have h7 : tm[d e.on] = .bool b := by rw [← h3]; simp [h6]
            rw [Array.getElem?_eq_getElem h4, Option.bind_some, hd _ h4, Option.bind_some, Array.getElem?_eq_getElem h6, h7]
          simp only [h5, beq_self_eq_true]
      unfold wpOp
      rw [Array.getElem?_eq_getElem hi']
      dsimp only
      rw [if_pos hw]
      refine .inl (Oper.wp_mono (fun a' w' h' => ?_) (hstep i hi' tm w ht hR hu hfd))
      obtain ⟨v, rfl, hv, hR'⟩ := h'
      have hdi := hlt i hi'
      rw [← ht] at hdi
      refine ih (listed.setIfInBounds i true) (tm.setIfInBounds (d i) v) w' (by simpa using hs) ?_ (by simpa using ht) (hRt _ _ _ hR hR') ?_ ?_
      · have := count_setB (l := listed) (i := i) (by omega) hb
        omega
      · intro t h
        rw [getD_setV hdi, if_neg (h i hi')]
        exact hu t h
      · intro j hj hl
        rw [getD_setV hdi]
        by_cases e : d i = d j
        · rw [if_pos e]
          have := hinj i hi' j hj e
          subst this
          exact hv
        · rw [if_neg e]
          have hij : i ≠ j := fun h => e (by rw [h])
          rw [getD_setB (by omega), if_neg hij] at hl
          exact hst _ _ _ _ (hf j hj hl) hR'
  refine key ops.size _ a0.tmps _ (by simp) (by simp) rfl h0 (fun _ _ => rfl) (fun j hj hl => ?_)
  simp [hj] at hl
/-- Of each operation of a list, by its number. -/
def Each (S : Nat → Oper → Prop) : Nat → List Oper → Prop
  | _, [] => True
  | i, o :: r => S i o ∧ Each S (i + 1) r
theorem Each.get {S : Nat → Oper → Prop} : ∀ {l : List Oper} {k i : Nat} {o : Oper}, Each S k l → l[i]? = some o → S (k + i) o
  | [], _, _, _, _, h => by simp at h
  | a :: l, k, 0, o, he, h => by
    simp only [List.getElem?_cons_zero, Option.some.injEq] at h
    exact h ▸ he.1
  | a :: l, k, i + 1, o, he, h => by
    have := Each.get he.2 (by simpa using h : l[i]? = some o)
    rwa [show k + (i + 1) = k + 1 + i by omega]
def putAll (n : Nat) (d : Nat → Nat) (vs : Nat → Value) (t : Array Value) : Array Value := (List.range n).foldl (fun t i => t.setIfInBounds (d i) (vs i)) t
def factsB (ops : Array Oper) (d : Nat → Nat) (n : Nat) (gs : List (Nat × Bool)) : Bool :=
  (List.range ops.size).all fun i => match ops[i]? with
    | none => false
    | some o => (match o.dst with | some x => x == d i | none => false) && decide (d i < n) && ((List.range ops.size).all fun j => d i != d j || i == j) && (o.after.all fun e => decide (e.on < i) && Region.binds .any e) && (match o.guard with | none => true | some g => gs.contains g && o.after.any fun e => e.on == g.1)
theorem wp_region_told {id : Nat} {a0 : Act} {w0 : World} {ops : Array Oper} (d : Nat → Nat) (fact : Nat → Value → World → Prop) (R : World → World → Prop) (gs : List (Nat × Bool))
    (hm : P.follows .mixedOrders = true) (hB : factsB ops d a0.tmps.size gs = true) (hRt : ∀ a b c, R a b → R b c → R a c) (hst : ∀ i v w w', fact i v w → R w w' → fact i v w')
    (hg : ∀ g ∈ gs, ∀ v w, fact g.1 v w → v = .bool g.2) (h0 : R w0 { w0 with drawn := w0.drawn + 1 })
    (hstep : Each (fun i o => ∀ (vs : Nat → Value) w, R w0 w → (∀ j, (o.after.any fun e => e.on == j) = true → fact j (vs j) w) →
      o.wp P ⟨putAll ops.size d vs a0.tmps, a0.defers⟩ w (fun a' w' => ∃ v, a' = Act.put ⟨putAll ops.size d vs a0.tmps, a0.defers⟩ o.dst v ∧ fact i v w' ∧ R w w') Q) 0 ops.toList)
    (hend : ∀ (vs : Nat → Value) w, R w0 w → (∀ i < ops.size, fact i (vs i) w) → Q .normal ⟨putAll ops.size d vs a0.tmps, a0.defers⟩ w) : (Code.region id ops true).wp P Q a0 w0 := by
  unfold factsB at hB
  rw [List.all_eq_true] at hB
  have hB' : ∀ i (h : i < ops.size), (match ops[i].dst with | some x => x == d i | none => false) = true ∧ d i < a0.tmps.size ∧ (∀ j < ops.size, d i = d j → i = j) ∧ (∀ e ∈ ops[i].after, e.on < i ∧ Region.binds .any e = true) ∧ (match ops[i].guard with | none => true | some g => gs.contains g && ops[i].after.any fun e => e.on == g.1) = true := fun i h => by
    have h1 := hB i (List.mem_range.2 h)
    rw [Array.getElem?_eq_getElem h] at h1
    simp only [Bool.and_eq_true, decide_eq_true_eq, List.all_eq_true, List.mem_range, Bool.or_eq_true, bne_iff_ne, beq_iff_eq, Array.all_eq_true_iff_forall_mem] at h1
    obtain ⟨⟨⟨⟨h2, h3⟩, h4⟩, h5⟩, h6⟩ := h1
    exact ⟨h2, h3, fun j hj e => (h4 j hj).elim (fun h => absurd e h) (fun h => h), h5, h6⟩
  have hd : ∀ i (h : i < ops.size), ops[i].dst = some (d i) := fun i h => by
    have h1 := (hB' i h).1
    split at h1
    · rename_i x hx
      rw [hx, beq_iff_eq.1 h1]
    · cases h1
  have hlt : ∀ i < ops.size, d i < a0.tmps.size := fun i h => (hB' i h).2.1
  have hinj : ∀ i < ops.size, ∀ j < ops.size, d i = d j → i = j := fun i h => (hB' i h).2.2.1
  refine wp_region_facts d fact R hm hd hinj hlt (fun i h => (hB' i h).2.2.2.1) hRt hst (fun i h j b hgu => ?_) h0 (fun i h tm w ht hR hu hf => ?_) hend
  · have h1 := (hB' i h).2.2.2.2
    rw [hgu] at h1
    simp only [Bool.and_eq_true, List.contains_iff_mem] at h1
    obtain ⟨e, he, he'⟩ := Array.any_eq_true'.1 h1.2
    exact ⟨⟨e, he, by simpa using he'⟩, fun v w hv => hg _ h1.1 v w hv⟩
  · have h1 := Each.get hstep (i := i) (o := ops[i]) (by simp [h]) (fun j => tm.getD (d j) undef) w hR (fun j hj => by
      obtain ⟨e, he, he'⟩ := Array.any_eq_true'.1 hj
      have := hf e he
      rwa [show e.on = j by simpa using he'] at this)
    unfold putAll at h1
    rw [fold_self hlt hinj ht hu, Nat.zero_add, hd i h] at h1
    exact h1
/-- No fact. -/
def noF : Value → World → Prop := fun _ _ => False
/-- The law as a walk uses it: the slots and the facts as lists, what the walk knows of the other slots, each operation at whatever frame. -/
theorem wp_region_list {id : Nat} {a0 : Act} {w0 : World} {ops : Array Oper} (ds : List Nat) (L : List (Value → World → Prop)) (R : World → World → Prop) (gs : List (Nat × Bool)) (fix : List (Nat × Value))
    (hm : P.follows .mixedOrders = true) (hB : (factsB ops (fun i => ds.getD i 0) a0.tmps.size gs && decide (ds.length = ops.size) && decide (L.length = ops.size)) = true) (hRt : ∀ a b c, R a b → R b c → R a c) (hst : ∀ f ∈ L, ∀ v w w', f v w → R w w' → f v w')
    (hg : ∀ g ∈ gs, ∀ v w, L.getD g.1 noF v w → v = .bool g.2) (h0 : R w0 { w0 with drawn := w0.drawn + 1 }) (hfix : ∀ x ∈ fix, x.1 ∉ ds ∧ a0.tmps[x.1]?.getD undef = x.2)
    (hstep : Each (fun i o => ∀ (Q : Exit → Act → World → Prop) (tm : Array Value) (df : List Deferred) w, R w0 w → (∀ x ∈ fix, tm[x.1]?.getD undef = x.2) → (∀ j, (o.after.any fun e => e.on == j) = true → L.getD j noF (tm[ds.getD j 0]?.getD undef) w) →
      o.wp P ⟨tm, df⟩ w (fun a' w' => ∃ v, a' = Act.put ⟨tm, df⟩ o.dst v ∧ L.getD i noF v w' ∧ R w w') Q) 0 ops.toList)
    (hend : ∀ (vs : Nat → Value) w, R w0 w → (∀ i < ops.size, L.getD i noF (vs i) w) → Q .normal ⟨putAll ops.size (fun i => ds.getD i 0) vs a0.tmps, a0.defers⟩ w) : (Code.region id ops true).wp P Q a0 w0 := by
  simp only [Bool.and_eq_true, decide_eq_true_eq] at hB
  obtain ⟨⟨hB1, hB2⟩, hB3⟩ := hB
  have hst' : ∀ i v w w', L.getD i noF v w → R w w' → L.getD i noF v w' := fun i v w w' h F => by
    by_cases hi : i < L.length
    · have e : L.getD i noF = L[i] := by simp [hi]
      rw [e] at h ⊢
      exact hst _ (List.getElem_mem hi) v w w' h F
    · have e : L.getD i noF = noF := by simp [Nat.le_of_not_lt hi]
      rw [e] at h
      exact h.elim
  refine wp_region_told (fun i => ds.getD i 0) (fun i => L.getD i noF) R gs hm hB1 hRt hst' hg h0 ?_ hend
  have key : ∀ (l : List Oper) (k : Nat), Each (fun i o => ∀ (Q : Exit → Act → World → Prop) (tm : Array Value) (df : List Deferred) w, R w0 w → (∀ x ∈ fix, tm[x.1]?.getD undef = x.2) → (∀ j, (o.after.any fun e => e.on == j) = true → L.getD j noF (tm[ds.getD j 0]?.getD undef) w) →
      o.wp P ⟨tm, df⟩ w (fun a' w' => ∃ v, a' = Act.put ⟨tm, df⟩ o.dst v ∧ L.getD i noF v w' ∧ R w w') Q) k l → (∀ o ∈ l, ∃ i, ∃ h : i < ops.size, ops[i] = o) → Each (fun i o => ∀ (vs : Nat → Value) w, R w0 w → (∀ j, (o.after.any fun e => e.on == j) = true → L.getD j noF (vs j) w) →
      o.wp P ⟨putAll ops.size (fun i => ds.getD i 0) vs a0.tmps, a0.defers⟩ w (fun a' w' => ∃ v, a' = Act.put ⟨putAll ops.size (fun i => ds.getD i 0) vs a0.tmps, a0.defers⟩ o.dst v ∧ L.getD i noF v w' ∧ R w w') Q) k l := by
    have hall : ∀ (vs : Nat → Value), (∀ i < ops.size, (putAll ops.size (fun i => ds.getD i 0) vs a0.tmps).getD (ds.getD i 0) undef = vs i) ∧ ∀ t, t ∉ ds → (putAll ops.size (fun i => ds.getD i 0) vs a0.tmps).getD t undef = a0.tmps.getD t undef := fun vs => by
      have hB' := hB1
      unfold factsB at hB'
      rw [List.all_eq_true] at hB'
      have h1 : (∀ i < ops.size, ds.getD i 0 < a0.tmps.size) ∧ ∀ i < ops.size, ∀ j < ops.size, ds.getD i 0 = ds.getD j 0 → i = j := by
        refine ⟨fun i hi => ?_, fun i hi j hj e => ?_⟩
        · have h1 := hB' i (List.mem_range.2 hi)
          rw [Array.getElem?_eq_getElem hi] at h1
          simp only [Bool.and_eq_true, decide_eq_true_eq] at h1
          exact h1.1.1.1.2
        · have h1 := hB' i (List.mem_range.2 hi)
          rw [Array.getElem?_eq_getElem hi] at h1
          simp only [Bool.and_eq_true, List.all_eq_true, List.mem_range, Bool.or_eq_true, bne_iff_ne, beq_iff_eq] at h1
          exact (h1.1.1.2 j hj).elim (fun h => absurd e h) (fun h => h)
      obtain ⟨_, h2⟩ := fold_set (fun i => ds.getD i 0) vs a0.tmps ops.size
      obtain ⟨h3, h4⟩ := h2 h1.1 h1.2
      refine ⟨h3, fun t ht => h4 t fun j hj e => ht ?_⟩
      have : j < ds.length := by omega
      have e2 : ds.getD j 0 = ds[j] := by simp [this]
      rw [e2] at e
      exact e ▸ List.getElem_mem this
    intro l
    induction l with
    | nil => intro k _ _; trivial
    | cons o r ih =>
      intro k h hl
      refine ⟨fun vs w hR hd => ?_, ih (k + 1) h.2 fun o' ho' => hl o' (List.mem_cons_of_mem _ ho')⟩
      obtain ⟨h3, h4⟩ := hall vs
      refine h.1 Q (putAll ops.size (fun i => ds.getD i 0) vs a0.tmps) a0.defers w hR (fun x hx => ?_) fun j hj => ?_
      · obtain ⟨h5, h6⟩ := hfix x hx
        have := h4 x.1 h5
        simp only [Array.getD_eq_getD_getElem?] at this
        rw [this, h6]
      · have hj2 : j < ops.size := by
          obtain ⟨i, hi, rfl⟩ := hl o List.mem_cons_self
          have hB' := hB1
          unfold factsB at hB'
          rw [List.all_eq_true] at hB'
          have h1 := hB' i (List.mem_range.2 hi)
          rw [Array.getElem?_eq_getElem hi] at h1
          simp only [Bool.and_eq_true, Array.all_eq_true_iff_forall_mem, decide_eq_true_eq] at h1
          obtain ⟨e, he, he'⟩ := Array.any_eq_true'.1 hj
          have := (h1.1.2 e he).1
          have he'' : e.on = j := by simpa using he'
          omega
        have := h3 j hj2
        simp only [Array.getD_eq_getD_getElem?] at this
        rw [this]
        exact hd j hj
  exact key _ _ hstep fun o ho => by
    obtain ⟨i, hi, e⟩ := List.getElem_of_mem ho
    exact ⟨i, by simpa using hi, by simpa using e⟩
end
end Go.Proofs.Ytmoniecknimmdaa
end
section
namespace Go.Proofs.Ytmoniecknimmdaa
open Go.RowKit
section
variable {P : Program} {Q : Exit → Act → World → Prop}
def noL : List Value → World → Prop := fun _ _ => False
def f1 (g : Value → World → Prop) : List Value → World → Prop := fun l w => g (l.getD 0 undef) w
def f2 (g : Value → Value → World → Prop) : List Value → World → Prop := fun l w => g (l.getD 0 undef) (l.getD 1 undef) w
def valAt (ds : List Nat) (tm : Array Value) (k : Nat) : Value := tm[ds.getD k 0]?.getD undef
def updV (vs : Nat → Value) (i : Nat) (v : Value) : Nat → Value := fun k => if k = i then v else vs k
def depB (ops : Array Oper) (ds : List Nat) (D : List (List Nat)) (n : Nat) (gs : List (Nat × Bool)) : Bool :=
  (List.range ops.size).all fun i => match ops[i]? with
    | none => false
    | some o => (match o.dst with | some x => x == ds.getD i 0 && decide (x < n) | none => decide (n ≤ ds.getD i 0)) && ((List.range ops.size).all fun j => ds.getD i 0 != ds.getD j 0 || i == j || decide (n ≤ ds.getD i 0)) && (o.after.all fun e => decide (e.on < i) && Region.binds .any e) && (match o.guard with | none => true | some g => gs.contains g && o.after.any fun e => e.on == g.1) && ((D.getD i []).all fun k => k == i || o.after.any fun e => (D.getD e.on []).contains k)
theorem wp_region_dep {id : Nat} {a0 : Act} {w0 : World} {ops : Array Oper} (ds : List Nat) (D : List (List Nat)) (F : List (List Value → World → Prop)) (R : World → World → Prop) (Rr : Nat → World → World → Prop) (Sx : Nat → World → Prop) (gs : List (Nat × Bool)) (fix : List (Nat × Value))
    (hm : P.follows .mixedOrders = true) (hB : (depB ops ds D a0.tmps.size gs && decide (ds.length = ops.size) && decide (F.length = ops.size)) = true) (hRt : ∀ a b c, R a b → R b c → R a c) (hRr : ∀ i a b, Rr i a b → R a b)
    (hst : ∀ j i (hj : j < ops.size), i < ops.size → i ≠ j → (ops[j].after.any fun e => e.on == i) = false → ∀ l w w', F.getD j noL l w → Rr i w w' → F.getD j noL l w')
    (hSs : ∀ i k (hk : k < ops.size), i ≠ k → (ops[k].after.any fun e => e.on == i) = false → ∀ w w', Sx i w → Rr k w w' → Sx i w') (hS0 : ∀ i, Sx i { w0 with drawn := w0.drawn + 1 })
    (hg : ∀ g ∈ gs, D.getD g.1 [] = [g.1] ∧ ∀ v w, F.getD g.1 noL [v] w → v = .bool g.2) (h0 : R w0 { w0 with drawn := w0.drawn + 1 }) (hfix : ∀ x ∈ fix, x.1 ∉ ds ∧ a0.tmps[x.1]?.getD undef = x.2)
    (hstep : Each (fun i o => ∀ (Q : Exit → Act → World → Prop) (tm : Array Value) (df : List Deferred) w, R w0 w → Sx i w → (∀ x ∈ fix, tm[x.1]?.getD undef = x.2) → (∀ j, (o.after.any fun e => (D.getD e.on []).contains j) = true → F.getD j noL ((D.getD j []).map (valAt ds tm)) w) →
      o.wp P ⟨tm, df⟩ w (fun a' w' => ∃ v, a' = Act.put ⟨tm, df⟩ o.dst v ∧ (o.dst = none → v = undef) ∧ F.getD i noL ((D.getD i []).map (updV (valAt ds tm) i v)) w' ∧ Rr i w w') Q) 0 ops.toList)
    (hend : ∀ (vs : Nat → Value) w, R w0 w → (∀ i < ops.size, F.getD i noL ((D.getD i []).map vs) w) → Q .normal ⟨putAll ops.size (fun i => ds.getD i 0) vs a0.tmps, a0.defers⟩ w) : (Code.region id ops true).wp P Q a0 w0 := by
  simp only [Bool.and_eq_true, decide_eq_true_eq] at hB
  obtain ⟨⟨hB1, hB2⟩, hB3⟩ := hB
  unfold depB at hB1
  rw [List.all_eq_true] at hB1
  have hB' : ∀ i (h : i < ops.size), (match ops[i].dst with | some x => x == ds.getD i 0 && decide (x < a0.tmps.size) | none => decide (a0.tmps.size ≤ ds.getD i 0)) = true ∧ (∀ j < ops.size, ds.getD i 0 = ds.getD j 0 → i = j ∨ a0.tmps.size ≤ ds.getD i 0) ∧ (∀ e ∈ ops[i].after, e.on < i ∧ Region.binds .any e = true) ∧ (match ops[i].guard with | none => true | some g => gs.contains g && ops[i].after.any fun e => e.on == g.1) = true ∧ ∀ k ∈ D.getD i [], k = i ∨ ∃ e ∈ ops[i].after, k ∈ D.getD e.on [] := fun i h => by
    have h1 := hB1 i (List.mem_range.2 h)
    rw [Array.getElem?_eq_getElem h] at h1
    simp only [Bool.and_eq_true, decide_eq_true_eq, List.all_eq_true, List.mem_range, Bool.or_eq_true, bne_iff_ne, beq_iff_eq, Array.all_eq_true_iff_forall_mem] at h1
    obtain ⟨⟨⟨⟨h2, h3⟩, h4⟩, h5⟩, h6⟩ := h1
    refine ⟨h2, fun j hj e => ?_, h4, h5, fun k hk => ?_⟩
    · rcases h3 j hj with (h | h) | h
      · exact absurd e h
      · exact .inl h
      · exact .inr h
    · rcases h6 k hk with h | h
      · exact .inl h
      · obtain ⟨e, he, he'⟩ := Array.any_eq_true'.1 h
        exact .inr ⟨e, he, by simpa using he'⟩
  clear hB1
  have hmem : ∀ i, i < ops.size → ds.getD i 0 ∈ ds := fun i hi => by
    have : i < ds.length := by omega
    have e : ds.getD i 0 = ds[i] := by simp [this]
    rw [e]
    exact List.getElem_mem this
  refine wp_region_any hm ?_
  have hall : ∀ (listed : Array Bool), listed.size = ops.size → Region.ready .any ops listed = [] → ∀ j < ops.size, listed.getD j true = true := by
    intro listed hs hr j
    induction j using Nat.strongRecOn with
    | _ j ih =>
      intro hj
      rcases hb : listed.getD j true with _ | _
      · exfalso
        have : j ∈ Region.ready .any ops listed := mem_ready.2 ⟨hb, ops[j], by simp [hj], fun e he _ => by
          have h1 := ((hB' j hj).2.2.1 e he).1
          have h2 := ih e.on h1 (by omega)
          have h3 : e.on < listed.size := by omega
          simpa [h3] using h2⟩
        rw [hr] at this
        cases this
      · rfl
  have fin : ∀ (listed : Array Bool) (tm : Array Value) (w : World), listed.size = ops.size → tm.size = a0.tmps.size → R w0 w → (∀ t, t ∉ ds → tm.getD t undef = a0.tmps.getD t undef) → (∀ j < ops.size, listed.getD j true = true → F.getD j noL ((D.getD j []).map (valAt ds tm)) w) → Region.ready .any ops listed = [] → Q .normal ⟨tm, a0.defers⟩ w := by
    intro listed tm w hs ht hR hu hf hr
    have hl := hall listed hs hr
    have h1 := hend (valAt ds tm) w hR fun i hi => hf i hi (hl i hi)
    have h2 : putAll ops.size (fun i => ds.getD i 0) (valAt ds tm) a0.tmps = tm := by
      have gen : ∀ n, n ≤ ops.size → (putAll n (fun i => ds.getD i 0) (valAt ds tm) a0.tmps).size = a0.tmps.size ∧ ∀ t, t < a0.tmps.size → (putAll n (fun i => ds.getD i 0) (valAt ds tm) a0.tmps).getD t undef = if (∃ j, j < n ∧ ds.getD j 0 = t) then tm.getD t undef else a0.tmps.getD t undef := by
        intro n
        induction n with
        | zero => intro _; exact ⟨rfl, fun t ht => by rw [if_neg (fun ⟨j, h, _⟩ => absurd h (by omega))]; rfl⟩
        | succ n ih =>
          intro hn
          obtain ⟨i1, i2⟩ := ih (by omega)
          unfold putAll at i1 i2 ⊢
          rw [List.range_succ, List.foldl_append, List.foldl_cons, List.foldl_nil]
          refine ⟨by rw [Array.size_setIfInBounds, i1], fun t ht' => ?_⟩
          dsimp only at i1 i2 ⊢
          by_cases hd : ds.getD n 0 = t
          · rw [hd, getD_setV (by rw [i1]; exact ht'), if_pos rfl, if_pos ⟨n, by omega, hd⟩]
            unfold valAt
            rw [hd, Array.getD_eq_getD_getElem?]
          · have e1 : ∀ (A : Array Value) (v : Value), (A.setIfInBounds (ds.getD n 0) v).getD t undef = A.getD t undef := fun A v => by
              simp only [Array.getD_eq_getD_getElem?, Array.getElem?_setIfInBounds]
              rw [if_neg hd]
            rw [e1, i2 t ht']
            congr 1
            apply propext
            constructor
            · rintro ⟨j, hj, e⟩; exact ⟨j, by omega, e⟩
            · rintro ⟨j, hj, e⟩
              exact ⟨j, by
                rcases Nat.lt_or_ge j n with h | h
                · exact h
                · have : j = n := by omega
                  rw [this] at e
                  exact absurd e hd, e⟩
      obtain ⟨g1, g2⟩ := gen ops.size (Nat.le_refl _)
      apply Array.ext
      · rw [g1, ht]
      · intro t ha hb
        have e1 : ∀ (A : Array Value) (h : t < A.size), A[t] = A.getD t undef := fun A h => by simp [h]
        rw [e1 _ ha, e1 _ hb, g2 t (by omega)]
        by_cases hne : ∃ j, j < ops.size ∧ ds.getD j 0 = t
        · rw [if_pos hne]
        · rw [if_neg hne]
          refine (hu t fun hmem => hne ?_).symm
          obtain ⟨j, hj, e⟩ := List.getElem_of_mem hmem
          exact ⟨j, by omega, by simp [hj, e]⟩
    rw [h2] at h1
    exact h1
  have key : ∀ (fuel : Nat) (listed : Array Bool) (tm : Array Value) (w : World), listed.size = ops.size → listed.toList.count false ≤ fuel → tm.size = a0.tmps.size → R w0 w → (∀ t, t ∉ ds → tm.getD t undef = a0.tmps.getD t undef) → (∀ j < ops.size, listed.getD j true = true → F.getD j noL ((D.getD j []).map (valAt ds tm)) w) → (∀ j < ops.size, listed.getD j true = true → ∀ k ∈ D.getD j [], k < ops.size ∧ listed.getD k true = true) → (∀ j (hj : j < ops.size), listed.getD j true = true → ∀ e ∈ ops[j].after, listed.getD e.on true = true) → (∀ j < ops.size, listed.getD j true = false → Sx j w) → wpAny P .any ops Q fuel listed ⟨tm, a0.defers⟩ w := by
    intro fuel
    induction fuel with
    | zero =>
      intro listed tm w hs hc ht hR hu hf hl hla hsx
      have hr : Region.ready .any ops listed = [] := by
        apply List.eq_nil_iff_forall_not_mem.2
        intro i hi
        obtain ⟨hb, o, ho, _⟩ := mem_ready.1 hi
        have hi' : i < ops.size := by
          rcases Nat.lt_or_ge i ops.size with h | h
          · exact h
          · rw [Array.getElem?_eq_none h] at ho; cases ho
        have := count_setB (l := listed) (i := i) (by omega) hb
        omega
      exact ⟨hr, fin listed tm w hs ht hR hu hf hr⟩
    | succ fuel ih =>
      intro listed tm w hs hc ht hR hu hf hl hla hsx
      refine ⟨fun hr => fin listed tm w hs ht hR hu hf hr, fun i hi => ?_⟩
      obtain ⟨hb, o, ho, hall'⟩ := mem_ready.1 hi
      have hi' : i < ops.size := by
        rcases Nat.lt_or_ge i ops.size with h | h
        · exact h
        · rw [Array.getElem?_eq_none h] at ho; cases ho
      have heo : ops[i] = o := by rw [Array.getElem?_eq_getElem hi'] at ho; exact Option.some.inj ho
      obtain ⟨k1, k2, k3, k4, k5⟩ := hB' i hi'
      have hdep : ∀ e ∈ ops[i].after, e.on < ops.size ∧ listed.getD e.on true = true := fun e he => by
        have h1 := k3 e he
        have h2 := hall' e (heo ▸ he) h1.2
        have h3 : e.on < listed.size := by omega
        exact ⟨by omega, by simpa [h3] using h2⟩
      have hfd : ∀ j, (ops[i].after.any fun e => (D.getD e.on []).contains j) = true → F.getD j noL ((D.getD j []).map (valAt ds tm)) w := fun j hj => by
        obtain ⟨e, he, he'⟩ := Array.any_eq_true'.1 hj
        obtain ⟨h1, h2⟩ := hdep e he
        obtain ⟨h3, h4⟩ := hl e.on h1 h2 j (by simpa using he')
        exact hf j h3 h4
      have hw : Region.wanted ops[i] (yielded ops tm) = true := by
        unfold Region.wanted
        rcases hgu : ops[i].guard with _ | ⟨j, b⟩
        · rfl
        · rw [hgu] at k4
          simp only [Bool.and_eq_true, List.contains_iff_mem] at k4
          obtain ⟨e, he, he'⟩ := Array.any_eq_true'.1 k4.2
          have he' : e.on = j := by simpa using he'
          subst he'
          obtain ⟨h1, h2⟩ := hdep e he
          obtain ⟨g1, g2⟩ := hg _ k4.1
          have h3 := hf e.on h1 h2
          rw [g1] at h3
          have h4 : tm[ds.getD e.on 0]?.getD undef = .bool b := g2 _ w h3
          have h5 : yielded ops tm e.on = some b := by
            unfold yielded
            have k1' := (hB' e.on h1).1
            rw [Array.getElem?_eq_getElem h1, Option.bind_some]
            rcases hd : ops[e.on].dst with _ | x
            · rw [hd] at k1'
              exfalso
              have k1' : a0.tmps.size ≤ ds.getD e.on 0 := by simpa using k1'
              rw [Array.getElem?_eq_none (show tm.size ≤ ds.getD e.on 0 by rw [ht]; exact k1')] at h4
              cases h4
            · rw [hd] at k1'
              simp only [Bool.and_eq_true, beq_iff_eq, decide_eq_true_eq] at k1'
              obtain ⟨rfl, hx⟩ := k1'
              replace hx : @LT.lt Nat _ (ds.getD e.on 0) a0.tmps.size := hx
              have hx' : ds.getD e.on 0 < tm.size := by omega
              rw [Option.bind_some, Array.getElem?_eq_getElem hx']
              rw [Array.getElem?_eq_getElem hx'] at h4
              rw [show tm[ds.getD e.on 0] = .bool b from h4]
          simp only [h5, beq_self_eq_true]
      unfold wpOp
      rw [Array.getElem?_eq_getElem hi']
      dsimp only
      rw [if_pos hw]
      have hs1 := Each.get hstep (i := i) (o := ops[i]) (by simp [hi']) Q tm a0.defers w hR (by rw [Nat.zero_add]; exact hsx i hi' hb) (fun x hx => by
        obtain ⟨h5, h6⟩ := hfix x hx
        have := hu x.1 h5
        simp only [Array.getD_eq_getD_getElem?] at this
        rw [this, h6]) hfd
      refine .inl (Oper.wp_mono (fun a' w' h' => ?_) hs1)
      obtain ⟨v, rfl, hvn, hv, hR'⟩ := h'
      rw [Nat.zero_add] at hv hR'
      -- the frame behind it
      obtain ⟨tm', e1, e2, e3, e4⟩ : ∃ tm', Act.put ⟨tm, a0.defers⟩ ops[i].dst v = ⟨tm', a0.defers⟩ ∧ tm'.size = tm.size ∧ (∀ k < ops.size, valAt ds tm' k = updV (valAt ds tm) i v k) ∧ ∀ t, t ∉ ds → tm'.getD t undef = tm.getD t undef := by
        rcases hd : ops[i].dst with _ | x
        · rw [hd] at k1
          have k1 : a0.tmps.size ≤ ds.getD i 0 := by simpa using k1
          refine ⟨tm, rfl, rfl, fun k hk => ?_, fun _ _ => rfl⟩
          unfold updV
          split
          · rename_i h
            rw [hvn hd, h]
            unfold valAt
            rw [Array.getElem?_eq_none (show tm.size ≤ ds.getD i 0 by omega)]
            rfl
          · rfl
        · rw [hd] at k1
          simp only [Bool.and_eq_true, beq_iff_eq, decide_eq_true_eq] at k1
          obtain ⟨rfl, hx⟩ := k1
          replace hx : @LT.lt Nat _ (ds.getD i 0) a0.tmps.size := hx
          refine ⟨tm.setIfInBounds (ds.getD i 0) v, rfl, by simp, fun k hk => ?_, fun t h => ?_⟩
          · unfold updV valAt
            rw [Array.getElem?_setIfInBounds]
            by_cases e : ds.getD i 0 = ds.getD k 0
            · have : i = k := by
                rcases k2 k hk e with h | h
                · exact h
                · exact absurd hx (Nat.not_lt.2 h)
              subst this
              have hx' : ds.getD i 0 < tm.size := by omega
              rw [if_pos rfl, if_pos hx', if_pos rfl]
              rfl
            · rw [if_neg e, if_neg (fun h => e (by rw [h]))]
          · simp only [Array.getD_eq_getD_getElem?, Array.getElem?_setIfInBounds]
            rw [if_neg (fun h' : ds.getD i 0 = t => h (h' ▸ hmem i hi'))]
      rw [e1]
      have hDi : ∀ k ∈ D.getD i [], k < ops.size ∧ (k = i ∨ listed.getD k true = true) := fun k hk => by
        rcases k5 k hk with h | ⟨e, he, he'⟩
        · exact ⟨by omega, .inl h⟩
        · obtain ⟨h1, h2⟩ := hdep e he
          obtain ⟨h3, h4⟩ := hl e.on h1 h2 k he'
          exact ⟨h3, .inr h4⟩
      refine ih (listed.setIfInBounds i true) tm' w' (by simpa using hs) ?_ (by omega) (hRt _ _ _ hR (hRr _ _ _ hR')) ?_ ?_ ?_ ?_ ?_
      · have := count_setB (l := listed) (i := i) (by omega) hb
        omega
      · intro t h
        rw [e4 t h]
        exact hu t h
      · intro j hj hlj
        rw [getD_setB (by omega)] at hlj
        by_cases e : i = j
        · subst e
          have : (D.getD i []).map (valAt ds tm') = (D.getD i []).map (updV (valAt ds tm) i v) := List.map_congr_left fun k hk => e3 k (hDi k hk).1
          rw [this]
          exact hv
        · rw [if_neg e] at hlj
          have : (D.getD j []).map (valAt ds tm') = (D.getD j []).map (valAt ds tm) := List.map_congr_left fun k hk => by
            obtain ⟨h1, h2⟩ := hl j hj hlj k hk
            rw [e3 k h1]
            unfold updV
            rw [if_neg (fun h => by rw [h] at h2; rw [h2] at hb; cases hb)]
          rw [this]
          refine hst j i hj hi' e ?_ _ _ _ (hf j hj hlj) hR'
          rw [Bool.eq_false_iff]
          intro hany
          obtain ⟨ed, hed, hed'⟩ := Array.any_eq_true'.1 hany
          have h1 := hla j hj hlj ed hed
          rw [show ed.on = i by simpa using hed', hb] at h1
          cases h1
      · intro j hj hlj k hk
        rw [getD_setB (by omega)] at hlj
        rw [getD_setB (by omega)]
        by_cases e : i = j
        · subst e
          obtain ⟨h1, h2⟩ := hDi k hk
          refine ⟨h1, ?_⟩
          rcases h2 with h | h
          · rw [if_pos h.symm]
          · split
            · rfl
            · exact h
        · rw [if_neg e] at hlj
          obtain ⟨h1, h2⟩ := hl j hj hlj k hk
          refine ⟨h1, ?_⟩
          split
          · rfl
          · exact h2
      · intro j hj hlj ed hed
        rw [getD_setB (by omega)] at hlj
        rw [getD_setB (by omega)]
        split
        · rfl
        · by_cases e : i = j
          · subst e
            exact (hdep ed hed).2
          · rw [if_neg e] at hlj
            exact hla j hj hlj ed hed
      · intro j hj hlj
        rw [getD_setB (by omega)] at hlj
        by_cases e : i = j
        · rw [if_pos e] at hlj
          cases hlj
        · rw [if_neg e] at hlj
          refine hSs j i hi' (Ne.symm e) ?_ _ _ (hsx j hj hlj) hR'
          rw [Bool.eq_false_iff]
          intro hany
          obtain ⟨ed, hed, hed'⟩ := Array.any_eq_true'.1 hany
          have h1 := (hdep ed hed).2
          rw [show ed.on = j by simpa using hed', hlj] at h1
          cases h1
  refine key ops.size _ a0.tmps _ (by simp) (by simp) rfl h0 (fun _ _ => rfl) (fun j hj hl => ?_) (fun j hj hl => ?_) (fun j hj hl => ?_) (fun j _ _ => hS0 j)
  · simp [hj] at hl
  · simp [hj] at hl
  · simp [hj] at hl
end
end Go.Proofs.Ytmoniecknimmdaa
end
section
namespace Go.Proofs.Ytmoniecknimmdaa
open Go.RowKit
/-- What an append onto a new, empty row leaves: a row of its own. -/
def Fresh (w : World) (e : TypeId) (v : Value) (xs : List Value) (g : Nat) : Prop := ∃ c cs, v = .slice (some ⟨g, 0, none⟩) xs.length c ∧ Blk w g e cs ∧ ∀ k, k < xs.length → cs[k]? = xs[k]?
section
variable {P : Program}
theorem run_app_empty {w : World} {t ty e : TypeId} {i : TypeInfo} {z : Value} {bytes n b : Nat} {vx : Value} {xs : List Value} (ht : P.underlying t = some (.slice e)) (hi : P.info? e = some i) (hz : i.zero = some z) (hsize : i.size = 1) (hby : i.bytes = bytes)
    (hb : Blk w b e #[]) (hs : Src P 1 t vx n xs w) (hbytes : n * bytes ≤ 140737488355328) (h63 : n ≤ 9223372036854775807) :
    ∃ v' w' g, (Builtin.append_ #[t, t] ty #[.slice (some ⟨b, 0, none⟩) 0 0, vx]).run P w = .ok v' w' ∧ (g = b ∨ g = w.heap.size) ∧ Frm (fun _ => False) w w' ∧ Fresh w' e v' xs g := by
  have hxl : xs.length = n := by rw [hs.newsLen, Nat.mul_one]
  by_cases hn : n = 0
  · subst hn
    have hx0 : xs = [] := List.eq_nil_of_length_eq_zero hxl
    subst hx0
    have hr := run_append_room_src (P := P) w t t ty e i ht hi b 0 0 0 vx 0 [] (hsize ▸ hs) (Nat.le_refl _) (fun j h => absurd h (by simp)) (fun j h => absurd h (by simp))
    refine ⟨_, _, b, hr, .inl rfl, Frm.refl _ _, 0, #[], rfl, hb, fun k hk => absurd hk (by simp)⟩
  · have hr := run_append_grow_src (P := P) w t t ty e i z ht hi hz (some ⟨b, 0, none⟩) 0 0 [] (run_firstCells_some w.drew i.size 0 ⟨b, 0, none⟩ 0 0 [] (by simp) (fun j u h => by cases h)) vx n xs (hsize ▸ hs) (by omega) (by omega) (by
      have : Builtin.nextslicecap (0 + n) 0 = n := by unfold Builtin.nextslicecap; rw [if_pos (by omega)]; omega
      rw [this, hby]; omega)
    refine ⟨_, _, w.heap.size, hr, .inr rfl, ((Frm.refl _ w).drew).alloc _, _, _, by rw [hxl, Nat.zero_add], Blk.new w.drew _ _, fun k hk => ?_⟩
    rw [List.nil_append, Array.getElem?_append_left (by simpa using hk)]
    simp
theorem wp_app_empty {o : Oper} {a : Act} {w : World} {K : Act → World → Prop} {Q : Exit → Act → World → Prop} (s x : Operand) {t e : TypeId} {i : TypeInfo} {z : Value} {bytes n b : Nat} {vx : Value} {xs : List Value}
    (ho : o.op = .call { callee := .builtin .append, args := #[s, x], argTypes := #[t, t] }) (ht : P.underlying t = some (.slice e)) (hi : P.info? e = some i) (hz : i.zero = some z) (hsize : i.size = 1) (hby : i.bytes = bytes)
    (hv : a.eval s = .slice (some ⟨b, 0, none⟩) 0 0) (hx : a.eval x = vx) (hb : Blk w b e #[]) (hs : Src P 1 t vx n xs w) (hbytes : n * bytes ≤ 140737488355328) (h63 : n ≤ 9223372036854775807)
    (h : ∀ v' w' g, (g = b ∨ g = w.heap.size) → Frm (fun _ => False) w w' → Fresh w' e v' xs g → K (a.put o.dst v') w') : o.wp P a w K Q := by
  obtain ⟨v', w', g, hr, h1, h2, h3⟩ := run_app_empty (P := P) (ty := o.type) ht hi hz hsize hby hb hs hbytes h63
  unfold Oper.wp execOp
  simp only [ho, resolve, invoke, builtin, Sem.run_bind, Sem.run_pure, Result.andThen_ok, List.map_toArray, List.map_cons, List.map_nil, hv, hx, hr]
  exact h v' w' g h1 h2 h3
end
theorem ints_src {w : World} {S : Nat → Prop} {v : Value} {l : List Int} (h : Ints w S v l) : Src Try.prog 1 35 v l.length (l.map (Value.int .i64)) w := by
  obtain ⟨A, c, rfl, h⟩ := h
  rcases A with _ | a
  · have : l = [] := by
      rcases l with _ | ⟨x, r⟩
      · rfl
      · obtain ⟨g, o, e, _⟩ := h 0 (by simp)
        cases e
    subst this
    exact Src.ofNil w Try.underlying35 c
  · refine Src.ofSlice w Try.underlying35 a _ c _ (by simp) (fun j u hu => ?_) (fun u hu => by obtain ⟨_, _, rfl⟩ := List.mem_map.1 hu; rfl)
    have hj : j < l.length := by
      rcases Nat.lt_or_ge j l.length with h | h
      · exact h
      · rw [List.getElem?_eq_none (by simpa using h)] at hu; cases hu
    obtain ⟨g, o, e, _, hc⟩ := h j hj
    injection e with e
    subst e
    have : (⟨g, o, none⟩ : Addr).add j = ⟨g, o + j, none⟩ := by
      unfold Addr.add
      split
      · subst_vars; simp
      · rfl
    rw [this, hc]
    simpa [hj] using hu
theorem bools_src {w : World} {S : Nat → Prop} {v : Value} {l : List Bool} (h : Bools w S v l) : Src Try.prog 1 23 v l.length (l.map Value.bool) w := by
  obtain ⟨A, c, rfl, h⟩ := h
  rcases A with _ | a
  · have : l = [] := by
      rcases l with _ | ⟨x, r⟩
      · rfl
      · obtain ⟨g, o, e, _⟩ := h 0 (by simp)
        cases e
    subst this
    exact Src.ofNil w Try.underlying23 c
  · refine Src.ofSlice w Try.underlying23 a _ c _ (by simp) (fun j u hu => ?_) (fun u hu => by obtain ⟨_, _, rfl⟩ := List.mem_map.1 hu; rfl)
    have hj : j < l.length := by
      rcases Nat.lt_or_ge j l.length with h | h
      · exact h
      · rw [List.getElem?_eq_none (by simpa using h)] at hu; cases hu
    obtain ⟨g, o, e, _, hc⟩ := h j hj
    injection e with e
    subst e
    have : (⟨g, o, none⟩ : Addr).add j = ⟨g, o + j, none⟩ := by
      unfold Addr.add
      split
      · subst_vars; simp
      · rfl
    rw [this, hc]
    simpa [hj] using hu
theorem Fresh.ints {w : World} {v : Value} {l : List Int} {g : Nat} (h : Fresh w 3 v (l.map (Value.int .i64)) g) : Ints w (fun b => b = g) v l := by
  obtain ⟨c, cs, e, hb, hc⟩ := h
  refine ⟨some ⟨g, 0, none⟩, c, by rw [e]; simp, fun k hk => ⟨g, 0, rfl, rfl, ?_⟩⟩
  rw [Nat.zero_add, hb.cell k, hc k (by simpa using hk)]
  simp [hk]
theorem Fresh.bools {w : World} {v : Value} {l : List Bool} {g : Nat} (h : Fresh w 4 v (l.map Value.bool) g) : Bools w (fun b => b = g) v l := by
  obtain ⟨c, cs, e, hb, hc⟩ := h
  refine ⟨some ⟨g, 0, none⟩, c, by rw [e]; simp, fun k hk => ⟨g, 0, rfl, rfl, ?_⟩⟩
  rw [Nat.zero_add, hb.cell k, hc k (by simpa using hk)]
  simp [hk]
theorem Fresh.frm {w w' : World} {e : TypeId} {v : Value} {xs : List Value} {g : Nat} {E : Nat → Prop} (h : Fresh w e v xs g) (F : Frm E w w') (hE : ¬ E g) : Fresh w' e v xs g := by
  obtain ⟨c, cs, e, hb, hc⟩ := h
  exact ⟨c, cs, e, F.blk hb hE, hc⟩
end Go.Proofs.Ytmoniecknimmdaa
end
section
namespace Go.Proofs.Ytmoniecknimmdaa
open Go.RowKit
theorem wpList_app_new {P : Program} {ops : Array Oper} {rest : List Oper} {o : Oper} {a : Act} {w : World} {Q : Exit → Act → World → Prop} (hw : Region.wanted o (yielded ops a.tmps) = true) (s x : Operand) {t e : TypeId} {i : TypeInfo} {z : Value} {bytes n b : Nat} {vx : Value} {xs : List Value}
    (ho : o.op = .call { callee := .builtin .append, args := #[s, x], argTypes := #[t, t] }) (ht : P.underlying t = some (.slice e)) (hi : P.info? e = some i) (hz : i.zero = some z) (hsize : i.size = 1) (hby : i.bytes = bytes)
    (hv : a.eval s = .slice (some ⟨b, 0, none⟩) 0 0) (hx : a.eval x = vx) (hb : Blk w b e #[]) (hs : Src P 1 t vx n xs w) (hbytes : n * bytes ≤ 140737488355328) (h63 : n ≤ 9223372036854775807)
    (h : ∀ v' w', Hid (Frm (fun _ => False) w w') → Hid (∃ g, w.heap.size ≤ g + 1 ∧ Fresh w' e v' xs g) → wpList P ops Q rest (a.put o.dst v') w') (hbl : w.heap.size ≤ b + 1) : wpList P ops Q (o :: rest) a w := by
  unfold wpList
  rw [if_pos hw]
  exact .inl (wp_app_empty s x ho ht hi hz hsize hby hv hx hb hs hbytes h63 fun v' w' g hg F hf => h v' w' F ⟨g, by rcases hg with rfl | rfl <;> omega, hf⟩)
theorem info_boolR : (Try.prog.info? 4).map (fun i => (i.zero, i.size, i.bytes)) = some (some (.bool false), 1, 1) := by kernel_rfl
namespace A
/-- A state's letters lead to nothing in the set, if it isn't there itself. -/
def ClosedAt (m : Mac) (o : List Bool) (s : Nat) : Prop := o.getD s false = true ∨ ∀ k : Nat, (k : Int) < m.letters → lead m s k = -1 ∨ o.getD (lead m s k).toNat false = false
/-- In the set is what ends, and only what lives. -/
structure LvA (m : Mac) (o : List Bool) : Prop where
  fin : ∀ s, m.fin.getD s false = true → o.getD s false = true
  live : ∀ s : Nat, s < m.next.length → o.getD s false = true → A.Alive m s
structure LiveOK (m : Mac) (o : List Bool) : Prop extends LvA m o where
  len : o.length = m.next.length
  cl : ∀ s, s < m.next.length → ClosedAt m o s
theorem LiveOK.iff {m : Mac} {o : List Bool} (hf : Fits m) (h : LiveOK m o) {s : Nat} (hs : s < m.next.length) : o.getD s false = true ↔ Alive m s := by
  refine ⟨h.live s hs, fun ha => ?_⟩
  have key : ∀ x : Int, In m x → Alive m x → 0 ≤ x ∧ o.getD x.toNat false = true := fun x hi hx => by
    refine Alive.ind (p := fun x => 0 ≤ x ∧ o.getD x.toNat false = true) hf (fun x hx e => ?_) (fun x k hx h0 hk hp => ?_) hi hx
    · have hne : x ≠ -1 := fun e' => by rw [e', ends_neg] at e; cases e
      have e' := ends_nat m x.toNat
      rw [show ((x.toNat : Nat) : Int) = x by have := hx.1; omega, e] at e'
      exact ⟨by have := hx.1; omega, h.fin _ e'.symm⟩
    · by_cases e : x = -1
      · subst e
        rw [lead_neg] at hp
        omega
      · have hlt : x.toNat < m.next.length := by have := hx.1; have := hx.2; omega
        have ex : ((x.toNat : Nat) : Int) = x := by have := hx.1; omega
        refine ⟨by omega, ?_⟩
        rcases h.cl _ hlt with hc | hc
        · exact hc
        · have := hc k.toNat (by omega)
          rw [show ((k.toNat : Nat) : Int) = k by omega, ex] at this
          rcases this with h1 | h1
          · rw [h1] at hp; omega
          · rw [h1] at hp; exact Bool.noConfusion hp.2
  have := (key s ⟨by omega, by omega⟩ ha).2
  rwa [Int.toNat_natCast] at this
def nots (o : List Bool) : Nat := o.count false
theorem nots_set {o : List Bool} {s : Nat} (hs : s < o.length) (h : o.getD s false = false) : nots (o.set s true) + 1 = nots o := by
  have e : o[s] = false := by simpa [hs] using h
  unfold nots
  rw [List.count_set hs, e]
  have : 0 < o.count false := List.count_pos_iff.2 (e ▸ List.getElem_mem hs)
  rw [if_pos (by rfl), if_neg (by decide)]
  omega
theorem getD_setO {o : List Bool} {s t : Nat} (hs : s < o.length) : (o.set s true).getD t false = if s = t then true else o.getD t false := by
  simp only [List.getD_eq_getElem?_getD, List.getElem?_set, hs, if_true]
  split <;> simp
end A
/-- A block whose first cells are a list of bools. -/
def Bl (w : World) (g : Nat) (o : List Bool) : Prop := ∃ cs, Blk w g 4 cs ∧ ∀ k, k < o.length → cs[k]? = some (.bool (o.getD k false))
theorem Bl.cell {w : World} {g : Nat} {o : List Bool} (h : Bl w g o) {k : Nat} (hk : k < o.length) : w.cell? ⟨g, k, none⟩ = some (.bool (o.getD k false)) := by
  obtain ⟨cs, hb, hc⟩ := h
  exact (hb.cell k).trans (hc k hk)
theorem Bl.frozen {w : World} {g : Nat} {o : List Bool} (h : Bl w g o) (k : Nat) : w.frozen? ⟨g, k, none⟩ = false := by
  obtain ⟨cs, hb, hc⟩ := h
  exact hb.frozen k
theorem Bl.frm {w w' : World} {g : Nat} {o : List Bool} {E : Nat → Prop} (h : Bl w g o) (F : Frm E w w') (hE : ¬ E g) : Bl w' g o := by
  obtain ⟨cs, hb, hc⟩ := h
  exact ⟨cs, F.blk hb hE, hc⟩
theorem Bl.set_ {w : World} {g : Nat} {o : List Bool} (h : Bl w g o) {s : Nat} (hs : s < o.length) : Bl (w.setCell ⟨g, s, none⟩ (.bool true)) g (o.set s true) := by
  obtain ⟨cs, hb, hc⟩ := h
  refine ⟨_, hb.set_ s _, fun k hk => ?_⟩
  rw [List.length_set] at hk
  have hcs : ∀ k, k < o.length → k < cs.size := fun k hk => by
    rcases Nat.lt_or_ge k cs.size with h | h
    · exact h
    · have := hc k hk; rw [Array.getElem?_eq_none h] at this; cases this
  rw [Array.getElem?_setIfInBounds, A.getD_setO hs]
  by_cases e : s = k
  · subst e; simp [hcs s hs]
  · rw [if_neg e, if_neg e]; exact hc k hk
set_option maxRecDepth 100000 in
set_option maxHeartbeats 8000000 in
theorem live_any {w : World} {P : Nat → Prop} {v : Value} {m : A.Mac} (h : MachAt w P v m) (hf : A.Fits m) (hn : m.next.length ≤ 4000) (hl3 : m.letters ≤ 300) : Calls Try.prog 55 #[v] w fun e w' => ∃ r o, e = .returned r ∧ Bools w' (fun b => w.heap.size ≤ b) r o ∧ A.LiveOK m o ∧ Frm (fun _ => False) w w' := by
  obtain ⟨A1, c1, A2, c2, rfl⟩ := h.form
  have F0 : Frm (fun _ => False) w (w.alloc (.cells #[.int .i64 m.letters, .int .i64 m.start, .slice A1 m.next.length c1, .slice A2 m.fin.length c2] 25)) := (Frm.refl _ w).alloc _
  have bx := Blk.new w 25 #[.int .i64 m.letters, .int .i64 m.start, .slice A1 m.next.length c1, .slice A2 m.fin.length c2]
  have HM := Lib.hid h
  have HFI := Lib.hid hf
  have HF0 := Lib.hid F0
  have HB0 := Lib.hid bx
  have hfl := hf.fin
  have x3 := bx.cell 3
  obtain ⟨nv, ev, ee, _, hE⟩ := h
  simp only [Value.agg.injEq, Array.mk.injEq, List.cons.injEq, and_true] at ee
  obtain ⟨_, _, rfl, rfl⟩ := ee
  have hSRC := bools_src ((hE.keep F0 fun _ _ => id).keep ((Frm.refl (fun _ => False) _).alloc (.cells #[] 4)) fun _ _ => id)
  have HSRC := Lib.hid hSRC
  have HFL := Lib.hid (show m.fin.length ≤ 4000 by omega)
  have HB1 : Hid (Blk ((w.alloc (.cells #[.int .i64 m.letters, .int .i64 m.start, .slice A1 m.next.length c1, .slice A2 m.fin.length c2] 25)).alloc (.cells #[] 4)) (w.heap.size + 1) 4 #[]) := blk_at (by simp)
  clear hf F0 bx hE hSRC hfl
  obtain ⟨i0, hi0, hz0, hz1, hz2⟩ := info_parts info_boolR
  go_enter Try.func55, Try.ntmps55
  go_wp2_with (at_builtin; refine wpList_app_new (by rfl) (.tmp 7) (.tmp 9) rfl Try.underlying23 hi0 hz0 hz1 hz2 (by rfl) (by rfl) HB1.out HSRC.out (by have := HFL.out; omega) (by have := HFL.out; omega) ?_ (by simp))
  intro v1 w1 f1 hg1
  obtain ⟨g, hg, c, cs, rfl, hgb, hgc⟩ := hg1.out
  rw [List.length_map] at hgc ⊢
  have HG : Hid (Bl w1 g m.fin) := ⟨cs, hgb, fun k hk => by rw [hgc k hk]; simp [hk]⟩
  have HF : Hid (Frm (fun _ => False) w w1) := (HF0.out.alloc _).trans f1.out
  have HB : Hid (Blk w1 w.heap.size 25 #[.int .i64 m.letters, .int .i64 m.start, .slice A1 m.next.length c1, .slice A2 m.fin.length c2]) := f1.out.blk (HB0.out.alloc _) id
  have HGW : Hid (w.heap.size < g) := show _ < _ by omega
  have HNF : Hid (m.next.length = m.fin.length) := HFI.out.fin
  obtain ⟨N, hN⟩ : ∃ N, N = m.fin.length := ⟨_, rfl⟩
  have HN := Lib.hid hN
  rw [← hN] at HFL HB
  clear hgb hgc hg1 f1 hg HB1 HSRC HB0 HF0 x3 hn
  obtain ⟨_, hl0⟩ : True ∧ 0 ≤ m.letters := ⟨trivial, HFI.out.letters⟩
  rw [← hN]
  clear hN
  go_wp2_with fail
  go_loopg [4] (2 * A.nots m.fin + 1) (fun n u4 wr => ∃ (o : List Bool) (b : Bool), n = 2 * A.nots o + (if b then 1 else 0) ∧ u4 = .bool b ∧ o.length = N ∧ Hid (A.LvA m o) ∧ Hid (b = false → ∀ s, s < N → A.ClosedAt m o s) ∧ Hid (Bl wr g o) ∧ Hid (Blk wr w.heap.size 25 #[.int .i64 m.letters, .int .i64 m.start, .slice A1 m.next.length c1, .slice A2 N c2]) ∧ Hid (Frm (fun _ => False) w wr))
  case atStart => exact ⟨m.fin, true, rfl, rfl, HN.out.symm, ⟨fun _ h => h, fun s _ h => A.Alive.fin (by rw [A.ends_nat]; exact h)⟩, fun h => (Bool.noConfusion h), HG, HB, HF⟩
  case round =>
    clear HG HB HF
    obtain ⟨o, b, rfl, rfl, hol, HOF, HCL, HG, HB, HF⟩ := hrel
    cases b with
    | false =>
      have hcl := HCL.out rfl
      have HCL2 := Lib.hid hcl
      clear hcl HCL
      go_wp2_with fail
      go_ret
      refine ⟨_, o, rfl, ⟨some ⟨g, 0, none⟩, c, by rw [hol]; rfl, fun k hk => ⟨g, 0, rfl, Nat.le_of_lt HGW.out, ?_⟩⟩, ⟨HOF.out, by rw [hol, HNF.out]; exact HN.out, fun s hs => HCL2.out s (by rw [HN.out, ← HNF.out]; exact hs)⟩, HF.out⟩
      rw [Nat.zero_add]
      exact (HG.out.cell hk).trans (by simp [hk])
    | true =>
      clear HCL
      go_wp2_with fail
      obtain ⟨R, hR⟩ : ∃ R, R = A.nots o := ⟨_, rfl⟩
      go_loopg [4, 5] (N + 1) (fun n u4 u5 wr => ∃ (o' : List Bool) (b : Bool) (i : Nat), i ≤ N ∧ n = N + 1 - i ∧ u4 = .bool b ∧ u5 = .int .i64 (i : Int) ∧ o'.length = N ∧ A.nots o' + (if b then 1 else 0) ≤ R ∧ Hid (A.LvA m o') ∧ Hid (b = false → ∀ s, s < i → A.ClosedAt m o' s) ∧ Hid (Bl wr g o') ∧ Hid (Blk wr w.heap.size 25 #[.int .i64 m.letters, .int .i64 m.start, .slice A1 m.next.length c1, .slice A2 N c2]) ∧ Hid (Frm (fun _ => False) w wr))
      case atStart => exact ⟨o, false, 0, Nat.zero_le _, rfl, rfl, rfl, hol, by simp [hR], HOF, fun _ s hs => absurd hs (Nat.not_lt_zero s), HG, HB, HF⟩
      case round =>
        clear HG HB HF HOF hol
        obtain ⟨o', b, i, hi, rfl, rfl, rfl, hol, hno, HOF, HCL, HG, HB, HF⟩ := hrel
        by_cases hlt : i < N
        · have hlt' : (i : Int) < (N : Int) := by omega
          have hNb := HFL.out
          go_wp2_with fail
          go_loopg [4, 6] (m.letters.toNat + 1) (fun n u4 u6 wr => ∃ (o' : List Bool) (b : Bool) (k : Nat), (k : Int) ≤ m.letters ∧ n = m.letters.toNat + 1 - k ∧ u4 = .bool b ∧ u6 = .int .i64 (k : Int) ∧ o'.length = N ∧ A.nots o' + (if b then 1 else 0) ≤ R ∧ Hid (A.LvA m o') ∧ Hid (b = false → (∀ s, s < i → A.ClosedAt m o' s) ∧ ∀ j : Nat, j < k → A.lead m i j = -1 ∨ o'.getD (A.lead m i j).toNat false = false) ∧ Hid (Bl wr g o') ∧ Hid (Blk wr w.heap.size 25 #[.int .i64 m.letters, .int .i64 m.start, .slice A1 m.next.length c1, .slice A2 N c2]) ∧ Hid (Frm (fun _ => False) w wr))
          case atStart => exact ⟨o', b, 0, hl0, rfl, rfl, rfl, hol, hno, HOF, fun h => ⟨HCL.out h, fun j hj => absurd hj (Nat.not_lt_zero j)⟩, HG, HB, HF⟩
          case round =>
            clear HG HB HF HOF hol hno HCL
            obtain ⟨o', b, k, hk, rfl, rfl, rfl, hol, hno, HOF, HCL, HG, HB, HF⟩ := hrel
            have x0 := HB.out.cell 0
            have x2 := HB.out.cell 2
            by_cases hlk : (k : Int) < m.letters
            · have hio : i < o'.length := by omega
              have y0 := HG.out.cell hio
              cases hb : o'.getD i false with
              | true =>
                rw [hb] at y0
                have HCI : Hid (A.ClosedAt m o' i) := Or.inl hb
                clear hb
                go_wp2_with fail
                go_roundg (N + 1 - (i + 1))
                case measure => omega
                case rel => exact ⟨o', b, i + 1, by omega, rfl, rfl, by go_num, hol, hno, HOF, fun hb s hs => by
                  rcases Nat.lt_or_ge s i with h | h
                  · exact (HCL.out hb).1 s h
                  · obtain rfl : s = i := by omega
                    exact HCI.out, HG, HB, HF⟩
              | false =>
                rw [hb] at y0
                have HBI := Lib.hid hb
                clear hb
                have hin : i < m.next.length := by have := HNF.out; have := HN.out; omega
                obtain ⟨gn, on, A3, c3, hA, hc, hrow⟩ := HM.out.next_at hin
                obtain ⟨hr1, hr2⟩ := HFI.out.rows _ (List.getElem_mem hin)
                have hj : k < m.next[i].length := by omega
                obtain ⟨g3, o3, hA3, _, hcj⟩ := hrow k hj
                subst hA hA3
                have d0 := HF.out.cell id hc
                have d1 := HF.out.cell id hcj
                have hx := hr2 _ (List.getElem_mem hj)
                have HY : Hid (A.lead m i k = m.next[i][k]) := show _ = _ by
                  unfold A.lead
                  rw [if_neg (by omega)]
                  simp [hin, hj]
                have hj' : (k : Int) < (m.next[i].length : Int) := by omega
                clear hc hcj hrow hr1 hr2
                generalize m.next[i][k] = x at *
                clear hj
                generalize m.next[i].length = len at *
                obtain ⟨hx0, hx1⟩ := hx
                have hlt2 : (i : Int) < (m.next.length : Int) := by omega
                by_cases hneg : x < 0
                · obtain rfl : x = -1 := by omega
                  go_wp2_with fail
                  go_roundg (m.letters.toNat + 1 - (k + 1))
                  case measure => omega
                  case rel => exact ⟨o', b, k + 1, by omega, by omega, rfl, by go_num, hol, hno, HOF, fun hb => ⟨(HCL.out hb).1, fun j hj => by
                    rcases Nat.lt_or_ge j k with h | h
                    · exact (HCL.out hb).2 j h
                    · obtain rfl : j = k := by omega
                      exact Or.inl HY.out⟩, HG, HB, HF⟩
                · obtain ⟨q, rfl⟩ := Int.eq_ofNat_of_zero_le (show 0 ≤ x by omega)
                  have hq : q < o'.length := by have := HNF.out; have := HN.out; omega
                  have y1 := HG.out.cell hq
                  cases hbq : o'.getD q false with
                  | true =>
                    rw [hbq] at y1
                    have yf := HG.out.frozen i
                    have HG2 : Hid (Bl (wr.setCell ⟨g, i, none⟩ (.bool true)) g (o'.set i true)) := HG.out.set_ hio
                    have HB2 : Hid (Blk (wr.setCell ⟨g, i, none⟩ (.bool true)) w.heap.size 25 #[.int .i64 m.letters, .int .i64 m.start, .slice (some ⟨gn, on, none⟩) m.next.length c1, .slice A2 N c2]) := HB.out.far (by have := HGW.out; first | omega | (dsimp only; omega)) _
                    have HF2 : Hid (Frm (fun _ => False) w (wr.setCell ⟨g, i, none⟩ (.bool true))) := HF.out.set_ (fun h => by have := HGW.out; dsimp only at h; omega) _
                    have hn2 := A.nots_set hio HBI.out
                    have HN2 : Hid (A.nots (o'.set i true) + 1 ≤ R) := show _ ≤ _ by omega
                    have HOF2 : Hid (A.LvA m (o'.set i true)) := ⟨fun s hs => by
                      rw [A.getD_setO hio]
                      split
                      · rfl
                      · exact HOF.out.fin s hs, fun s hs hs2 => by
                      rw [A.getD_setO hio] at hs2
                      split at hs2
                      · rename_i e
                        subst e
                        refine A.Alive.step (k := (k : Int)) (by omega) hlk ?_
                        rw [HY.out]
                        exact HOF.out.live q (by have := HNF.out; have := HN.out; omega) hbq
                      · exact HOF.out.live s hs hs2⟩
                    clear hn2 hbq
                    go_wp2_with fail
                    go_roundg (m.letters.toNat + 1 - (k + 1))
                    case measure => omega
                    case rel => exact ⟨o'.set i true, true, k + 1, by omega, by omega, rfl, by go_num, by rw [List.length_set]; exact hol, HN2.out, HOF2, fun h => Bool.noConfusion h, HG2, HB2, HF2⟩
                  | false =>
                    rw [hbq] at y1
                    have HBQ := Lib.hid hbq
                    clear hbq
                    go_wp2_with fail
                    go_roundg (m.letters.toNat + 1 - (k + 1))
                    case measure => omega
                    case rel => exact ⟨o', b, k + 1, by omega, by omega, rfl, by go_num, hol, hno, HOF, fun hb => ⟨(HCL.out hb).1, fun j hj => by
                      rcases Nat.lt_or_ge j k with h | h
                      · exact (HCL.out hb).2 j h
                      · obtain rfl : j = k := by omega
                        exact Or.inr (by rw [HY.out]; exact HBQ.out)⟩, HG, HB, HF⟩
            · have hlk' : ¬ (k : Int) < m.letters := hlk
              go_wp2_with fail
              go_roundg (N + 1 - (i + 1))
              case measure => omega
              case rel => exact ⟨o', b, i + 1, by omega, rfl, rfl, by go_num, hol, hno, HOF, fun hb s hs => by
                rcases Nat.lt_or_ge s i with h | h
                · exact (HCL.out hb).1 s h
                · obtain rfl : s = i := by omega
                  exact Or.inr fun j hj => (HCL.out hb).2 j (by omega), HG, HB, HF⟩
        · obtain rfl : i = N := by omega
          have hlt' : ¬ (i : Int) < (i : Int) := by omega
          go_wp2_with fail
          go_roundg (2 * A.nots o' + (if b then 1 else 0))
          case measure => cases b <;> simp at hno ⊢ <;> omega
          case rel => exact ⟨o', b, rfl, rfl, hol, HOF, HCL, HG, HB, HF⟩
end Go.Proofs.Ytmoniecknimmdaa
end
section
namespace Go.Proofs.Ytmoniecknimmdaa
open Go.RowKit
namespace A
/-- The number of the state that a letter leads to. -/
def clL (m : Mac) (cl : List Int) (s k : Int) : Int := if 0 ≤ lead m s k then cl.getD (lead m s k).toNat 0 else -1
def AlikeTo (m : Mac) (cl : List Int) (a b n : Nat) : Prop := ∀ j : Nat, j < n → clL m cl a j = clL m cl b j
def Alike (m : Mac) (cl : List Int) (a b : Nat) : Prop := cl.getD a 0 = cl.getD b 0 ∧ AlikeTo m cl a b m.letters.toNat
end A
/-- A call tells whether something is so. -/
def YesIf (p : Prop) (e : Ending) : Prop := ∃ r : Bool, e = .returned (.bool r) ∧ (r = true ↔ p)
theorem Ints.get {w : World} {P : Nat → Prop} {A0 : Option Addr} {n c : Nat} {l : List Int} (h : Ints w P (.slice A0 n c) l) {k : Nat} (hk : k < l.length) : ∃ g o, A0 = some ⟨g, o, none⟩ ∧ P g ∧ w.cell? ⟨g, o + k, none⟩ = some (.int .i64 (l.getD k 0)) := by
  obtain ⟨A1, c1, e, h⟩ := h
  injection e with e1 e2 e3
  subst e1
  obtain ⟨g, o, h1, h2, h3⟩ := h k hk
  exact ⟨g, o, h1, h2, by rw [h3]; simp [hk]⟩
set_option maxRecDepth 100000 in
set_option maxHeartbeats 8000000 in
theorem alike_any {w : World} {P Q : Nat → Prop} {v vc : Value} {m : A.Mac} {cl : List Int} (h : MachAt w P v m) (hf : A.Fits m) (hl3 : m.letters ≤ 300) (hc : Ints w Q vc cl) (hcl : cl.length = m.next.length) {a b : Nat} (ha : a < m.next.length) (hb : b < m.next.length) :
    Calls Try.prog 56 #[v, vc, .int .i64 (a : Int), .int .i64 (b : Int)] w fun e w' => YesIf (A.Alike m cl a b) e ∧ Frm (fun _ => False) w w' := by
  obtain ⟨A1, c1, A2, c2, rfl⟩ := h.form
  obtain ⟨AC, cc, rfl, _⟩ := id hc
  have HF0 : Hid (Frm (fun _ => False) w (w.alloc (.cells #[.int .i64 m.letters, .int .i64 m.start, .slice A1 m.next.length c1, .slice A2 m.fin.length c2] 25))) := (Frm.refl _ w).alloc _
  have HB0 : Hid (Blk (w.alloc (.cells #[.int .i64 m.letters, .int .i64 m.start, .slice A1 m.next.length c1, .slice A2 m.fin.length c2] 25)) w.heap.size 25 #[.int .i64 m.letters, .int .i64 m.start, .slice A1 m.next.length c1, .slice A2 m.fin.length c2]) := Blk.new w _ _
  have HM := Lib.hid h
  have HC := Lib.hid hc
  have HFI := Lib.hid hf
  have hl0 := hf.letters
  obtain ⟨gc, oc, rfl, _, ya⟩ := hc.get (k := a) (by omega)
  obtain ⟨_, _, e, _, yb⟩ := hc.get (k := b) (by omega)
  simp only [Option.some.injEq, Addr.mk.injEq, and_true] at e
  obtain ⟨rfl, rfl⟩ := e
  have ya := HF0.out.cell id ya
  have yb := HF0.out.cell id yb
  have HX : Hid (A.Alike m cl a b ↔ cl.getD a 0 = cl.getD b 0 ∧ A.AlikeTo m cl a b m.letters.toNat) := Iff.rfl
  clear h hf hc
  have hac : (a : Int) < (cl.length : Int) := by omega
  have hbc : (b : Int) < (cl.length : Int) := by omega
  generalize cl.getD a 0 = ca at *
  generalize cl.getD b 0 = cb at *
  go_enter Try.func56, Try.ntmps56
  go_wp2_with fail
  by_cases hab : ca = cb
  · have hne : (ca != cb) = false := by rw [hab]; simp
    have HAB := Lib.hid hab
    clear hab
    go_quiet (fail)
    go_wp2_with fail
    have HX2 : Hid (A.Alike m cl a b ↔ A.AlikeTo m cl a b m.letters.toNat) := HX.out.trans ⟨fun h => h.2, fun h => ⟨HAB.out, h⟩⟩
    clear ya yb hne HX
    go_loopg [9] (m.letters.toNat + 1) (fun n u wr => ∃ k : Nat, (k : Int) ≤ m.letters ∧ n = m.letters.toNat + 1 - k ∧ u = .int .i64 (k : Int) ∧ Hid (A.AlikeTo m cl a b k) ∧ Hid (Blk wr w.heap.size 25 #[.int .i64 m.letters, .int .i64 m.start, .slice A1 m.next.length c1, .slice A2 m.fin.length c2]) ∧ Hid (Frm (fun _ => False) w wr))
    case atStart => exact ⟨0, hl0, rfl, rfl, fun j hj => absurd hj (Nat.not_lt_zero j), by first | exact HB0 | exact HB0.out.drewN _, by first | exact HF0 | exact HF0.out.drewN _⟩
    case round =>
      clear HB0 HF0
      obtain ⟨k, hk, rfl, rfl, HA, HB, HF⟩ := hrel
      have x0 := HB.out.cell 0
      have x2 := HB.out.cell 2
      by_cases hlk : (k : Int) < m.letters
      · obtain ⟨gn, on, A3, c3, hA, hca, hrow⟩ := HM.out.next_at ha
        subst hA
        obtain ⟨hr1, hr2⟩ := HFI.out.rows _ (List.getElem_mem ha)
        have hj : k < m.next[a].length := by omega
        obtain ⟨g3, o3, hA3, _, hcj⟩ := hrow k hj
        subst hA3
        have d0 := HF.out.cell id hca
        have d1 := HF.out.cell id hcj
        obtain ⟨hx0, hx1⟩ := hr2 _ (List.getElem_mem hj)
        obtain ⟨gn', on', A4, c4, e, hca', hrow'⟩ := HM.out.next_at hb
        simp only [Option.some.injEq, Addr.mk.injEq, and_true] at e
        obtain ⟨rfl, rfl⟩ := e
        obtain ⟨hs1, hs2⟩ := HFI.out.rows _ (List.getElem_mem hb)
        have hj' : k < m.next[b].length := by omega
        obtain ⟨g4, o4, hA4, _, hcj'⟩ := hrow' k hj'
        subst hA4
        have d2 := HF.out.cell id hca'
        have d3 := HF.out.cell id hcj'
        obtain ⟨hy0, hy1⟩ := hs2 _ (List.getElem_mem hj')
        have eX : A.lead m a k = m.next[a][k] := by
          unfold A.lead
          rw [if_neg (by omega)]
          simp [ha, hj]
        have eY : A.lead m b k = m.next[b][k] := by
          unfold A.lead
          rw [if_neg (by omega)]
          simp [hb, hj']
        have HEX : Hid (A.clL m cl a k = if 0 ≤ m.next[a][k] then cl.getD (m.next[a][k]).toNat 0 else -1) := by show _ = _; unfold A.clL; rw [eX]
        have HEY : Hid (A.clL m cl b k = if 0 ≤ m.next[b][k] then cl.getD (m.next[b][k]).toNat 0 else -1) := by show _ = _; unfold A.clL; rw [eY]
        have hjk : (k : Int) < (m.next[a].length : Int) := by omega
        have hjk' : (k : Int) < (m.next[b].length : Int) := by omega
        have hla : (a : Int) < (m.next.length : Int) := by omega
        have hlb : (b : Int) < (m.next.length : Int) := by omega
        clear hca hcj hrow hr1 hr2 hca' hcj' hrow' hs1 hs2 eX eY
        generalize m.next[a][k] = x at *
        generalize m.next[b][k] = y at *
        clear hj hj'
        generalize m.next[a].length = lena at *
        generalize m.next[b].length = lenb at *
        have key : ∀ X Y : Int, A.clL m cl a k = X → A.clL m cl b k = Y → X = Y → A.AlikeTo m cl a b (k + 1) := fun X Y h1 h2 h3 j hj => by
          rcases Nat.lt_or_ge j k with h | h
          · exact HA.out j h
          · obtain rfl : j = k := by omega
            rw [h1, h2, h3]
        have key2 : ∀ X Y : Int, A.clL m cl a k = X → A.clL m cl b k = Y → X ≠ Y → ¬ A.Alike m cl a b := fun X Y h1 h2 h3 h => h3 (by
          rw [← h1, ← h2]
          exact HX2.out.1 h k (by omega))
        have HK := Lib.hid key
        have HK2 := Lib.hid key2
        clear key key2
        have hxx : (x = -1 ∧ A.clL m cl a k = -1) ∨ ∃ q : Nat, x = (q : Int) ∧ (q : Int) < (cl.length : Int) ∧ A.clL m cl a k = cl.getD q 0 ∧ wr.cell? ⟨gc, oc + q, none⟩ = some (.int .i64 (cl.getD q 0)) := by
          by_cases h0 : 0 ≤ x
          · obtain ⟨q, rfl⟩ := Int.eq_ofNat_of_zero_le h0
            obtain ⟨_, _, e, _, yq⟩ := HC.out.get (k := q) (by omega)
            simp only [Option.some.injEq, Addr.mk.injEq, and_true] at e
            obtain ⟨rfl, rfl⟩ := e
            exact Or.inr ⟨q, rfl, by omega, by rw [HEX.out, if_pos h0, Int.toNat_natCast], HF.out.cell id yq⟩
          · exact Or.inl ⟨by omega, by rw [HEX.out, if_neg h0]⟩
        have hyy : (y = -1 ∧ A.clL m cl b k = -1) ∨ ∃ q : Nat, y = (q : Int) ∧ (q : Int) < (cl.length : Int) ∧ A.clL m cl b k = cl.getD q 0 ∧ wr.cell? ⟨gc, oc + q, none⟩ = some (.int .i64 (cl.getD q 0)) := by
          by_cases h0 : 0 ≤ y
          · obtain ⟨q, rfl⟩ := Int.eq_ofNat_of_zero_le h0
            obtain ⟨_, _, e, _, yq⟩ := HC.out.get (k := q) (by omega)
            simp only [Option.some.injEq, Addr.mk.injEq, and_true] at e
            obtain ⟨rfl, rfl⟩ := e
            exact Or.inr ⟨q, rfl, by omega, by rw [HEY.out, if_pos h0, Int.toNat_natCast], HF.out.cell id yq⟩
          · exact Or.inl ⟨by omega, by rw [HEY.out, if_neg h0]⟩
        clear HEX HEY hx0 hx1 hy0 hy1 hac hbc ya yb
        rcases hxx with ⟨rfl, eX⟩ | ⟨q, rfl, hq, eX, yq⟩ <;> rcases hyy with ⟨rfl, eY⟩ | ⟨q', rfl, hq', eY, yq'⟩
        · have HA2 := Lib.hid (HK.out _ _ eX eY rfl)
          clear eX eY
          go_wp2_with fail
          go_roundg (m.letters.toNat + 1 - (k + 1))
          case measure => omega
          case rel => exact ⟨k + 1, by omega, by omega, by go_num, HA2, HB, HF⟩
        · generalize cl.getD q' 0 = Y at *
          by_cases hXY : (-1 : Int) = Y
          · have HA2 := Lib.hid (HK.out _ _ eX eY hXY)
            have hb : ((-1 : Int) != Y) = false := by rw [hXY]; simp
            clear eX eY hXY
            go_wp2_with fail
            go_roundg (m.letters.toNat + 1 - (k + 1))
            case measure => omega
            case rel => exact ⟨k + 1, by omega, by omega, by go_num, HA2, HB, HF⟩
          · have HA2 := Lib.hid (HK2.out _ _ eX eY hXY)
            have hb : ((-1 : Int) != Y) = true := by rw [bne_iff_ne]; exact hXY
            clear eX eY hXY
            go_wp2_with fail
            go_ret
            exact ⟨⟨false, rfl, by simp [HA2.out]⟩, HF.out⟩
        · generalize cl.getD q 0 = X at *
          by_cases hXY : (X : Int) = -1
          · have HA2 := Lib.hid (HK.out _ _ eX eY hXY)
            have hb : ((X : Int) != -1) = false := by rw [hXY]; simp
            clear eX eY hXY
            go_wp2_with fail
            go_roundg (m.letters.toNat + 1 - (k + 1))
            case measure => omega
            case rel => exact ⟨k + 1, by omega, by omega, by go_num, HA2, HB, HF⟩
          · have HA2 := Lib.hid (HK2.out _ _ eX eY hXY)
            have hb : ((X : Int) != -1) = true := by rw [bne_iff_ne]; exact hXY
            clear eX eY hXY
            go_wp2_with fail
            go_ret
            exact ⟨⟨false, rfl, by simp [HA2.out]⟩, HF.out⟩
        · obtain ⟨X, hX⟩ : ∃ X, X = cl.getD q 0 := ⟨_, rfl⟩
          obtain ⟨Y, hY⟩ : ∃ Y, Y = cl.getD q' 0 := ⟨_, rfl⟩
          rw [← hX] at eX yq
          rw [← hY] at eY yq'
          clear hX hY
          by_cases hXY : (X : Int) = Y
          · have HA2 := Lib.hid (HK.out _ _ eX eY hXY)
            have hb : ((X : Int) != Y) = false := by rw [hXY]; simp
            clear eX eY hXY
            go_wp2_with fail
            go_roundg (m.letters.toNat + 1 - (k + 1))
            case measure => omega
            case rel => exact ⟨k + 1, by omega, by omega, by go_num, HA2, HB, HF⟩
          · have HA2 := Lib.hid (HK2.out _ _ eX eY hXY)
            have hb : ((X : Int) != Y) = true := by rw [bne_iff_ne]; exact hXY
            clear eX eY hXY
            go_wp2_with fail
            go_ret
            exact ⟨⟨false, rfl, by simp [HA2.out]⟩, HF.out⟩
      · have HAA : Hid (A.Alike m cl a b) := HX2.out.2 fun j hj => HA.out j (by omega)
        go_wp2_with fail
        go_ret
        exact ⟨⟨true, rfl, by simp [HAA.out]⟩, HF.out⟩
  · have hne : (ca != cb) = true := by rw [bne_iff_ne]; exact hab
    have HAB := Lib.hid hab
    clear hab
    go_quiet (fail)
    go_wp2_with fail
    go_ret
    exact ⟨⟨false, rfl, by simp [HX.out, HAB.out]⟩, by first | exact HF0.out | exact HF0.out.drewN _⟩
end Go.Proofs.Ytmoniecknimmdaa
end
section
namespace Go.Proofs.Ytmoniecknimmdaa
open Go.RowKit
namespace A
theorem pig : ∀ (c : Nat) (L : List Nat), (∀ v, v < c → v ∈ L) → c ≤ L.length ∧ (L.length = c → L.Nodup)
  | 0, L, _ => ⟨Nat.zero_le _, fun h => by rw [List.length_eq_zero_iff] at h; subst h; exact List.nodup_nil⟩
  | c + 1, L, h => by
    have hc : c ∈ L := h c (Nat.lt_succ_self c)
    have hl : (L.erase c).length = L.length - 1 := List.length_erase_of_mem hc
    have hp : 0 < L.length := List.length_pos_of_mem hc
    have h1 : ∀ v, v < c → v ∈ L.erase c := fun v hv => (List.mem_erase_of_ne (by omega)).2 (h v (by omega))
    obtain ⟨h2, h3⟩ := pig c _ h1
    refine ⟨by omega, fun e => ?_⟩
    have hn := h3 (by omega)
    have hcn : c ∉ L.erase c := fun hm => by
      have hl2 := List.length_erase_of_mem hm
      have hp2 : 0 < (L.erase c).length := List.length_pos_of_mem hm
      obtain ⟨h4, _⟩ := pig c ((L.erase c).erase c) (fun v hv => (List.mem_erase_of_ne (by omega)).2 (h1 v hv))
      omega
    exact (List.perm_cons_erase hc).nodup_iff.2 (List.nodup_cons.2 ⟨hcn, hn⟩)
theorem getD_setR {l : List Int} {s t : Nat} {x : Int} (hs : s < l.length) : (l.set s x).getD t 0 = if s = t then x else l.getD t 0 := by
  simp only [List.getD_eq_getElem?_getD, List.getElem?_set, hs, if_true]
  split <;> simp
/-- What one round of the refinement has come to at state i. -/
structure Ref (m : Mac) (out nx : List Int) (fs : List Nat) (i : Nat) : Prop where
  len : nx.length = m.next.length
  le : fs.length ≤ i
  fsi : ∀ j (h : j < fs.length), fs[j] < i ∧ nx.getD fs[j] 0 = (j : Int) ∧ 0 ≤ out.getD fs[j] 0
  dead : ∀ s, s < i → out.getD s 0 < 0 → nx.getD s 0 = -1
  liv : ∀ s, s < i → 0 ≤ out.getD s 0 → ∃ j, ∃ h : j < fs.length, nx.getD s 0 = (j : Int) ∧ Alike m out s fs[j]
  apart : ∀ j j' (h : j < fs.length) (h' : j' < fs.length), j' < j → ¬ Alike m out fs[j] fs[j']
theorem Alike.refl {m : Mac} {cl : List Int} {a : Nat} : Alike m cl a a := ⟨rfl, fun _ _ => rfl⟩
theorem Ref.dead_ {m : Mac} {out nx : List Int} {fs : List Nat} {i : Nat} (h : Ref m out nx fs i) (hi : i < m.next.length) (ho : out.getD i 0 < 0) : Ref m out (nx.set i (-1)) fs (i + 1) := by
  have hl : i < nx.length := by rw [h.len]; exact hi
  refine ⟨by rw [List.length_set]; exact h.len, Nat.le_succ_of_le h.le, fun j hj => ?_, fun s hs hd => ?_, fun s hs hd => ?_, h.apart⟩
  · obtain ⟨h1, h2, h3⟩ := h.fsi j hj
    exact ⟨by omega, by rw [getD_setR hl, if_neg (by omega)]; exact h2, h3⟩
  · rw [getD_setR hl]
    split
    · rfl
    · exact h.dead s (by omega) hd
  · rw [getD_setR hl, if_neg (by rintro rfl; omega)]
    exact h.liv s (by have : s ≠ i := (by rintro rfl; omega); omega) hd
theorem Ref.old {m : Mac} {out nx : List Int} {fs : List Nat} {i k : Nat} (h : Ref m out nx fs i) (hi : i < m.next.length) (ho : 0 ≤ out.getD i 0) (hk : k < fs.length) (ha : Alike m out i fs[k]) : Ref m out (nx.set i (k : Int)) fs (i + 1) := by
  have hl : i < nx.length := by rw [h.len]; exact hi
  refine ⟨by rw [List.length_set]; exact h.len, Nat.le_succ_of_le h.le, fun j hj => ?_, fun s hs hd => ?_, fun s hs hd => ?_, h.apart⟩
  · obtain ⟨h1, h2, h3⟩ := h.fsi j hj
    exact ⟨by omega, by rw [getD_setR hl, if_neg (by omega)]; exact h2, h3⟩
  · rw [getD_setR hl, if_neg (by rintro rfl; omega)]
    exact h.dead s (by have : s ≠ i := (by rintro rfl; omega); omega) hd
  · rw [getD_setR hl]
    by_cases e : i = s
    · subst e
      rw [if_pos rfl]
      exact ⟨k, hk, rfl, ha⟩
    · rw [if_neg e]
      exact h.liv s (by omega) hd
theorem Ref.new {m : Mac} {out nx : List Int} {fs : List Nat} {i : Nat} (h : Ref m out nx fs i) (hi : i < m.next.length) (ho : 0 ≤ out.getD i 0) (hna : ∀ j' (h' : j' < fs.length), ¬ Alike m out i fs[j']) : Ref m out (nx.set i (fs.length : Int)) (fs ++ [i]) (i + 1) := by
  have hl : i < nx.length := by rw [h.len]; exact hi
  have hle := h.le
  refine ⟨by rw [List.length_set]; exact h.len, by simp; omega, fun j hj => ?_, fun s hs hd => ?_, fun s hs hd => ?_, fun j j' hj hj' hjj => ?_⟩
  · rw [List.length_append, List.length_singleton] at hj
    by_cases e : j < fs.length
    · rw [List.getElem_append_left e]
      obtain ⟨h1, h2, h3⟩ := h.fsi j e
      exact ⟨by omega, by rw [getD_setR hl, if_neg (by omega)]; exact h2, h3⟩
    · obtain rfl : j = fs.length := by omega
      rw [List.getElem_append_right (Nat.le_refl _)]
      simp only [Nat.sub_self, List.getElem_cons_zero]
      exact ⟨by omega, by rw [getD_setR hl, if_pos rfl], ho⟩
  · rw [getD_setR hl, if_neg (by rintro rfl; omega)]
    exact h.dead s (by have : s ≠ i := (by rintro rfl; omega); omega) hd
  · rw [getD_setR hl]
    by_cases e : i = s
    · subst e
      rw [if_pos rfl]
      refine ⟨fs.length, by simp, rfl, ?_⟩
      rw [List.getElem_append_right (Nat.le_refl _)]
      simp only [Nat.sub_self, List.getElem_cons_zero]
      exact .refl
    · rw [if_neg e]
      obtain ⟨j, hj, h1, h2⟩ := h.liv s (by omega) hd
      exact ⟨j, by simp; omega, h1, by rw [List.getElem_append_left hj]; exact h2⟩
  · rw [List.length_append, List.length_singleton] at hj
    rw [List.getElem_append_left (show j' < fs.length by omega)]
    by_cases e : j < fs.length
    · rw [List.getElem_append_left e]
      exact h.apart j j' e (by omega) hjj
    · obtain rfl : j = fs.length := by omega
      rw [List.getElem_append_right (Nat.le_refl _)]
      simp only [Nat.sub_self, List.getElem_cons_zero]
      exact hna j' _
/-- What the numbers are before they are refined to their end. -/
structure Pre (m : Mac) (out : List Int) (c : Nat) : Prop where
  len : out.length = m.next.length
  lo : ∀ s, s < m.next.length → -1 ≤ out.getD s 0
  fin : ∀ s t, s < m.next.length → t < m.next.length → out.getD s 0 = out.getD t 0 → m.fin.getD s false = m.fin.getD t false
  dead : ∀ s, s < m.next.length → out.getD s 0 = -1 → m.fin.getD s false = false ∧ ∀ k : Nat, (k : Int) < m.letters → clL m out s k = -1
  onto : ∀ v : Nat, v < c → ∃ s, s < m.next.length ∧ out.getD s 0 = (v : Int)
  lv : ∀ s : Nat, s < m.next.length → (0 ≤ out.getD s 0 ↔ A.Alive m s)
  tl : ∀ s t : Nat, s < m.next.length → t < m.next.length → out.getD s 0 ≠ out.getD t 0 → Tell m s t
/-- Numbers of classes that hold. -/
structure ClsOK (m : Mac) (cl : List Int) (c : Nat) : Prop extends Pre m cl c where
  hi : ∀ s, s < m.next.length → cl.getD s 0 < c
  le : c ≤ m.next.length
  st : ∀ s t, s < m.next.length → t < m.next.length → cl.getD s 0 = cl.getD t 0 → ∀ k : Nat, (k : Int) < m.letters → clL m cl s k = clL m cl t k
section
variable {m : Mac} {out nx : List Int} {fs : List Nat} {c : Nat}
theorem lead_in (hf : Fits m) {s k : Nat} (hs : s < m.next.length) (hk : (k : Int) < m.letters) : In m (lead m s k) := by
  obtain ⟨h1, h2⟩ := hf.rows _ (List.getElem_mem hs)
  have hj : k < m.next[s].length := by omega
  have e : lead m s k = m.next[s][k] := by
    unfold lead
    rw [if_neg (by omega)]
    simp [hs, hj]
  rw [e]
  exact h2 _ (List.getElem_mem hj)
theorem Ref.neg (h : Ref m out nx fs m.next.length) (p : Pre m out c) {s : Nat} (hs : s < m.next.length) : (out.getD s 0 = -1 ∧ nx.getD s 0 = -1) ∨ ∃ j, ∃ hj : j < fs.length, 0 ≤ out.getD s 0 ∧ nx.getD s 0 = (j : Int) ∧ Alike m out s fs[j] := by
  by_cases ho : 0 ≤ out.getD s 0
  · obtain ⟨j, hj, h1, h2⟩ := h.liv s hs ho
    exact Or.inr ⟨j, hj, ho, h1, h2⟩
  · have := p.lo s hs
    exact Or.inl ⟨by omega, h.dead s hs (by omega)⟩
theorem Ref.finer (h : Ref m out nx fs m.next.length) (p : Pre m out c) {s t : Nat} (hs : s < m.next.length) (ht : t < m.next.length) (e : nx.getD s 0 = nx.getD t 0) : out.getD s 0 = out.getD t 0 ∧ ((0 ≤ out.getD s 0) → ∀ k : Nat, (k : Int) < m.letters → clL m out s k = clL m out t k) := by
  rcases h.neg p hs with ⟨h1, h2⟩ | ⟨j, hj, h1, h2, h3⟩
  · rcases h.neg p ht with ⟨h4, h5⟩ | ⟨j', hj', h4, h5, h6⟩
    · exact ⟨by omega, fun h => by omega⟩
    · omega
  · rcases h.neg p ht with ⟨h4, h5⟩ | ⟨j', hj', h4, h5, h6⟩
    · omega
    · obtain rfl : j = j' := by omega
      exact ⟨by rw [h3.1, h6.1], fun _ k hk => by rw [h3.2 k (by omega), h6.2 k (by omega)]⟩
theorem Alike.symm {a b : Nat} (h : Alike m out a b) : Alike m out b a := ⟨h.1.symm, fun j hj => (h.2 j hj).symm⟩
theorem Alike.trans {a b c : Nat} (h : Alike m out a b) (h' : Alike m out b c) : Alike m out a c := ⟨h.1.trans h'.1, fun j hj => (h.2 j hj).trans (h'.2 j hj)⟩
theorem Pre.tell (hf : Fits m) (p : Pre m out c) {s t k : Nat} (hs : s < m.next.length) (ht : t < m.next.length) (hk : (k : Int) < m.letters) (hne : clL m out s k ≠ clL m out t k) : Tell m s t := by
  refine Tell.step (k := (k : Int)) (by omega) hk ?_
  obtain ⟨i1, i2⟩ := lead_in hf hs hk
  obtain ⟨j1, j2⟩ := lead_in hf ht hk
  unfold clL at hne
  generalize lead m s k = x at *
  generalize lead m t k = y at *
  by_cases hx : 0 ≤ x
  · obtain ⟨x, rfl⟩ := Int.eq_ofNat_of_zero_le hx
    by_cases hy : 0 ≤ y
    · obtain ⟨y, rfl⟩ := Int.eq_ofNat_of_zero_le hy
      rw [if_pos hx, if_pos hy, Int.toNat_natCast, Int.toNat_natCast] at hne
      exact p.tl x y (by omega) (by omega) hne
    · rw [if_pos hx, if_neg hy, Int.toNat_natCast] at hne
      have e : y = -1 := by omega
      subst e
      have := p.lo x (by omega)
      exact alive_tell ((p.lv x (by omega)).1 (by omega)) alive_not
  · have e : x = -1 := by omega
    subst e
    by_cases hy : 0 ≤ y
    · obtain ⟨y, rfl⟩ := Int.eq_ofNat_of_zero_le hy
      rw [if_neg hx, if_pos hy, Int.toNat_natCast] at hne
      have := p.lo y (by omega)
      exact (alive_tell ((p.lv y (by omega)).1 (by omega)) alive_not).symm
    · exact absurd (by rw [if_neg hx, if_neg hy]) hne
theorem Ref.pre (hf : Fits m) (h : Ref m out nx fs m.next.length) (p : Pre m out c) : Pre m nx fs.length := by
  refine ⟨h.len, fun s hs => ?_, fun s t hs ht e => p.fin s t hs ht (h.finer p hs ht e).1, fun s hs e => ?_, fun v hv => ?_, fun s hs => ?_, fun s t hs ht e => ?_⟩
  · rcases h.neg p hs with ⟨_, h2⟩ | ⟨j, hj, h1, h2, h3⟩ <;> omega
  · have ho : out.getD s 0 = -1 := by
      rcases h.neg p hs with ⟨h1, h2⟩ | ⟨j, hj, h1, h2, h3⟩
      · exact h1
      · omega
    obtain ⟨h1, h2⟩ := p.dead s hs ho
    refine ⟨h1, fun k hk => ?_⟩
    have h3 := h2 k hk
    obtain ⟨i1, i2⟩ := lead_in hf hs hk
    unfold clL at h3 ⊢
    split
    · rename_i h0
      rw [if_pos h0] at h3
      rcases h.neg p (s := (lead m s k).toNat) (by omega) with ⟨_, h5⟩ | ⟨j, hj, h5, h6, h7⟩
      · exact h5
      · omega
    · rfl
  · obtain ⟨h1, h2, h3⟩ := h.fsi v hv
    exact ⟨fs[v], h1, h2⟩
  · rw [← p.lv s hs]
    rcases h.neg p hs with ⟨h1, h2⟩ | ⟨j, hj, h1, h2, h3⟩ <;> omega
  · by_cases eo : out.getD s 0 = out.getD t 0
    case neg => exact p.tl s t hs ht eo
    rcases h.neg p hs with ⟨h1, h2⟩ | ⟨j, hj, h1, h2, h3⟩
    · rcases h.neg p ht with ⟨h4, h5⟩ | ⟨j', hj', h4, h5, h6⟩ <;> omega
    · rcases h.neg p ht with ⟨h4, h5⟩ | ⟨j', hj', h4, h5, h6⟩
      · omega
      · have hna : ¬ Alike m out s t := fun ha => by
          rcases Nat.lt_or_ge j j' with hl | hl
          · exact h.apart j' j hj' hj hl ((h6.symm.trans ha.symm).trans h3)
          · exact h.apart j j' hj hj' (by omega) ((h3.symm.trans ha).trans h6)
        refine Classical.byContradiction fun hnt => hna ⟨eo, fun k hk => ?_⟩
        exact Classical.byContradiction fun hne => hnt (p.tell hf hs ht (k := k) (by omega) hne)
theorem Ref.more (h : Ref m out nx fs m.next.length) (p : Pre m out c) : c ≤ fs.length ∧ (fs.length = c → ∀ s t, s < m.next.length → t < m.next.length → out.getD s 0 = out.getD t 0 → nx.getD s 0 = nx.getD t 0) := by
  have hL : ∀ v, v < c → v ∈ fs.map fun f => (out.getD f 0).toNat := fun v hv => by
    obtain ⟨s, hs, e⟩ := p.onto v hv
    obtain ⟨j, hj, h1, h2⟩ := h.liv s hs (by omega)
    exact List.mem_map.2 ⟨fs[j], List.getElem_mem hj, by rw [← h2.1, e]; rfl⟩
  obtain ⟨h1, h2⟩ := pig c _ hL
  rw [List.length_map] at h1 h2
  refine ⟨h1, fun e s t hs ht est => ?_⟩
  have hn := h2 e
  rcases h.neg p hs with ⟨g1, g2⟩ | ⟨j, hj, g1, g2, g3⟩
  · rcases h.neg p ht with ⟨g4, g5⟩ | ⟨j', hj', g4, g5, g6⟩
    · omega
    · omega
  · rcases h.neg p ht with ⟨g4, g5⟩ | ⟨j', hj', g4, g5, g6⟩
    · omega
    · have : j = j' := by
        refine (List.getElem_inj (h₀ := by simpa using hj) (h₁ := by simpa using hj') hn).1 ?_
        simp only [List.getElem_map]
        rw [← g3.1, ← g6.1, est]
      subst this
      rw [g2, g5]
theorem Ref.done (hf : Fits m) (h : Ref m out nx fs m.next.length) (p : Pre m out c) (e : fs.length = c) : ClsOK m nx fs.length := by
  obtain ⟨_, h2⟩ := h.more p
  have h2 := h2 e
  have p2 := h.pre hf p
  refine ⟨p2, fun s hs => ?_, h.le, fun s t hs ht est k hk => ?_⟩
  · rcases h.neg p hs with ⟨_, g2⟩ | ⟨j, hj, g1, g2, g3⟩ <;> omega
  · by_cases hm : nx.getD s 0 = -1
    · rw [(p2.dead s hs hm).2 k hk, (p2.dead t ht (by rw [← est]; exact hm)).2 k hk]
    · obtain ⟨g1, g2⟩ := h.finer p hs ht est
      have g0 : 0 ≤ out.getD s 0 := by
        rcases h.neg p hs with ⟨q1, q2⟩ | ⟨j, hj, q1, q2, q3⟩
        · exact absurd q2 hm
        · exact q1
      have g3 := g2 g0 k hk
      obtain ⟨i1, i2⟩ := lead_in hf hs hk
      obtain ⟨j1, j2⟩ := lead_in hf ht hk
      unfold clL at g3 ⊢
      by_cases a1 : 0 ≤ lead m s k
      · rw [if_pos a1] at g3 ⊢
        by_cases a2 : 0 ≤ lead m t k
        · rw [if_pos a2] at g3 ⊢
          exact h2 _ _ (by omega) (by omega) g3
        · rw [if_neg a2] at g3 ⊢
          rcases h.neg p (s := (lead m s k).toNat) (by omega) with ⟨q1, q2⟩ | ⟨j, hj, q1, q2, q3⟩
          · exact q2
          · omega
      · rw [if_neg a1] at g3 ⊢
        by_cases a2 : 0 ≤ lead m t k
        · rw [if_pos a2] at g3 ⊢
          rcases h.neg p (s := (lead m t k).toNat) (by omega) with ⟨q1, q2⟩ | ⟨j, hj, q1, q2, q3⟩
          · exact q2.symm
          · omega
        · rw [if_neg a2]
end
/-- The first numbers: by what is live, and what ends. -/
def cls0 (m : Mac) (o : List Bool) (s : Nat) : Int := if o.getD s false then (if m.fin.getD s false then 1 else 0) else -1
theorem cls0_pre {m : Mac} {o : List Bool} {out : List Int} (hf : Fits m) (h : LiveOK m o) (hl : out.length = m.next.length) (hg : ∀ s, s < m.next.length → out.getD s 0 = cls0 m o s) : Pre m out 0 := by
  refine ⟨hl, fun s hs => ?_, fun s t hs ht e => ?_, fun s hs e => ?_, fun v hv => absurd hv (Nat.not_lt_zero v), fun s hs => ?_, fun s t hs ht e => ?_⟩
  · rw [hg s hs]; unfold cls0; split <;> (try split) <;> omega
  · rw [hg s hs, hg t ht] at e
    have f1 := h.fin s
    have f2 := h.fin t
    unfold cls0 at e
    cases a : m.fin.getD s false <;> cases b : m.fin.getD t false <;> cases c : o.getD s false <;> cases d : o.getD t false <;> simp_all
  · rw [hg s hs] at e
    have ho : o.getD s false = false := by
      unfold cls0 at e
      cases c : o.getD s false
      · rfl
      · rw [c] at e; revert e; cases m.fin.getD s false <;> decide
    refine ⟨?_, fun k hk => ?_⟩
    · cases hx : m.fin.getD s false
      · rfl
      · rw [h.fin s hx] at ho; cases ho
    · rcases h.cl s hs with hc | hc
      · rw [hc] at ho; cases ho
      · obtain ⟨i1, i2⟩ := lead_in hf hs hk
        unfold clL
        split
        · rename_i h0
          rcases hc k hk with hc | hc
          · omega
          · rw [hg _ (by omega)]; unfold cls0; rw [hc]; rfl
        · rfl
  · rw [hg s hs, ← h.iff hf hs]
    unfold cls0
    cases o.getD s false <;> cases m.fin.getD s false <;> decide
  · rw [hg s hs, hg t ht] at e
    have a1 := h.iff hf hs
    have a2 := h.iff hf ht
    unfold cls0 at e
    cases c1 : o.getD s false with
    | true =>
      rw [c1] at e a1
      cases c2 : o.getD t false with
      | true =>
        rw [c2] at e
        refine ⟨[], s, t, rfl, rfl, fun e2 => e ?_⟩
        rw [ends_nat, ends_nat] at e2
        rw [e2]
      | false =>
        rw [c2] at a2
        exact alive_tell (a1.1 rfl) fun hx => Bool.noConfusion (a2.2 hx)
    | false =>
      rw [c1] at e a1
      cases c2 : o.getD t false with
      | true =>
        rw [c2] at a2
        exact (alive_tell (a2.1 rfl) fun hx => Bool.noConfusion (a1.2 hx)).symm
      | false => rw [c2] at e; exact absurd rfl e
end A
end Go.Proofs.Ytmoniecknimmdaa
end
