/- A region that draws its order, told by what each of its operations leaves behind, where a fact may speak of the values of operations ahead of it, and an operation need leave no value. append of whatever row onto a new, empty one. The reference's live: a closed set of the states from which a word is accepted. The reference's alike. Plain: the refinement of classes. Plain: the states that are found. Plain: a machine of classes, and one whose states are numbered anew, do what the first one does. newJoined: each state by itself. joined.end. joined.join. shows: where pairs have their places. shows. Contracts of the program's functions, with no condition beyond what each theorem states. -/
import Derived.Test.YtiekaicbjinbaaaC02
import Derived.Deep.AppendSrc
import Derived.BigQuiet
import Derived.Deep.OwnRows
section
namespace Go.Proofs.Ytiekaicbjinbaaa
open Go.RowKit
section
variable {P : Program} {Q : Exit → Act → World → Prop}
def noL : List Value → World → Prop := fun _ _ => False
def f1 (g : Value → World → Prop) : List Value → World → Prop := fun l w => g (l.getD 0 undef) w
def f2 (g : Value → Value → World → Prop) : List Value → World → Prop := fun l w => g (l.getD 0 undef) (l.getD 1 undef) w
def valAt (ds : List Nat) (tm : Array Value) (k : Nat) : Value := tm[ds.getD k 0]?.getD undef
def updV (vs : Nat → Value) (i : Nat) (v : Value) : Nat → Value := fun k => if k = i then v else vs k
def depB (ops : Array Oper) (ds : List Nat) (D : List (List Nat)) (n : Nat) (gs : List (Nat × Bool)) : Bool :=
  (List.range ops.size).all fun i => match ops[i]? with
    | none => false
    | some o => (match o.dst with | some x => x == ds.getD i 0 && decide (x < n) | none => decide (n ≤ ds.getD i 0)) && ((List.range ops.size).all fun j => ds.getD i 0 != ds.getD j 0 || i == j || decide (n ≤ ds.getD i 0)) && (o.after.all fun e => decide (e.on < i) && Region.binds .any e) && (match o.guard with | none => true | some g => gs.contains g && o.after.any fun e => e.on == g.1) && ((D.getD i []).all fun k => k == i || o.after.any fun e => (D.getD e.on []).contains k)
theorem wp_region_dep {id : Nat} {a0 : Act} {w0 : World} {ops : Array Oper} (ds : List Nat) (D : List (List Nat)) (F : List (List Value → World → Prop)) (R : World → World → Prop) (Rr : Nat → World → World → Prop) (Sx : Nat → World → Prop) (gs : List (Nat × Bool)) (fix : List (Nat × Value))
    (hm : P.follows .mixedOrders = true) (hB : (depB ops ds D a0.tmps.size gs && decide (ds.length = ops.size) && decide (F.length = ops.size)) = true) (hRt : ∀ a b c, R a b → R b c → R a c) (hRr : ∀ i a b, Rr i a b → R a b)
    (hst : ∀ j i (hj : j < ops.size), i < ops.size → i ≠ j → (ops[j].after.any fun e => e.on == i) = false → ∀ l w w', F.getD j noL l w → Rr i w w' → F.getD j noL l w')
    (hSs : ∀ i k (hk : k < ops.size), i ≠ k → (ops[k].after.any fun e => e.on == i) = false → ∀ w w', Sx i w → Rr k w w' → Sx i w') (hS0 : ∀ i, Sx i { w0 with drawn := w0.drawn + 1 })
    (hg : ∀ g ∈ gs, D.getD g.1 [] = [g.1] ∧ ∀ v w, F.getD g.1 noL [v] w → v = .bool g.2) (h0 : R w0 { w0 with drawn := w0.drawn + 1 }) (hfix : ∀ x ∈ fix, x.1 ∉ ds ∧ a0.tmps[x.1]?.getD undef = x.2)
    (hstep : Each (fun i o => ∀ (Q : Exit → Act → World → Prop) (tm : Array Value) (df : List Deferred) w, R w0 w → Sx i w → (∀ x ∈ fix, tm[x.1]?.getD undef = x.2) → (∀ j, (o.after.any fun e => (D.getD e.on []).contains j) = true → F.getD j noL ((D.getD j []).map (valAt ds tm)) w) →
      o.wp P ⟨tm, df⟩ w (fun a' w' => ∃ v, a' = Act.put ⟨tm, df⟩ o.dst v ∧ (o.dst = none → v = undef) ∧ F.getD i noL ((D.getD i []).map (updV (valAt ds tm) i v)) w' ∧ Rr i w w') Q) 0 ops.toList)
    (hend : ∀ (vs : Nat → Value) w, R w0 w → (∀ i < ops.size, F.getD i noL ((D.getD i []).map vs) w) → Q .normal ⟨putAll ops.size (fun i => ds.getD i 0) vs a0.tmps, a0.defers⟩ w) : (Code.region id ops true).wp P Q a0 w0 := by
  simp only [Bool.and_eq_true, decide_eq_true_eq] at hB
  obtain ⟨⟨hB1, hB2⟩, hB3⟩ := hB
  unfold depB at hB1
  rw [List.all_eq_true] at hB1
  have hB' : ∀ i (h : i < ops.size), (match ops[i].dst with | some x => x == ds.getD i 0 && decide (x < a0.tmps.size) | none => decide (a0.tmps.size ≤ ds.getD i 0)) = true ∧ (∀ j < ops.size, ds.getD i 0 = ds.getD j 0 → i = j ∨ a0.tmps.size ≤ ds.getD i 0) ∧ (∀ e ∈ ops[i].after, e.on < i ∧ Region.binds .any e = true) ∧ (match ops[i].guard with | none => true | some g => gs.contains g && ops[i].after.any fun e => e.on == g.1) = true ∧ ∀ k ∈ D.getD i [], k = i ∨ ∃ e ∈ ops[i].after, k ∈ D.getD e.on [] := fun i h => by
    have h1 := hB1 i (List.mem_range.2 h)
    rw [Array.getElem?_eq_getElem h] at h1
    simp only [Bool.and_eq_true, decide_eq_true_eq, List.all_eq_true, List.mem_range, Bool.or_eq_true, bne_iff_ne, beq_iff_eq, Array.all_eq_true_iff_forall_mem] at h1
    obtain ⟨⟨⟨⟨h2, h3⟩, h4⟩, h5⟩, h6⟩ := h1
    refine ⟨h2, fun j hj e => ?_, h4, h5, fun k hk => ?_⟩
    · rcases h3 j hj with (h | h) | h
      · exact absurd e h
      · exact .inl h
      · exact .inr h
    · rcases h6 k hk with h | h
      · exact .inl h
      · obtain ⟨e, he, he'⟩ := Array.any_eq_true'.1 h
        exact .inr ⟨e, he, by simpa using he'⟩
  clear hB1
  have hmem : ∀ i, i < ops.size → ds.getD i 0 ∈ ds := fun i hi => by
    have : i < ds.length := by omega
    have e : ds.getD i 0 = ds[i] := by simp [this]
    rw [e]
    exact List.getElem_mem this
  refine wp_region_any hm ?_
  have hall : ∀ (listed : Array Bool), listed.size = ops.size → Region.ready .any ops listed = [] → ∀ j < ops.size, listed.getD j true = true := by
    intro listed hs hr j
    induction j using Nat.strongRecOn with
    | _ j ih =>
      intro hj
      rcases hb : listed.getD j true with _ | _
      · exfalso
        have : j ∈ Region.ready .any ops listed := mem_ready.2 ⟨hb, ops[j], by simp [hj], fun e he _ => by
          have h1 := ((hB' j hj).2.2.1 e he).1
          have h2 := ih e.on h1 (by omega)
          have h3 : e.on < listed.size := by omega
          simpa [h3] using h2⟩
        rw [hr] at this
        cases this
      · rfl
  have fin : ∀ (listed : Array Bool) (tm : Array Value) (w : World), listed.size = ops.size → tm.size = a0.tmps.size → R w0 w → (∀ t, t ∉ ds → tm.getD t undef = a0.tmps.getD t undef) → (∀ j < ops.size, listed.getD j true = true → F.getD j noL ((D.getD j []).map (valAt ds tm)) w) → Region.ready .any ops listed = [] → Q .normal ⟨tm, a0.defers⟩ w := by
    intro listed tm w hs ht hR hu hf hr
    have hl := hall listed hs hr
    have h1 := hend (valAt ds tm) w hR fun i hi => hf i hi (hl i hi)
    have h2 : putAll ops.size (fun i => ds.getD i 0) (valAt ds tm) a0.tmps = tm := by
      have gen : ∀ n, n ≤ ops.size → (putAll n (fun i => ds.getD i 0) (valAt ds tm) a0.tmps).size = a0.tmps.size ∧ ∀ t, t < a0.tmps.size → (putAll n (fun i => ds.getD i 0) (valAt ds tm) a0.tmps).getD t undef = if (∃ j, j < n ∧ ds.getD j 0 = t) then tm.getD t undef else a0.tmps.getD t undef := by
        intro n
        induction n with
        | zero => intro _; exact ⟨rfl, fun t ht => by rw [if_neg (fun ⟨j, h, _⟩ => absurd h (by omega))]; rfl⟩
        | succ n ih =>
          intro hn
          obtain ⟨i1, i2⟩ := ih (by omega)
          unfold putAll at i1 i2 ⊢
          rw [List.range_succ, List.foldl_append, List.foldl_cons, List.foldl_nil]
          refine ⟨by rw [Array.size_setIfInBounds, i1], fun t ht' => ?_⟩
          dsimp only at i1 i2 ⊢
          by_cases hd : ds.getD n 0 = t
          · rw [hd, getD_setV (by rw [i1]; exact ht'), if_pos rfl, if_pos ⟨n, by omega, hd⟩]
            unfold valAt
            rw [hd, Array.getD_eq_getD_getElem?]
          · have e1 : ∀ (A : Array Value) (v : Value), (A.setIfInBounds (ds.getD n 0) v).getD t undef = A.getD t undef := fun A v => by
              simp only [Array.getD_eq_getD_getElem?, Array.getElem?_setIfInBounds]
              rw [if_neg hd]
            rw [e1, i2 t ht']
            congr 1
            apply propext
            constructor
            · rintro ⟨j, hj, e⟩; exact ⟨j, by omega, e⟩
            · rintro ⟨j, hj, e⟩
              exact ⟨j, by
                rcases Nat.lt_or_ge j n with h | h
                · exact h
                · have : j = n := by omega
                  rw [this] at e
                  exact absurd e hd, e⟩
      obtain ⟨g1, g2⟩ := gen ops.size (Nat.le_refl _)
      apply Array.ext
      · rw [g1, ht]
      · intro t ha hb
        have e1 : ∀ (A : Array Value) (h : t < A.size), A[t] = A.getD t undef := fun A h => by simp [h]
        rw [e1 _ ha, e1 _ hb, g2 t (by omega)]
        by_cases hne : ∃ j, j < ops.size ∧ ds.getD j 0 = t
        · rw [if_pos hne]
        · rw [if_neg hne]
          refine (hu t fun hmem => hne ?_).symm
          obtain ⟨j, hj, e⟩ := List.getElem_of_mem hmem
          exact ⟨j, by omega, by simp [hj, e]⟩
    rw [h2] at h1
    exact h1
  have key : ∀ (fuel : Nat) (listed : Array Bool) (tm : Array Value) (w : World), listed.size = ops.size → listed.toList.count false ≤ fuel → tm.size = a0.tmps.size → R w0 w → (∀ t, t ∉ ds → tm.getD t undef = a0.tmps.getD t undef) → (∀ j < ops.size, listed.getD j true = true → F.getD j noL ((D.getD j []).map (valAt ds tm)) w) → (∀ j < ops.size, listed.getD j true = true → ∀ k ∈ D.getD j [], k < ops.size ∧ listed.getD k true = true) → (∀ j (hj : j < ops.size), listed.getD j true = true → ∀ e ∈ ops[j].after, listed.getD e.on true = true) → (∀ j < ops.size, listed.getD j true = false → Sx j w) → wpAny P .any ops Q fuel listed ⟨tm, a0.defers⟩ w := by
    intro fuel
    induction fuel with
    | zero =>
      intro listed tm w hs hc ht hR hu hf hl hla hsx
      have hr : Region.ready .any ops listed = [] := by
        apply List.eq_nil_iff_forall_not_mem.2
        intro i hi
        obtain ⟨hb, o, ho, _⟩ := mem_ready.1 hi
        have hi' : i < ops.size := by
          rcases Nat.lt_or_ge i ops.size with h | h
          · exact h
          · rw [Array.getElem?_eq_none h] at ho; cases ho
        have := count_setB (l := listed) (i := i) (by omega) hb
        omega
      exact ⟨hr, fin listed tm w hs ht hR hu hf hr⟩
    | succ fuel ih =>
      intro listed tm w hs hc ht hR hu hf hl hla hsx
      refine ⟨fun hr => fin listed tm w hs ht hR hu hf hr, fun i hi => ?_⟩
      obtain ⟨hb, o, ho, hall'⟩ := mem_ready.1 hi
      have hi' : i < ops.size := by
        rcases Nat.lt_or_ge i ops.size with h | h
        · exact h
        · rw [Array.getElem?_eq_none h] at ho; cases ho
      have heo : ops[i] = o := by rw [Array.getElem?_eq_getElem hi'] at ho; exact Option.some.inj ho
      obtain ⟨k1, k2, k3, k4, k5⟩ := hB' i hi'
      have hdep : ∀ e ∈ ops[i].after, e.on < ops.size ∧ listed.getD e.on true = true := fun e he => by
        have h1 := k3 e he
        have h2 := hall' e (heo ▸ he) h1.2
        have h3 : e.on < listed.size := by omega
        exact ⟨by omega, by simpa [h3] using h2⟩
      have hfd : ∀ j, (ops[i].after.any fun e => (D.getD e.on []).contains j) = true → F.getD j noL ((D.getD j []).map (valAt ds tm)) w := fun j hj => by
        obtain ⟨e, he, he'⟩ := Array.any_eq_true'.1 hj
        obtain ⟨h1, h2⟩ := hdep e he
        obtain ⟨h3, h4⟩ := hl e.on h1 h2 j (by simpa using he')
        exact hf j h3 h4
      have hw : Region.wanted ops[i] (yielded ops tm) = true := by
        unfold Region.wanted
        rcases hgu : ops[i].guard with _ | ⟨j, b⟩
        · rfl
        · rw [hgu] at k4
          simp only [Bool.and_eq_true, List.contains_iff_mem] at k4
          obtain ⟨e, he, he'⟩ := Array.any_eq_true'.1 k4.2
          have he' : e.on = j := by simpa using he'
          subst he'
          obtain ⟨h1, h2⟩ := hdep e he
          obtain ⟨g1, g2⟩ := hg _ k4.1
          have h3 := hf e.on h1 h2
          rw [g1] at h3
          have h4 : tm[ds.getD e.on 0]?.getD undef = .bool b := g2 _ w h3
          have h5 : yielded ops tm e.on = some b := by
            unfold yielded
            have k1' := (hB' e.on h1).1
            rw [Array.getElem?_eq_getElem h1, Option.bind_some]
            rcases hd : ops[e.on].dst with _ | x
            · rw [hd] at k1'
              exfalso
              have k1' : a0.tmps.size ≤ ds.getD e.on 0 := by simpa using k1'
              rw [Array.getElem?_eq_none (show tm.size ≤ ds.getD e.on 0 by rw [ht]; exact k1')] at h4
              cases h4
            · rw [hd] at k1'
              simp only [Bool.and_eq_true, beq_iff_eq, decide_eq_true_eq] at k1'
              obtain ⟨rfl, hx⟩ := k1'
              replace hx : @LT.lt Nat _ (ds.getD e.on 0) a0.tmps.size := hx
              have hx' : ds.getD e.on 0 < tm.size := by omega
              rw [Option.bind_some, Array.getElem?_eq_getElem hx']
              rw [Array.getElem?_eq_getElem hx'] at h4
              rw [show tm[ds.getD e.on 0] = .bool b from h4]
          simp only [h5, beq_self_eq_true]
      unfold wpOp
      rw [Array.getElem?_eq_getElem hi']
      dsimp only
      rw [if_pos hw]
      have hs1 := Each.get hstep (i := i) (o := ops[i]) (by simp [hi']) Q tm a0.defers w hR (by rw [Nat.zero_add]; exact hsx i hi' hb) (fun x hx => by
        obtain ⟨h5, h6⟩ := hfix x hx
        have := hu x.1 h5
        simp only [Array.getD_eq_getD_getElem?] at this
        rw [this, h6]) hfd
      refine .inl (Oper.wp_mono (fun a' w' h' => ?_) hs1)
      obtain ⟨v, rfl, hvn, hv, hR'⟩ := h'
      rw [Nat.zero_add] at hv hR'
      -- the frame behind it
      obtain ⟨tm', e1, e2, e3, e4⟩ : ∃ tm', Act.put ⟨tm, a0.defers⟩ ops[i].dst v = ⟨tm', a0.defers⟩ ∧ tm'.size = tm.size ∧ (∀ k < ops.size, valAt ds tm' k = updV (valAt ds tm) i v k) ∧ ∀ t, t ∉ ds → tm'.getD t undef = tm.getD t undef := by
        rcases hd : ops[i].dst with _ | x
        · rw [hd] at k1
          have k1 : a0.tmps.size ≤ ds.getD i 0 := by simpa using k1
          refine ⟨tm, rfl, rfl, fun k hk => ?_, fun _ _ => rfl⟩
          unfold updV
          split
          · rename_i h
            rw [hvn hd, h]
            unfold valAt
            rw [Array.getElem?_eq_none (show tm.size ≤ ds.getD i 0 by omega)]
            rfl
          · rfl
        · rw [hd] at k1
          simp only [Bool.and_eq_true, beq_iff_eq, decide_eq_true_eq] at k1
          obtain ⟨rfl, hx⟩ := k1
          replace hx : @LT.lt Nat _ (ds.getD i 0) a0.tmps.size := hx
          refine ⟨tm.setIfInBounds (ds.getD i 0) v, rfl, by simp, fun k hk => ?_, fun t h => ?_⟩
          · unfold updV valAt
            rw [Array.getElem?_setIfInBounds]
            by_cases e : ds.getD i 0 = ds.getD k 0
            · have : i = k := by
                rcases k2 k hk e with h | h
                · exact h
                · exact absurd hx (Nat.not_lt.2 h)
              subst this
              have hx' : ds.getD i 0 < tm.size := by omega
              rw [if_pos rfl, if_pos hx', if_pos rfl]
              rfl
            · rw [if_neg e, if_neg (fun h => e (by rw [h]))]
          · simp only [Array.getD_eq_getD_getElem?, Array.getElem?_setIfInBounds]
            rw [if_neg (fun h' : ds.getD i 0 = t => h (h' ▸ hmem i hi'))]
      rw [e1]
      have hDi : ∀ k ∈ D.getD i [], k < ops.size ∧ (k = i ∨ listed.getD k true = true) := fun k hk => by
        rcases k5 k hk with h | ⟨e, he, he'⟩
        · exact ⟨by omega, .inl h⟩
        · obtain ⟨h1, h2⟩ := hdep e he
          obtain ⟨h3, h4⟩ := hl e.on h1 h2 k he'
          exact ⟨h3, .inr h4⟩
      refine ih (listed.setIfInBounds i true) tm' w' (by simpa using hs) ?_ (by omega) (hRt _ _ _ hR (hRr _ _ _ hR')) ?_ ?_ ?_ ?_ ?_
      · have := count_setB (l := listed) (i := i) (by omega) hb
        omega
      · intro t h
        rw [e4 t h]
        exact hu t h
      · intro j hj hlj
        rw [getD_setB (by omega)] at hlj
        by_cases e : i = j
        · subst e
          have : (D.getD i []).map (valAt ds tm') = (D.getD i []).map (updV (valAt ds tm) i v) := List.map_congr_left fun k hk => e3 k (hDi k hk).1
          rw [this]
          exact hv
        · rw [if_neg e] at hlj
          have : (D.getD j []).map (valAt ds tm') = (D.getD j []).map (valAt ds tm) := List.map_congr_left fun k hk => by
            obtain ⟨h1, h2⟩ := hl j hj hlj k hk
            rw [e3 k h1]
            unfold updV
            rw [if_neg (fun h => by rw [h] at h2; rw [h2] at hb; cases hb)]
          rw [this]
          refine hst j i hj hi' e ?_ _ _ _ (hf j hj hlj) hR'
          rw [Bool.eq_false_iff]
          intro hany
          obtain ⟨ed, hed, hed'⟩ := Array.any_eq_true'.1 hany
          have h1 := hla j hj hlj ed hed
          rw [show ed.on = i by simpa using hed', hb] at h1
          cases h1
      · intro j hj hlj k hk
        rw [getD_setB (by omega)] at hlj
        rw [getD_setB (by omega)]
        by_cases e : i = j
        · subst e
          obtain ⟨h1, h2⟩ := hDi k hk
          refine ⟨h1, ?_⟩
          rcases h2 with h | h
          · rw [if_pos h.symm]
          · split
            · rfl
            · exact h
        · rw [if_neg e] at hlj
          obtain ⟨h1, h2⟩ := hl j hj hlj k hk
          refine ⟨h1, ?_⟩
          split
          · rfl
          · exact h2
      · intro j hj hlj ed hed
        rw [getD_setB (by omega)] at hlj
        rw [getD_setB (by omega)]
        split
        · rfl
        · by_cases e : i = j
          · subst e
            exact (hdep ed hed).2
          · rw [if_neg e] at hlj
            exact hla j hj hlj ed hed
      · intro j hj hlj
        rw [getD_setB (by omega)] at hlj
        by_cases e : i = j
        · rw [if_pos e] at hlj
          cases hlj
        · rw [if_neg e] at hlj
          refine hSs j i hi' (Ne.symm e) ?_ _ _ (hsx j hj hlj) hR'
          rw [Bool.eq_false_iff]
          intro hany
          obtain ⟨ed, hed, hed'⟩ := Array.any_eq_true'.1 hany
          have h1 := (hdep ed hed).2
          rw [show ed.on = j by simpa using hed', hlj] at h1
          cases h1
  refine key ops.size _ a0.tmps _ (by simp) (by simp) rfl h0 (fun _ _ => rfl) (fun j hj hl => ?_) (fun j hj hl => ?_) (fun j hj hl => ?_) (fun j _ _ => hS0 j)
  · simp [hj] at hl
  · simp [hj] at hl
  · simp [hj] at hl
end
end Go.Proofs.Ytiekaicbjinbaaa
end
section
namespace Go.Proofs.Ytiekaicbjinbaaa
open Go.RowKit
/-- What an append onto a new, empty row leaves: a row of its own. -/
def Fresh (w : World) (e : TypeId) (v : Value) (xs : List Value) (g : Nat) : Prop := ∃ c cs, v = .slice (some ⟨g, 0, none⟩) xs.length c ∧ Blk w g e cs ∧ ∀ k, k < xs.length → cs[k]? = xs[k]?
section
variable {P : Program}
theorem run_app_empty {w : World} {t ty e : TypeId} {i : TypeInfo} {z : Value} {bytes n b : Nat} {vx : Value} {xs : List Value} (ht : P.underlying t = some (.slice e)) (hi : P.info? e = some i) (hz : i.zero = some z) (hsize : i.size = 1) (hby : i.bytes = bytes)
    (hb : Blk w b e #[]) (hs : Src P 1 t vx n xs w) (hbytes : n * bytes ≤ 140737488355328) (h63 : n ≤ 9223372036854775807) :
    ∃ v' w' g, (Builtin.append_ #[t, t] ty #[.slice (some ⟨b, 0, none⟩) 0 0, vx]).run P w = .ok v' w' ∧ (g = b ∨ g = w.heap.size) ∧ Frm (fun _ => False) w w' ∧ Fresh w' e v' xs g := by
  have hxl : xs.length = n := by rw [hs.newsLen, Nat.mul_one]
  by_cases hn : n = 0
  · subst hn
    have hx0 : xs = [] := List.eq_nil_of_length_eq_zero hxl
    subst hx0
    have hr := run_append_room_src (P := P) w t t ty e i ht hi b 0 0 0 vx 0 [] (hsize ▸ hs) (Nat.le_refl _) (fun j h => absurd h (by simp)) (fun j h => absurd h (by simp))
    refine ⟨_, _, b, hr, .inl rfl, Frm.refl _ _, 0, #[], rfl, hb, fun k hk => absurd hk (by simp)⟩
  · have hr := run_append_grow_src (P := P) w t t ty e i z ht hi hz (some ⟨b, 0, none⟩) 0 0 [] (run_firstCells_some w.drew i.size 0 ⟨b, 0, none⟩ 0 0 [] (by simp) (fun j u h => by cases h)) vx n xs (hsize ▸ hs) (by omega) (by omega) (by
      have : Builtin.nextslicecap (0 + n) 0 = n := by unfold Builtin.nextslicecap; rw [if_pos (by omega)]; omega
      rw [this, hby]; omega)
    refine ⟨_, _, w.heap.size, hr, .inr rfl, ((Frm.refl _ w).drew).alloc _, _, _, by rw [hxl, Nat.zero_add], Blk.new w.drew _ _, fun k hk => ?_⟩
    rw [List.nil_append, Array.getElem?_append_left (by simpa using hk)]
    simp
theorem wp_app_empty {o : Oper} {a : Act} {w : World} {K : Act → World → Prop} {Q : Exit → Act → World → Prop} (s x : Operand) {t e : TypeId} {i : TypeInfo} {z : Value} {bytes n b : Nat} {vx : Value} {xs : List Value}
    (ho : o.op = .call { callee := .builtin .append, args := #[s, x], argTypes := #[t, t] }) (ht : P.underlying t = some (.slice e)) (hi : P.info? e = some i) (hz : i.zero = some z) (hsize : i.size = 1) (hby : i.bytes = bytes)
    (hv : a.eval s = .slice (some ⟨b, 0, none⟩) 0 0) (hx : a.eval x = vx) (hb : Blk w b e #[]) (hs : Src P 1 t vx n xs w) (hbytes : n * bytes ≤ 140737488355328) (h63 : n ≤ 9223372036854775807)
    (h : ∀ v' w' g, (g = b ∨ g = w.heap.size) → Frm (fun _ => False) w w' → Fresh w' e v' xs g → K (a.put o.dst v') w') : o.wp P a w K Q := by
  obtain ⟨v', w', g, hr, h1, h2, h3⟩ := run_app_empty (P := P) (ty := o.type) ht hi hz hsize hby hb hs hbytes h63
  unfold Oper.wp execOp
  simp only [ho, resolve, invoke, builtin, Sem.run_bind, Sem.run_pure, Result.andThen_ok, List.map_toArray, List.map_cons, List.map_nil, hv, hx, hr]
  exact h v' w' g h1 h2 h3
end
theorem ints_src {w : World} {S : Nat → Prop} {v : Value} {l : List Int} (h : Ints w S v l) : Src Try.prog 1 28 v l.length (l.map (Value.int .i64)) w := by
  obtain ⟨A, c, rfl, h⟩ := h
  rcases A with _ | a
  · have : l = [] := by
      rcases l with _ | ⟨x, r⟩
      · rfl
      · obtain ⟨g, o, e, _⟩ := h 0 (by simp)
        cases e
    subst this
    exact Src.ofNil w Try.underlying28 c
  · refine Src.ofSlice w Try.underlying28 a _ c _ (by simp) (fun j u hu => ?_) (fun u hu => by obtain ⟨_, _, rfl⟩ := List.mem_map.1 hu; rfl)
    have hj : j < l.length := by
      rcases Nat.lt_or_ge j l.length with h | h
      · exact h
      · rw [List.getElem?_eq_none (by simpa using h)] at hu; cases hu
    obtain ⟨g, o, e, _, hc⟩ := h j hj
    injection e with e
    subst e
    have : (⟨g, o, none⟩ : Addr).add j = ⟨g, o + j, none⟩ := by
      unfold Addr.add
      split
      · subst_vars; simp
      · rfl
    rw [this, hc]
    simpa [hj] using hu
theorem bools_src {w : World} {S : Nat → Prop} {v : Value} {l : List Bool} (h : Bools w S v l) : Src Try.prog 1 23 v l.length (l.map Value.bool) w := by
  obtain ⟨A, c, rfl, h⟩ := h
  rcases A with _ | a
  · have : l = [] := by
      rcases l with _ | ⟨x, r⟩
      · rfl
      · obtain ⟨g, o, e, _⟩ := h 0 (by simp)
        cases e
    subst this
    exact Src.ofNil w Try.underlying23 c
  · refine Src.ofSlice w Try.underlying23 a _ c _ (by simp) (fun j u hu => ?_) (fun u hu => by obtain ⟨_, _, rfl⟩ := List.mem_map.1 hu; rfl)
    have hj : j < l.length := by
      rcases Nat.lt_or_ge j l.length with h | h
      · exact h
      · rw [List.getElem?_eq_none (by simpa using h)] at hu; cases hu
    obtain ⟨g, o, e, _, hc⟩ := h j hj
    injection e with e
    subst e
    have : (⟨g, o, none⟩ : Addr).add j = ⟨g, o + j, none⟩ := by
      unfold Addr.add
      split
      · subst_vars; simp
      · rfl
    rw [this, hc]
    simpa [hj] using hu
theorem Fresh.ints {w : World} {v : Value} {l : List Int} {g : Nat} (h : Fresh w 3 v (l.map (Value.int .i64)) g) : Ints w (fun b => b = g) v l := by
  obtain ⟨c, cs, e, hb, hc⟩ := h
  refine ⟨some ⟨g, 0, none⟩, c, by rw [e]; simp, fun k hk => ⟨g, 0, rfl, rfl, ?_⟩⟩
  rw [Nat.zero_add, hb.cell k, hc k (by simpa using hk)]
  simp [hk]
theorem Fresh.bools {w : World} {v : Value} {l : List Bool} {g : Nat} (h : Fresh w 4 v (l.map Value.bool) g) : Bools w (fun b => b = g) v l := by
  obtain ⟨c, cs, e, hb, hc⟩ := h
  refine ⟨some ⟨g, 0, none⟩, c, by rw [e]; simp, fun k hk => ⟨g, 0, rfl, rfl, ?_⟩⟩
  rw [Nat.zero_add, hb.cell k, hc k (by simpa using hk)]
  simp [hk]
theorem Fresh.frm {w w' : World} {e : TypeId} {v : Value} {xs : List Value} {g : Nat} {E : Nat → Prop} (h : Fresh w e v xs g) (F : Frm E w w') (hE : ¬ E g) : Fresh w' e v xs g := by
  obtain ⟨c, cs, e, hb, hc⟩ := h
  exact ⟨c, cs, e, F.blk hb hE, hc⟩
end Go.Proofs.Ytiekaicbjinbaaa
end
section
namespace Go.Proofs.Ytiekaicbjinbaaa
open Go.RowKit
theorem wpList_app_new {P : Program} {ops : Array Oper} {rest : List Oper} {o : Oper} {a : Act} {w : World} {Q : Exit → Act → World → Prop} (hw : Region.wanted o (yielded ops a.tmps) = true) (s x : Operand) {t e : TypeId} {i : TypeInfo} {z : Value} {bytes n b : Nat} {vx : Value} {xs : List Value}
    (ho : o.op = .call { callee := .builtin .append, args := #[s, x], argTypes := #[t, t] }) (ht : P.underlying t = some (.slice e)) (hi : P.info? e = some i) (hz : i.zero = some z) (hsize : i.size = 1) (hby : i.bytes = bytes)
    (hv : a.eval s = .slice (some ⟨b, 0, none⟩) 0 0) (hx : a.eval x = vx) (hb : Blk w b e #[]) (hs : Src P 1 t vx n xs w) (hbytes : n * bytes ≤ 140737488355328) (h63 : n ≤ 9223372036854775807)
    (h : ∀ v' w', Hid (Frm (fun _ => False) w w') → Hid (∃ g, w.heap.size ≤ g + 1 ∧ Fresh w' e v' xs g) → wpList P ops Q rest (a.put o.dst v') w') (hbl : w.heap.size ≤ b + 1) : wpList P ops Q (o :: rest) a w := by
  unfold wpList
  rw [if_pos hw]
  exact .inl (wp_app_empty s x ho ht hi hz hsize hby hv hx hb hs hbytes h63 fun v' w' g hg F hf => h v' w' F ⟨g, by rcases hg with rfl | rfl <;> omega, hf⟩)
theorem info_boolR : (Try.prog.info? 4).map (fun i => (i.zero, i.size, i.bytes)) = some (some (.bool false), 1, 1) := by kernel_rfl
namespace A
/-- A state's letters lead to nothing in the set, if it isn't there itself. -/
def ClosedAt (m : Mac) (o : List Bool) (s : Nat) : Prop := o.getD s false = true ∨ ∀ k : Nat, (k : Int) < m.letters → lead m s k = -1 ∨ o.getD (lead m s k).toNat false = false
structure LiveOK (m : Mac) (o : List Bool) : Prop where
  len : o.length = m.next.length
  fin : ∀ s, m.fin.getD s false = true → o.getD s false = true
  cl : ∀ s, s < m.next.length → ClosedAt m o s
def nots (o : List Bool) : Nat := o.count false
theorem nots_set {o : List Bool} {s : Nat} (hs : s < o.length) (h : o.getD s false = false) : nots (o.set s true) + 1 = nots o := by
  have e : o[s] = false := by simpa [hs] using h
  unfold nots
  rw [List.count_set hs, e]
  have : 0 < o.count false := List.count_pos_iff.2 (e ▸ List.getElem_mem hs)
  rw [if_pos (by rfl), if_neg (by decide)]
  omega
theorem getD_setO {o : List Bool} {s t : Nat} (hs : s < o.length) : (o.set s true).getD t false = if s = t then true else o.getD t false := by
  simp only [List.getD_eq_getElem?_getD, List.getElem?_set, hs, if_true]
  split <;> simp
end A
/-- A block whose first cells are a list of bools. -/
def Bl (w : World) (g : Nat) (o : List Bool) : Prop := ∃ cs, Blk w g 4 cs ∧ ∀ k, k < o.length → cs[k]? = some (.bool (o.getD k false))
theorem Bl.cell {w : World} {g : Nat} {o : List Bool} (h : Bl w g o) {k : Nat} (hk : k < o.length) : w.cell? ⟨g, k, none⟩ = some (.bool (o.getD k false)) := by
  obtain ⟨cs, hb, hc⟩ := h
  exact (hb.cell k).trans (hc k hk)
theorem Bl.frozen {w : World} {g : Nat} {o : List Bool} (h : Bl w g o) (k : Nat) : w.frozen? ⟨g, k, none⟩ = false := by
  obtain ⟨cs, hb, hc⟩ := h
  exact hb.frozen k
theorem Bl.frm {w w' : World} {g : Nat} {o : List Bool} {E : Nat → Prop} (h : Bl w g o) (F : Frm E w w') (hE : ¬ E g) : Bl w' g o := by
  obtain ⟨cs, hb, hc⟩ := h
  exact ⟨cs, F.blk hb hE, hc⟩
theorem Bl.set_ {w : World} {g : Nat} {o : List Bool} (h : Bl w g o) {s : Nat} (hs : s < o.length) : Bl (w.setCell ⟨g, s, none⟩ (.bool true)) g (o.set s true) := by
  obtain ⟨cs, hb, hc⟩ := h
  refine ⟨_, hb.set_ s _, fun k hk => ?_⟩
  rw [List.length_set] at hk
  have hcs : ∀ k, k < o.length → k < cs.size := fun k hk => by
    rcases Nat.lt_or_ge k cs.size with h | h
    · exact h
    · have := hc k hk; rw [Array.getElem?_eq_none h] at this; cases this
  rw [Array.getElem?_setIfInBounds, A.getD_setO hs]
  by_cases e : s = k
  · subst e; simp [hcs s hs]
  · rw [if_neg e, if_neg e]; exact hc k hk
set_option maxRecDepth 100000 in
set_option maxHeartbeats 8000000 in
theorem live_any {w : World} {P : Nat → Prop} {v : Value} {m : A.Mac} (h : MachAt w P v m) (hf : A.Fits m) (hn : m.next.length ≤ 4000) (hl3 : m.letters ≤ 300) : Calls Try.prog 64 #[v] w fun e w' => ∃ r o, e = .returned r ∧ Bools w' (fun b => w.heap.size ≤ b) r o ∧ A.LiveOK m o ∧ Frm (fun _ => False) w w' := by
  obtain ⟨A1, c1, A2, c2, rfl⟩ := h.form
  have F0 : Frm (fun _ => False) w (w.alloc (.cells #[.int .i64 m.letters, .int .i64 m.start, .slice A1 m.next.length c1, .slice A2 m.fin.length c2] 25)) := (Frm.refl _ w).alloc _
  have bx := Blk.new w 25 #[.int .i64 m.letters, .int .i64 m.start, .slice A1 m.next.length c1, .slice A2 m.fin.length c2]
  have HM := Lib.hid h
  have HFI := Lib.hid hf
  have HF0 := Lib.hid F0
  have HB0 := Lib.hid bx
  have hfl := hf.fin
  have x3 := bx.cell 3
  obtain ⟨nv, ev, ee, _, hE⟩ := h
  simp only [Value.agg.injEq, Array.mk.injEq, List.cons.injEq, and_true] at ee
  obtain ⟨_, _, rfl, rfl⟩ := ee
  have hSRC := bools_src ((hE.keep F0 fun _ _ => id).keep ((Frm.refl (fun _ => False) _).alloc (.cells #[] 4)) fun _ _ => id)
  have HSRC := Lib.hid hSRC
  have HFL := Lib.hid (show m.fin.length ≤ 4000 by omega)
  have HB1 : Hid (Blk ((w.alloc (.cells #[.int .i64 m.letters, .int .i64 m.start, .slice A1 m.next.length c1, .slice A2 m.fin.length c2] 25)).alloc (.cells #[] 4)) (w.heap.size + 1) 4 #[]) := blk_at (by simp)
  clear hf F0 bx hE hSRC hfl
  obtain ⟨i0, hi0, hz0, hz1, hz2⟩ := info_parts info_boolR
  go_enter Try.func64, Try.ntmps64
  go_wp2_with (at_builtin; refine wpList_app_new (by rfl) (.tmp 7) (.tmp 9) rfl Try.underlying23 hi0 hz0 hz1 hz2 (by rfl) (by rfl) HB1.out HSRC.out (by have := HFL.out; omega) (by have := HFL.out; omega) ?_ (by simp))
  intro v1 w1 f1 hg1
  obtain ⟨g, hg, c, cs, rfl, hgb, hgc⟩ := hg1.out
  rw [List.length_map] at hgc ⊢
  have HG : Hid (Bl w1 g m.fin) := ⟨cs, hgb, fun k hk => by rw [hgc k hk]; simp [hk]⟩
  have HF : Hid (Frm (fun _ => False) w w1) := (HF0.out.alloc _).trans f1.out
  have HB : Hid (Blk w1 w.heap.size 25 #[.int .i64 m.letters, .int .i64 m.start, .slice A1 m.next.length c1, .slice A2 m.fin.length c2]) := f1.out.blk (HB0.out.alloc _) id
  have HGW : Hid (w.heap.size < g) := show _ < _ by omega
  have HNF : Hid (m.next.length = m.fin.length) := HFI.out.fin
  obtain ⟨N, hN⟩ : ∃ N, N = m.fin.length := ⟨_, rfl⟩
  have HN := Lib.hid hN
  rw [← hN] at HFL HB
  clear hgb hgc hg1 f1 hg HB1 HSRC HB0 HF0 x3 hn
  obtain ⟨_, hl0⟩ : True ∧ 0 ≤ m.letters := ⟨trivial, HFI.out.letters⟩
  rw [← hN]
  clear hN
  go_wp2_with fail
  go_loopg [4] (2 * A.nots m.fin + 1) (fun n u4 wr => ∃ (o : List Bool) (b : Bool), n = 2 * A.nots o + (if b then 1 else 0) ∧ u4 = .bool b ∧ o.length = N ∧ Hid (∀ s, m.fin.getD s false = true → o.getD s false = true) ∧ Hid (b = false → ∀ s, s < N → A.ClosedAt m o s) ∧ Hid (Bl wr g o) ∧ Hid (Blk wr w.heap.size 25 #[.int .i64 m.letters, .int .i64 m.start, .slice A1 m.next.length c1, .slice A2 N c2]) ∧ Hid (Frm (fun _ => False) w wr))
  case atStart => exact ⟨m.fin, true, rfl, rfl, HN.out.symm, fun _ h => h, fun h => (Bool.noConfusion h), HG, HB, HF⟩
  case round =>
    clear HG HB HF
    obtain ⟨o, b, rfl, rfl, hol, HOF, HCL, HG, HB, HF⟩ := hrel
    cases b with
    | false =>
      have hcl := HCL.out rfl
      have HCL2 := Lib.hid hcl
      clear hcl HCL
      go_wp2_with fail
      go_ret
      refine ⟨_, o, rfl, ⟨some ⟨g, 0, none⟩, c, by rw [hol]; rfl, fun k hk => ⟨g, 0, rfl, Nat.le_of_lt HGW.out, ?_⟩⟩, ⟨by rw [hol, HNF.out]; exact HN.out, HOF.out, fun s hs => HCL2.out s (by rw [HN.out, ← HNF.out]; exact hs)⟩, HF.out⟩
      rw [Nat.zero_add]
      exact (HG.out.cell hk).trans (by simp [hk])
    | true =>
      clear HCL
      go_wp2_with fail
      obtain ⟨R, hR⟩ : ∃ R, R = A.nots o := ⟨_, rfl⟩
      go_loopg [4, 5] (N + 1) (fun n u4 u5 wr => ∃ (o' : List Bool) (b : Bool) (i : Nat), i ≤ N ∧ n = N + 1 - i ∧ u4 = .bool b ∧ u5 = .int .i64 (i : Int) ∧ o'.length = N ∧ A.nots o' + (if b then 1 else 0) ≤ R ∧ Hid (∀ s, m.fin.getD s false = true → o'.getD s false = true) ∧ Hid (b = false → ∀ s, s < i → A.ClosedAt m o' s) ∧ Hid (Bl wr g o') ∧ Hid (Blk wr w.heap.size 25 #[.int .i64 m.letters, .int .i64 m.start, .slice A1 m.next.length c1, .slice A2 N c2]) ∧ Hid (Frm (fun _ => False) w wr))
      case atStart => exact ⟨o, false, 0, Nat.zero_le _, rfl, rfl, rfl, hol, by simp [hR], HOF, fun _ s hs => absurd hs (Nat.not_lt_zero s), HG, HB, HF⟩
      case round =>
        clear HG HB HF HOF hol
        obtain ⟨o', b, i, hi, rfl, rfl, rfl, hol, hno, HOF, HCL, HG, HB, HF⟩ := hrel
        by_cases hlt : i < N
        · have hlt' : (i : Int) < (N : Int) := by omega
          have hNb := HFL.out
          go_wp2_with fail
          go_loopg [4, 6] (m.letters.toNat + 1) (fun n u4 u6 wr => ∃ (o' : List Bool) (b : Bool) (k : Nat), (k : Int) ≤ m.letters ∧ n = m.letters.toNat + 1 - k ∧ u4 = .bool b ∧ u6 = .int .i64 (k : Int) ∧ o'.length = N ∧ A.nots o' + (if b then 1 else 0) ≤ R ∧ Hid (∀ s, m.fin.getD s false = true → o'.getD s false = true) ∧ Hid (b = false → (∀ s, s < i → A.ClosedAt m o' s) ∧ ∀ j : Nat, j < k → A.lead m i j = -1 ∨ o'.getD (A.lead m i j).toNat false = false) ∧ Hid (Bl wr g o') ∧ Hid (Blk wr w.heap.size 25 #[.int .i64 m.letters, .int .i64 m.start, .slice A1 m.next.length c1, .slice A2 N c2]) ∧ Hid (Frm (fun _ => False) w wr))
          case atStart => exact ⟨o', b, 0, hl0, rfl, rfl, rfl, hol, hno, HOF, fun h => ⟨HCL.out h, fun j hj => absurd hj (Nat.not_lt_zero j)⟩, HG, HB, HF⟩
          case round =>
            clear HG HB HF HOF hol hno HCL
            obtain ⟨o', b, k, hk, rfl, rfl, rfl, hol, hno, HOF, HCL, HG, HB, HF⟩ := hrel
            have x0 := HB.out.cell 0
            have x2 := HB.out.cell 2
            by_cases hlk : (k : Int) < m.letters
            · have hio : i < o'.length := by omega
              have y0 := HG.out.cell hio
              cases hb : o'.getD i false with
              | true =>
                rw [hb] at y0
                have HCI : Hid (A.ClosedAt m o' i) := Or.inl hb
                clear hb
                go_wp2_with fail
                go_roundg (N + 1 - (i + 1))
                case measure => omega
                case rel => exact ⟨o', b, i + 1, by omega, rfl, rfl, by go_num, hol, hno, HOF, fun hb s hs => by
                  rcases Nat.lt_or_ge s i with h | h
                  · exact (HCL.out hb).1 s h
                  · obtain rfl : s = i := by omega
                    exact HCI.out, HG, HB, HF⟩
              | false =>
                rw [hb] at y0
                have HBI := Lib.hid hb
                clear hb
                have hin : i < m.next.length := by have := HNF.out; have := HN.out; omega
                obtain ⟨gn, on, A3, c3, hA, hc, hrow⟩ := HM.out.next_at hin
                obtain ⟨hr1, hr2⟩ := HFI.out.rows _ (List.getElem_mem hin)
                have hj : k < m.next[i].length := by omega
                obtain ⟨g3, o3, hA3, _, hcj⟩ := hrow k hj
                subst hA hA3
                have d0 := HF.out.cell id hc
                have d1 := HF.out.cell id hcj
                have hx := hr2 _ (List.getElem_mem hj)
                have HY : Hid (A.lead m i k = m.next[i][k]) := show _ = _ by
                  unfold A.lead
                  rw [if_neg (by omega)]
                  simp [hin, hj]
                have hj' : (k : Int) < (m.next[i].length : Int) := by omega
                clear hc hcj hrow hr1 hr2
                generalize m.next[i][k] = x at *
                clear hj
                generalize m.next[i].length = len at *
                obtain ⟨hx0, hx1⟩ := hx
                have hlt2 : (i : Int) < (m.next.length : Int) := by omega
                by_cases hneg : x < 0
                · obtain rfl : x = -1 := by omega
                  go_wp2_with fail
                  go_roundg (m.letters.toNat + 1 - (k + 1))
                  case measure => omega
                  case rel => exact ⟨o', b, k + 1, by omega, by omega, rfl, by go_num, hol, hno, HOF, fun hb => ⟨(HCL.out hb).1, fun j hj => by
                    rcases Nat.lt_or_ge j k with h | h
                    · exact (HCL.out hb).2 j h
                    · obtain rfl : j = k := by omega
                      exact Or.inl HY.out⟩, HG, HB, HF⟩
                · obtain ⟨q, rfl⟩ := Int.eq_ofNat_of_zero_le (show 0 ≤ x by omega)
                  have hq : q < o'.length := by have := HNF.out; have := HN.out; omega
                  have y1 := HG.out.cell hq
                  cases hbq : o'.getD q false with
                  | true =>
                    rw [hbq] at y1
                    have yf := HG.out.frozen i
                    have HG2 : Hid (Bl (wr.setCell ⟨g, i, none⟩ (.bool true)) g (o'.set i true)) := HG.out.set_ hio
                    have HB2 : Hid (Blk (wr.setCell ⟨g, i, none⟩ (.bool true)) w.heap.size 25 #[.int .i64 m.letters, .int .i64 m.start, .slice (some ⟨gn, on, none⟩) m.next.length c1, .slice A2 N c2]) := HB.out.far (by have := HGW.out; first | omega | (dsimp only; omega)) _
                    have HF2 : Hid (Frm (fun _ => False) w (wr.setCell ⟨g, i, none⟩ (.bool true))) := HF.out.set_ (fun h => by have := HGW.out; dsimp only at h; omega) _
                    have hn2 := A.nots_set hio HBI.out
                    have HN2 : Hid (A.nots (o'.set i true) + 1 ≤ R) := show _ ≤ _ by omega
                    have HOF2 : Hid (∀ s, m.fin.getD s false = true → (o'.set i true).getD s false = true) := fun s hs => by
                      rw [A.getD_setO hio]
                      split
                      · rfl
                      · exact HOF.out s hs
                    clear hn2 hbq
                    go_wp2_with fail
                    go_roundg (m.letters.toNat + 1 - (k + 1))
                    case measure => omega
                    case rel => exact ⟨o'.set i true, true, k + 1, by omega, by omega, rfl, by go_num, by rw [List.length_set]; exact hol, HN2.out, HOF2, fun h => Bool.noConfusion h, HG2, HB2, HF2⟩
                  | false =>
                    rw [hbq] at y1
                    have HBQ := Lib.hid hbq
                    clear hbq
                    go_wp2_with fail
                    go_roundg (m.letters.toNat + 1 - (k + 1))
                    case measure => omega
                    case rel => exact ⟨o', b, k + 1, by omega, by omega, rfl, by go_num, hol, hno, HOF, fun hb => ⟨(HCL.out hb).1, fun j hj => by
                      rcases Nat.lt_or_ge j k with h | h
                      · exact (HCL.out hb).2 j h
                      · obtain rfl : j = k := by omega
                        exact Or.inr (by rw [HY.out]; exact HBQ.out)⟩, HG, HB, HF⟩
            · have hlk' : ¬ (k : Int) < m.letters := hlk
              go_wp2_with fail
              go_roundg (N + 1 - (i + 1))
              case measure => omega
              case rel => exact ⟨o', b, i + 1, by omega, rfl, rfl, by go_num, hol, hno, HOF, fun hb s hs => by
                rcases Nat.lt_or_ge s i with h | h
                · exact (HCL.out hb).1 s h
                · obtain rfl : s = i := by omega
                  exact Or.inr fun j hj => (HCL.out hb).2 j (by omega), HG, HB, HF⟩
        · obtain rfl : i = N := by omega
          have hlt' : ¬ (i : Int) < (i : Int) := by omega
          go_wp2_with fail
          go_roundg (2 * A.nots o' + (if b then 1 else 0))
          case measure => cases b <;> simp at hno ⊢ <;> omega
          case rel => exact ⟨o', b, rfl, rfl, hol, HOF, HCL, HG, HB, HF⟩
end Go.Proofs.Ytiekaicbjinbaaa
end
section
namespace Go.Proofs.Ytiekaicbjinbaaa
open Go.RowKit
namespace A
/-- The number of the state that a letter leads to. -/
def clL (m : Mac) (cl : List Int) (s k : Int) : Int := if 0 ≤ lead m s k then cl.getD (lead m s k).toNat 0 else -1
def AlikeTo (m : Mac) (cl : List Int) (a b n : Nat) : Prop := ∀ j : Nat, j < n → clL m cl a j = clL m cl b j
def Alike (m : Mac) (cl : List Int) (a b : Nat) : Prop := cl.getD a 0 = cl.getD b 0 ∧ AlikeTo m cl a b m.letters.toNat
end A
/-- A call tells whether something is so. -/
def YesIf (p : Prop) (e : Ending) : Prop := ∃ r : Bool, e = .returned (.bool r) ∧ (r = true ↔ p)
theorem Ints.get {w : World} {P : Nat → Prop} {A0 : Option Addr} {n c : Nat} {l : List Int} (h : Ints w P (.slice A0 n c) l) {k : Nat} (hk : k < l.length) : ∃ g o, A0 = some ⟨g, o, none⟩ ∧ P g ∧ w.cell? ⟨g, o + k, none⟩ = some (.int .i64 (l.getD k 0)) := by
  obtain ⟨A1, c1, e, h⟩ := h
  injection e with e1 e2 e3
  subst e1
  obtain ⟨g, o, h1, h2, h3⟩ := h k hk
  exact ⟨g, o, h1, h2, by rw [h3]; simp [hk]⟩
set_option maxRecDepth 100000 in
set_option maxHeartbeats 8000000 in
theorem alike_any {w : World} {P Q : Nat → Prop} {v vc : Value} {m : A.Mac} {cl : List Int} (h : MachAt w P v m) (hf : A.Fits m) (hl3 : m.letters ≤ 300) (hc : Ints w Q vc cl) (hcl : cl.length = m.next.length) {a b : Nat} (ha : a < m.next.length) (hb : b < m.next.length) :
    Calls Try.prog 65 #[v, vc, .int .i64 (a : Int), .int .i64 (b : Int)] w fun e w' => YesIf (A.Alike m cl a b) e ∧ Frm (fun _ => False) w w' := by
  obtain ⟨A1, c1, A2, c2, rfl⟩ := h.form
  obtain ⟨AC, cc, rfl, _⟩ := id hc
  have HF0 : Hid (Frm (fun _ => False) w (w.alloc (.cells #[.int .i64 m.letters, .int .i64 m.start, .slice A1 m.next.length c1, .slice A2 m.fin.length c2] 25))) := (Frm.refl _ w).alloc _
  have HB0 : Hid (Blk (w.alloc (.cells #[.int .i64 m.letters, .int .i64 m.start, .slice A1 m.next.length c1, .slice A2 m.fin.length c2] 25)) w.heap.size 25 #[.int .i64 m.letters, .int .i64 m.start, .slice A1 m.next.length c1, .slice A2 m.fin.length c2]) := Blk.new w _ _
  have HM := Lib.hid h
  have HC := Lib.hid hc
  have HFI := Lib.hid hf
  have hl0 := hf.letters
  obtain ⟨gc, oc, rfl, _, ya⟩ := hc.get (k := a) (by omega)
  obtain ⟨_, _, e, _, yb⟩ := hc.get (k := b) (by omega)
  simp only [Option.some.injEq, Addr.mk.injEq, and_true] at e
  obtain ⟨rfl, rfl⟩ := e
  have ya := HF0.out.cell id ya
  have yb := HF0.out.cell id yb
  have HX : Hid (A.Alike m cl a b ↔ cl.getD a 0 = cl.getD b 0 ∧ A.AlikeTo m cl a b m.letters.toNat) := Iff.rfl
  clear h hf hc
  have hac : (a : Int) < (cl.length : Int) := by omega
  have hbc : (b : Int) < (cl.length : Int) := by omega
  generalize cl.getD a 0 = ca at *
  generalize cl.getD b 0 = cb at *
  go_enter Try.func65, Try.ntmps65
  go_wp2_with fail
  by_cases hab : ca = cb
  · have hne : (ca != cb) = false := by rw [hab]; simp
    have HAB := Lib.hid hab
    clear hab
    go_quiet (fail)
    go_wp2_with fail
    have HX2 : Hid (A.Alike m cl a b ↔ A.AlikeTo m cl a b m.letters.toNat) := HX.out.trans ⟨fun h => h.2, fun h => ⟨HAB.out, h⟩⟩
    clear ya yb hne HX
    go_loopg [9] (m.letters.toNat + 1) (fun n u wr => ∃ k : Nat, (k : Int) ≤ m.letters ∧ n = m.letters.toNat + 1 - k ∧ u = .int .i64 (k : Int) ∧ Hid (A.AlikeTo m cl a b k) ∧ Hid (Blk wr w.heap.size 25 #[.int .i64 m.letters, .int .i64 m.start, .slice A1 m.next.length c1, .slice A2 m.fin.length c2]) ∧ Hid (Frm (fun _ => False) w wr))
    case atStart => exact ⟨0, hl0, rfl, rfl, fun j hj => absurd hj (Nat.not_lt_zero j), by first | exact HB0 | exact HB0.out.drewN _, by first | exact HF0 | exact HF0.out.drewN _⟩
    case round =>
      clear HB0 HF0
      obtain ⟨k, hk, rfl, rfl, HA, HB, HF⟩ := hrel
      have x0 := HB.out.cell 0
      have x2 := HB.out.cell 2
      by_cases hlk : (k : Int) < m.letters
      · obtain ⟨gn, on, A3, c3, hA, hca, hrow⟩ := HM.out.next_at ha
        subst hA
        obtain ⟨hr1, hr2⟩ := HFI.out.rows _ (List.getElem_mem ha)
        have hj : k < m.next[a].length := by omega
        obtain ⟨g3, o3, hA3, _, hcj⟩ := hrow k hj
        subst hA3
        have d0 := HF.out.cell id hca
        have d1 := HF.out.cell id hcj
        obtain ⟨hx0, hx1⟩ := hr2 _ (List.getElem_mem hj)
        obtain ⟨gn', on', A4, c4, e, hca', hrow'⟩ := HM.out.next_at hb
        simp only [Option.some.injEq, Addr.mk.injEq, and_true] at e
        obtain ⟨rfl, rfl⟩ := e
        obtain ⟨hs1, hs2⟩ := HFI.out.rows _ (List.getElem_mem hb)
        have hj' : k < m.next[b].length := by omega
        obtain ⟨g4, o4, hA4, _, hcj'⟩ := hrow' k hj'
        subst hA4
        have d2 := HF.out.cell id hca'
        have d3 := HF.out.cell id hcj'
        obtain ⟨hy0, hy1⟩ := hs2 _ (List.getElem_mem hj')
        have eX : A.lead m a k = m.next[a][k] := by
          unfold A.lead
          rw [if_neg (by omega)]
          simp [ha, hj]
        have eY : A.lead m b k = m.next[b][k] := by
          unfold A.lead
          rw [if_neg (by omega)]
          simp [hb, hj']
        have HEX : Hid (A.clL m cl a k = if 0 ≤ m.next[a][k] then cl.getD (m.next[a][k]).toNat 0 else -1) := by show _ = _; unfold A.clL; rw [eX]
        have HEY : Hid (A.clL m cl b k = if 0 ≤ m.next[b][k] then cl.getD (m.next[b][k]).toNat 0 else -1) := by show _ = _; unfold A.clL; rw [eY]
        have hjk : (k : Int) < (m.next[a].length : Int) := by omega
        have hjk' : (k : Int) < (m.next[b].length : Int) := by omega
        have hla : (a : Int) < (m.next.length : Int) := by omega
        have hlb : (b : Int) < (m.next.length : Int) := by omega
        clear hca hcj hrow hr1 hr2 hca' hcj' hrow' hs1 hs2 eX eY
        generalize m.next[a][k] = x at *
        generalize m.next[b][k] = y at *
        clear hj hj'
        generalize m.next[a].length = lena at *
        generalize m.next[b].length = lenb at *
        have key : ∀ X Y : Int, A.clL m cl a k = X → A.clL m cl b k = Y → X = Y → A.AlikeTo m cl a b (k + 1) := fun X Y h1 h2 h3 j hj => by
          rcases Nat.lt_or_ge j k with h | h
          · exact HA.out j h
          · obtain rfl : j = k := by omega
            rw [h1, h2, h3]
        have key2 : ∀ X Y : Int, A.clL m cl a k = X → A.clL m cl b k = Y → X ≠ Y → ¬ A.Alike m cl a b := fun X Y h1 h2 h3 h => h3 (by
          rw [← h1, ← h2]
          exact HX2.out.1 h k (by omega))
        have HK := Lib.hid key
        have HK2 := Lib.hid key2
        clear key key2
        have hxx : (x = -1 ∧ A.clL m cl a k = -1) ∨ ∃ q : Nat, x = (q : Int) ∧ (q : Int) < (cl.length : Int) ∧ A.clL m cl a k = cl.getD q 0 ∧ wr.cell? ⟨gc, oc + q, none⟩ = some (.int .i64 (cl.getD q 0)) := by
          by_cases h0 : 0 ≤ x
          · obtain ⟨q, rfl⟩ := Int.eq_ofNat_of_zero_le h0
            obtain ⟨_, _, e, _, yq⟩ := HC.out.get (k := q) (by omega)
            simp only [Option.some.injEq, Addr.mk.injEq, and_true] at e
            obtain ⟨rfl, rfl⟩ := e
            exact Or.inr ⟨q, rfl, by omega, by rw [HEX.out, if_pos h0, Int.toNat_natCast], HF.out.cell id yq⟩
          · exact Or.inl ⟨by omega, by rw [HEX.out, if_neg h0]⟩
        have hyy : (y = -1 ∧ A.clL m cl b k = -1) ∨ ∃ q : Nat, y = (q : Int) ∧ (q : Int) < (cl.length : Int) ∧ A.clL m cl b k = cl.getD q 0 ∧ wr.cell? ⟨gc, oc + q, none⟩ = some (.int .i64 (cl.getD q 0)) := by
          by_cases h0 : 0 ≤ y
          · obtain ⟨q, rfl⟩ := Int.eq_ofNat_of_zero_le h0
            obtain ⟨_, _, e, _, yq⟩ := HC.out.get (k := q) (by omega)
            simp only [Option.some.injEq, Addr.mk.injEq, and_true] at e
            obtain ⟨rfl, rfl⟩ := e
            exact Or.inr ⟨q, rfl, by omega, by rw [HEY.out, if_pos h0, Int.toNat_natCast], HF.out.cell id yq⟩
          · exact Or.inl ⟨by omega, by rw [HEY.out, if_neg h0]⟩
        clear HEX HEY hx0 hx1 hy0 hy1 hac hbc ya yb
        rcases hxx with ⟨rfl, eX⟩ | ⟨q, rfl, hq, eX, yq⟩ <;> rcases hyy with ⟨rfl, eY⟩ | ⟨q', rfl, hq', eY, yq'⟩
        · have HA2 := Lib.hid (HK.out _ _ eX eY rfl)
          clear eX eY
          go_wp2_with fail
          go_roundg (m.letters.toNat + 1 - (k + 1))
          case measure => omega
          case rel => exact ⟨k + 1, by omega, by omega, by go_num, HA2, HB, HF⟩
        · generalize cl.getD q' 0 = Y at *
          by_cases hXY : (-1 : Int) = Y
          · have HA2 := Lib.hid (HK.out _ _ eX eY hXY)
            have hb : ((-1 : Int) != Y) = false := by rw [hXY]; simp
            clear eX eY hXY
            go_wp2_with fail
            go_roundg (m.letters.toNat + 1 - (k + 1))
            case measure => omega
            case rel => exact ⟨k + 1, by omega, by omega, by go_num, HA2, HB, HF⟩
          · have HA2 := Lib.hid (HK2.out _ _ eX eY hXY)
            have hb : ((-1 : Int) != Y) = true := by rw [bne_iff_ne]; exact hXY
            clear eX eY hXY
            go_wp2_with fail
            go_ret
            exact ⟨⟨false, rfl, by simp [HA2.out]⟩, HF.out⟩
        · generalize cl.getD q 0 = X at *
          by_cases hXY : (X : Int) = -1
          · have HA2 := Lib.hid (HK.out _ _ eX eY hXY)
            have hb : ((X : Int) != -1) = false := by rw [hXY]; simp
            clear eX eY hXY
            go_wp2_with fail
            go_roundg (m.letters.toNat + 1 - (k + 1))
            case measure => omega
            case rel => exact ⟨k + 1, by omega, by omega, by go_num, HA2, HB, HF⟩
          · have HA2 := Lib.hid (HK2.out _ _ eX eY hXY)
            have hb : ((X : Int) != -1) = true := by rw [bne_iff_ne]; exact hXY
            clear eX eY hXY
            go_wp2_with fail
            go_ret
            exact ⟨⟨false, rfl, by simp [HA2.out]⟩, HF.out⟩
        · obtain ⟨X, hX⟩ : ∃ X, X = cl.getD q 0 := ⟨_, rfl⟩
          obtain ⟨Y, hY⟩ : ∃ Y, Y = cl.getD q' 0 := ⟨_, rfl⟩
          rw [← hX] at eX yq
          rw [← hY] at eY yq'
          clear hX hY
          by_cases hXY : (X : Int) = Y
          · have HA2 := Lib.hid (HK.out _ _ eX eY hXY)
            have hb : ((X : Int) != Y) = false := by rw [hXY]; simp
            clear eX eY hXY
            go_wp2_with fail
            go_roundg (m.letters.toNat + 1 - (k + 1))
            case measure => omega
            case rel => exact ⟨k + 1, by omega, by omega, by go_num, HA2, HB, HF⟩
          · have HA2 := Lib.hid (HK2.out _ _ eX eY hXY)
            have hb : ((X : Int) != Y) = true := by rw [bne_iff_ne]; exact hXY
            clear eX eY hXY
            go_wp2_with fail
            go_ret
            exact ⟨⟨false, rfl, by simp [HA2.out]⟩, HF.out⟩
      · have HAA : Hid (A.Alike m cl a b) := HX2.out.2 fun j hj => HA.out j (by omega)
        go_wp2_with fail
        go_ret
        exact ⟨⟨true, rfl, by simp [HAA.out]⟩, HF.out⟩
  · have hne : (ca != cb) = true := by rw [bne_iff_ne]; exact hab
    have HAB := Lib.hid hab
    clear hab
    go_quiet (fail)
    go_wp2_with fail
    go_ret
    exact ⟨⟨false, rfl, by simp [HX.out, HAB.out]⟩, by first | exact HF0.out | exact HF0.out.drewN _⟩
end Go.Proofs.Ytiekaicbjinbaaa
end
section
namespace Go.Proofs.Ytiekaicbjinbaaa
open Go.RowKit
namespace A
theorem pig : ∀ (c : Nat) (L : List Nat), (∀ v, v < c → v ∈ L) → c ≤ L.length ∧ (L.length = c → L.Nodup)
  | 0, L, _ => ⟨Nat.zero_le _, fun h => by rw [List.length_eq_zero_iff] at h; subst h; exact List.nodup_nil⟩
  | c + 1, L, h => by
    have hc : c ∈ L := h c (Nat.lt_succ_self c)
    have hl : (L.erase c).length = L.length - 1 := List.length_erase_of_mem hc
    have hp : 0 < L.length := List.length_pos_of_mem hc
    have h1 : ∀ v, v < c → v ∈ L.erase c := fun v hv => (List.mem_erase_of_ne (by omega)).2 (h v (by omega))
    obtain ⟨h2, h3⟩ := pig c _ h1
    refine ⟨by omega, fun e => ?_⟩
    have hn := h3 (by omega)
    have hcn : c ∉ L.erase c := fun hm => by
      have hl2 := List.length_erase_of_mem hm
      have hp2 : 0 < (L.erase c).length := List.length_pos_of_mem hm
      obtain ⟨h4, _⟩ := pig c ((L.erase c).erase c) (fun v hv => (List.mem_erase_of_ne (by omega)).2 (h1 v hv))
      omega
    exact (List.perm_cons_erase hc).nodup_iff.2 (List.nodup_cons.2 ⟨hcn, hn⟩)
theorem getD_setR {l : List Int} {s t : Nat} {x : Int} (hs : s < l.length) : (l.set s x).getD t 0 = if s = t then x else l.getD t 0 := by
  simp only [List.getD_eq_getElem?_getD, List.getElem?_set, hs, if_true]
  split <;> simp
/-- What one round of the refinement has come to at state i. -/
structure Ref (m : Mac) (out nx : List Int) (fs : List Nat) (i : Nat) : Prop where
  len : nx.length = m.next.length
  le : fs.length ≤ i
  fsi : ∀ j (h : j < fs.length), fs[j] < i ∧ nx.getD fs[j] 0 = (j : Int) ∧ 0 ≤ out.getD fs[j] 0
  dead : ∀ s, s < i → out.getD s 0 < 0 → nx.getD s 0 = -1
  liv : ∀ s, s < i → 0 ≤ out.getD s 0 → ∃ j, ∃ h : j < fs.length, nx.getD s 0 = (j : Int) ∧ Alike m out s fs[j]
theorem Alike.refl {m : Mac} {cl : List Int} {a : Nat} : Alike m cl a a := ⟨rfl, fun _ _ => rfl⟩
theorem Ref.dead_ {m : Mac} {out nx : List Int} {fs : List Nat} {i : Nat} (h : Ref m out nx fs i) (hi : i < m.next.length) (ho : out.getD i 0 < 0) : Ref m out (nx.set i (-1)) fs (i + 1) := by
  have hl : i < nx.length := by rw [h.len]; exact hi
  refine ⟨by rw [List.length_set]; exact h.len, Nat.le_succ_of_le h.le, fun j hj => ?_, fun s hs hd => ?_, fun s hs hd => ?_⟩
  · obtain ⟨h1, h2, h3⟩ := h.fsi j hj
    exact ⟨by omega, by rw [getD_setR hl, if_neg (by omega)]; exact h2, h3⟩
  · rw [getD_setR hl]
    split
    · rfl
    · exact h.dead s (by omega) hd
  · rw [getD_setR hl, if_neg (by rintro rfl; omega)]
    exact h.liv s (by have : s ≠ i := (by rintro rfl; omega); omega) hd
theorem Ref.old {m : Mac} {out nx : List Int} {fs : List Nat} {i k : Nat} (h : Ref m out nx fs i) (hi : i < m.next.length) (ho : 0 ≤ out.getD i 0) (hk : k < fs.length) (ha : Alike m out i fs[k]) : Ref m out (nx.set i (k : Int)) fs (i + 1) := by
  have hl : i < nx.length := by rw [h.len]; exact hi
  refine ⟨by rw [List.length_set]; exact h.len, Nat.le_succ_of_le h.le, fun j hj => ?_, fun s hs hd => ?_, fun s hs hd => ?_⟩
  · obtain ⟨h1, h2, h3⟩ := h.fsi j hj
    exact ⟨by omega, by rw [getD_setR hl, if_neg (by omega)]; exact h2, h3⟩
  · rw [getD_setR hl, if_neg (by rintro rfl; omega)]
    exact h.dead s (by have : s ≠ i := (by rintro rfl; omega); omega) hd
  · rw [getD_setR hl]
    by_cases e : i = s
    · subst e
      rw [if_pos rfl]
      exact ⟨k, hk, rfl, ha⟩
    · rw [if_neg e]
      exact h.liv s (by omega) hd
theorem Ref.new {m : Mac} {out nx : List Int} {fs : List Nat} {i : Nat} (h : Ref m out nx fs i) (hi : i < m.next.length) (ho : 0 ≤ out.getD i 0) : Ref m out (nx.set i (fs.length : Int)) (fs ++ [i]) (i + 1) := by
  have hl : i < nx.length := by rw [h.len]; exact hi
  have hle := h.le
  refine ⟨by rw [List.length_set]; exact h.len, by simp; omega, fun j hj => ?_, fun s hs hd => ?_, fun s hs hd => ?_⟩
  · rw [List.length_append, List.length_singleton] at hj
    by_cases e : j < fs.length
    · rw [List.getElem_append_left e]
      obtain ⟨h1, h2, h3⟩ := h.fsi j e
      exact ⟨by omega, by rw [getD_setR hl, if_neg (by omega)]; exact h2, h3⟩
    · obtain rfl : j = fs.length := by omega
      rw [List.getElem_append_right (Nat.le_refl _)]
      simp only [Nat.sub_self, List.getElem_cons_zero]
      exact ⟨by omega, by rw [getD_setR hl, if_pos rfl], ho⟩
  · rw [getD_setR hl, if_neg (by rintro rfl; omega)]
    exact h.dead s (by have : s ≠ i := (by rintro rfl; omega); omega) hd
  · rw [getD_setR hl]
    by_cases e : i = s
    · subst e
      rw [if_pos rfl]
      refine ⟨fs.length, by simp, rfl, ?_⟩
      rw [List.getElem_append_right (Nat.le_refl _)]
      simp only [Nat.sub_self, List.getElem_cons_zero]
      exact .refl
    · rw [if_neg e]
      obtain ⟨j, hj, h1, h2⟩ := h.liv s (by omega) hd
      exact ⟨j, by simp; omega, h1, by rw [List.getElem_append_left hj]; exact h2⟩
/-- What the numbers are before they are refined to their end. -/
structure Pre (m : Mac) (out : List Int) (c : Nat) : Prop where
  len : out.length = m.next.length
  lo : ∀ s, s < m.next.length → -1 ≤ out.getD s 0
  fin : ∀ s t, s < m.next.length → t < m.next.length → out.getD s 0 = out.getD t 0 → m.fin.getD s false = m.fin.getD t false
  dead : ∀ s, s < m.next.length → out.getD s 0 = -1 → m.fin.getD s false = false ∧ ∀ k : Nat, (k : Int) < m.letters → clL m out s k = -1
  onto : ∀ v : Nat, v < c → ∃ s, s < m.next.length ∧ out.getD s 0 = (v : Int)
/-- Numbers of classes that hold. -/
structure ClsOK (m : Mac) (cl : List Int) (c : Nat) : Prop extends Pre m cl c where
  hi : ∀ s, s < m.next.length → cl.getD s 0 < c
  le : c ≤ m.next.length
  st : ∀ s t, s < m.next.length → t < m.next.length → cl.getD s 0 = cl.getD t 0 → ∀ k : Nat, (k : Int) < m.letters → clL m cl s k = clL m cl t k
section
variable {m : Mac} {out nx : List Int} {fs : List Nat} {c : Nat}
theorem lead_in (hf : Fits m) {s k : Nat} (hs : s < m.next.length) (hk : (k : Int) < m.letters) : In m (lead m s k) := by
  obtain ⟨h1, h2⟩ := hf.rows _ (List.getElem_mem hs)
  have hj : k < m.next[s].length := by omega
  have e : lead m s k = m.next[s][k] := by
    unfold lead
    rw [if_neg (by omega)]
    simp [hs, hj]
  rw [e]
  exact h2 _ (List.getElem_mem hj)
theorem Ref.neg (h : Ref m out nx fs m.next.length) (p : Pre m out c) {s : Nat} (hs : s < m.next.length) : (out.getD s 0 = -1 ∧ nx.getD s 0 = -1) ∨ ∃ j, ∃ hj : j < fs.length, 0 ≤ out.getD s 0 ∧ nx.getD s 0 = (j : Int) ∧ Alike m out s fs[j] := by
  by_cases ho : 0 ≤ out.getD s 0
  · obtain ⟨j, hj, h1, h2⟩ := h.liv s hs ho
    exact Or.inr ⟨j, hj, ho, h1, h2⟩
  · have := p.lo s hs
    exact Or.inl ⟨by omega, h.dead s hs (by omega)⟩
theorem Ref.finer (h : Ref m out nx fs m.next.length) (p : Pre m out c) {s t : Nat} (hs : s < m.next.length) (ht : t < m.next.length) (e : nx.getD s 0 = nx.getD t 0) : out.getD s 0 = out.getD t 0 ∧ ((0 ≤ out.getD s 0) → ∀ k : Nat, (k : Int) < m.letters → clL m out s k = clL m out t k) := by
  rcases h.neg p hs with ⟨h1, h2⟩ | ⟨j, hj, h1, h2, h3⟩
  · rcases h.neg p ht with ⟨h4, h5⟩ | ⟨j', hj', h4, h5, h6⟩
    · exact ⟨by omega, fun h => by omega⟩
    · omega
  · rcases h.neg p ht with ⟨h4, h5⟩ | ⟨j', hj', h4, h5, h6⟩
    · omega
    · obtain rfl : j = j' := by omega
      exact ⟨by rw [h3.1, h6.1], fun _ k hk => by rw [h3.2 k (by omega), h6.2 k (by omega)]⟩
theorem Ref.pre (hf : Fits m) (h : Ref m out nx fs m.next.length) (p : Pre m out c) : Pre m nx fs.length := by
  refine ⟨h.len, fun s hs => ?_, fun s t hs ht e => p.fin s t hs ht (h.finer p hs ht e).1, fun s hs e => ?_, fun v hv => ?_⟩
  · rcases h.neg p hs with ⟨_, h2⟩ | ⟨j, hj, h1, h2, h3⟩ <;> omega
  · have ho : out.getD s 0 = -1 := by
      rcases h.neg p hs with ⟨h1, h2⟩ | ⟨j, hj, h1, h2, h3⟩
      · exact h1
      · omega
    obtain ⟨h1, h2⟩ := p.dead s hs ho
    refine ⟨h1, fun k hk => ?_⟩
    have h3 := h2 k hk
    obtain ⟨i1, i2⟩ := lead_in hf hs hk
    unfold clL at h3 ⊢
    split
    · rename_i h0
      rw [if_pos h0] at h3
      rcases h.neg p (s := (lead m s k).toNat) (by omega) with ⟨_, h5⟩ | ⟨j, hj, h5, h6, h7⟩
      · exact h5
      · omega
    · rfl
  · obtain ⟨h1, h2, h3⟩ := h.fsi v hv
    exact ⟨fs[v], h1, h2⟩
theorem Ref.more (h : Ref m out nx fs m.next.length) (p : Pre m out c) : c ≤ fs.length ∧ (fs.length = c → ∀ s t, s < m.next.length → t < m.next.length → out.getD s 0 = out.getD t 0 → nx.getD s 0 = nx.getD t 0) := by
  have hL : ∀ v, v < c → v ∈ fs.map fun f => (out.getD f 0).toNat := fun v hv => by
    obtain ⟨s, hs, e⟩ := p.onto v hv
    obtain ⟨j, hj, h1, h2⟩ := h.liv s hs (by omega)
    exact List.mem_map.2 ⟨fs[j], List.getElem_mem hj, by rw [← h2.1, e]; rfl⟩
  obtain ⟨h1, h2⟩ := pig c _ hL
  rw [List.length_map] at h1 h2
  refine ⟨h1, fun e s t hs ht est => ?_⟩
  have hn := h2 e
  rcases h.neg p hs with ⟨g1, g2⟩ | ⟨j, hj, g1, g2, g3⟩
  · rcases h.neg p ht with ⟨g4, g5⟩ | ⟨j', hj', g4, g5, g6⟩
    · omega
    · omega
  · rcases h.neg p ht with ⟨g4, g5⟩ | ⟨j', hj', g4, g5, g6⟩
    · omega
    · have : j = j' := by
        refine (List.getElem_inj (h₀ := by simpa using hj) (h₁ := by simpa using hj') hn).1 ?_
        simp only [List.getElem_map]
        rw [← g3.1, ← g6.1, est]
      subst this
      rw [g2, g5]
theorem Ref.done (hf : Fits m) (h : Ref m out nx fs m.next.length) (p : Pre m out c) (e : fs.length = c) : ClsOK m nx fs.length := by
  obtain ⟨_, h2⟩ := h.more p
  have h2 := h2 e
  have p2 := h.pre hf p
  refine ⟨p2, fun s hs => ?_, h.le, fun s t hs ht est k hk => ?_⟩
  · rcases h.neg p hs with ⟨_, g2⟩ | ⟨j, hj, g1, g2, g3⟩ <;> omega
  · by_cases hm : nx.getD s 0 = -1
    · rw [(p2.dead s hs hm).2 k hk, (p2.dead t ht (by rw [← est]; exact hm)).2 k hk]
    · obtain ⟨g1, g2⟩ := h.finer p hs ht est
      have g0 : 0 ≤ out.getD s 0 := by
        rcases h.neg p hs with ⟨q1, q2⟩ | ⟨j, hj, q1, q2, q3⟩
        · exact absurd q2 hm
        · exact q1
      have g3 := g2 g0 k hk
      obtain ⟨i1, i2⟩ := lead_in hf hs hk
      obtain ⟨j1, j2⟩ := lead_in hf ht hk
      unfold clL at g3 ⊢
      by_cases a1 : 0 ≤ lead m s k
      · rw [if_pos a1] at g3 ⊢
        by_cases a2 : 0 ≤ lead m t k
        · rw [if_pos a2] at g3 ⊢
          exact h2 _ _ (by omega) (by omega) g3
        · rw [if_neg a2] at g3 ⊢
          rcases h.neg p (s := (lead m s k).toNat) (by omega) with ⟨q1, q2⟩ | ⟨j, hj, q1, q2, q3⟩
          · exact q2
          · omega
      · rw [if_neg a1] at g3 ⊢
        by_cases a2 : 0 ≤ lead m t k
        · rw [if_pos a2] at g3 ⊢
          rcases h.neg p (s := (lead m t k).toNat) (by omega) with ⟨q1, q2⟩ | ⟨j, hj, q1, q2, q3⟩
          · exact q2.symm
          · omega
        · rw [if_neg a2]
end
/-- The first numbers: by what is live, and what ends. -/
def cls0 (m : Mac) (o : List Bool) (s : Nat) : Int := if o.getD s false then (if m.fin.getD s false then 1 else 0) else -1
theorem cls0_pre {m : Mac} {o : List Bool} {out : List Int} (hf : Fits m) (h : LiveOK m o) (hl : out.length = m.next.length) (hg : ∀ s, s < m.next.length → out.getD s 0 = cls0 m o s) : Pre m out 0 := by
  refine ⟨hl, fun s hs => ?_, fun s t hs ht e => ?_, fun s hs e => ?_, fun v hv => absurd hv (Nat.not_lt_zero v)⟩
  · rw [hg s hs]; unfold cls0; split <;> (try split) <;> omega
  · rw [hg s hs, hg t ht] at e
    have f1 := h.fin s
    have f2 := h.fin t
    unfold cls0 at e
    cases a : m.fin.getD s false <;> cases b : m.fin.getD t false <;> cases c : o.getD s false <;> cases d : o.getD t false <;> simp_all
  · rw [hg s hs] at e
    have ho : o.getD s false = false := by
      unfold cls0 at e
      cases c : o.getD s false
      · rfl
      · rw [c] at e; revert e; cases m.fin.getD s false <;> decide
    refine ⟨?_, fun k hk => ?_⟩
    · cases hx : m.fin.getD s false
      · rfl
      · rw [h.fin s hx] at ho; cases ho
    · rcases h.cl s hs with hc | hc
      · rw [hc] at ho; cases ho
      · obtain ⟨i1, i2⟩ := lead_in hf hs hk
        unfold clL
        split
        · rename_i h0
          rcases hc k hk with hc | hc
          · omega
          · rw [hg _ (by omega)]; unfold cls0; rw [hc]; rfl
        · rfl
end A
end Go.Proofs.Ytiekaicbjinbaaa
end
section
namespace Go.Proofs.Ytiekaicbjinbaaa
open Go.RowKit
namespace A
abbrev FS := List Int × List Int
def fStep (m : Mac) (s : Int) (st : FS) (k : Nat) : FS :=
  if 0 ≤ lead m s k ∧ st.2.getD (lead m s k).toNat 0 < 0 then (st.1 ++ [lead m s k], st.2.set (lead m s k).toNat (st.1.length : Int)) else st
def fRow (m : Mac) (s : Int) : Nat → FS → FS
  | 0, st => st
  | k + 1, st => fStep m s (fRow m s k st) k
def fndO (m : Mac) : Nat → Nat → FS → Option FS
  | f, i, st => if h : i < st.1.length then (match f with
    | 0 => none
    | n + 1 => fndO m n (i + 1) (fRow m st.1[i] m.letters.toNat st)) else some st
def fnd0 (m : Mac) : FS := if m.start < 0 then ([], List.replicate m.next.length (-1)) else ([m.start], (List.replicate m.next.length (-1)).set m.start.toNat 0)
theorem nodup_le : ∀ (N : Nat) (l : List Nat), l.Nodup → (∀ x ∈ l, x < N) → l.length ≤ N
  | 0, l, _, h => by
    cases l with
    | nil => exact Nat.le_refl _
    | cons a l => exact absurd (h a (List.mem_cons_self ..)) (Nat.not_lt_zero a)
  | N + 1, l, hn, h => by
    by_cases hm : N ∈ l
    · have h1 := nodup_le N (l.erase N) (hn.erase N) (fun x hx => by
        have h2 := h x (List.mem_of_mem_erase hx)
        have h3 : x ≠ N := fun e => by rw [e] at hx; exact (List.Nodup.not_mem_erase hn) hx
        omega)
      rw [List.length_erase_of_mem hm] at h1
      omega
    · have := nodup_le N l hn (fun x hx => by
        have h2 := h x hx
        have h3 : x ≠ N := fun e => hm (e ▸ hx)
        omega)
      omega
/-- What is found, where the rows of the first i are closed. -/
structure FOK (m : Mac) (i : Nat) (st : FS) : Prop where
  ile : i ≤ st.1.length
  len : st.2.length = m.next.length
  ord : ∀ j (h : j < st.1.length), 0 ≤ st.1[j] ∧ st.1[j] < m.next.length ∧ st.2.getD st.1[j].toNat 0 = (j : Int)
  plc : ∀ s : Nat, s < m.next.length → st.2.getD s 0 = -1 ∨ ∃ j, ∃ h : j < st.1.length, st.2.getD s 0 = (j : Int) ∧ st.1[j] = (s : Int)
  cl : ∀ j (h : j < st.1.length), j < i → ∀ k : Nat, (k : Int) < m.letters → lead m st.1[j] k = -1 ∨ 0 ≤ st.2.getD (lead m st.1[j] k).toNat 0
theorem FOK.le {m : Mac} {i : Nat} {st : FS} (h : FOK m i st) : st.1.length ≤ m.next.length := by
  have := nodup_le m.next.length (st.1.map Int.toNat) (by
    rw [List.nodup_iff_pairwise_ne, List.pairwise_iff_getElem]
    intro a b ha hb hab e
    simp only [List.getElem_map] at e
    rw [List.length_map] at ha hb
    obtain ⟨h1, h2, h3⟩ := h.ord a ha
    obtain ⟨h4, h5, h6⟩ := h.ord b hb
    rw [e] at h3
    omega) (fun x hx => by
    obtain ⟨y, hy, rfl⟩ := List.mem_map.1 hx
    obtain ⟨j, hj, rfl⟩ := List.getElem_of_mem hy
    obtain ⟨h1, h2, h3⟩ := h.ord j hj
    omega)
  simpa using this
/-- One letter's step. -/
structure Ext (m : Mac) (st st' : FS) : Prop where
  pre : st.1 <+: st'.1
  keep : ∀ s : Nat, 0 ≤ st.2.getD s 0 → st'.2.getD s 0 = st.2.getD s 0
theorem Ext.refl {m : Mac} {st : FS} : Ext m st st := ⟨List.prefix_refl _, fun _ _ => rfl⟩
theorem Ext.trans {m : Mac} {a b c : FS} (h : Ext m a b) (h' : Ext m b c) : Ext m a c := ⟨h.pre.trans h'.pre, fun s hs => by rw [h'.keep s (by rw [h.keep s hs]; exact hs), h.keep s hs]⟩
theorem getElem_pre {α : Type} {l l' : List α} (h : l <+: l') {j : Nat} (hj : j < l.length) : l'[j]'(Nat.lt_of_lt_of_le hj h.length_le) = l[j] := by
  obtain ⟨t, rfl⟩ := h
  exact List.getElem_append_left hj
theorem fStep_ok {m : Mac} (hf : Fits m) {i k : Nat} {st : FS} {s : Nat} (h : FOK m i st) (hs : s < m.next.length) (hk : (k : Int) < m.letters) : FOK m i (fStep m s st k) ∧ Ext m st (fStep m s st k) ∧ (lead m s k = -1 ∨ 0 ≤ (fStep m s st k).2.getD (lead m s k).toNat 0) := by
  obtain ⟨i1, i2⟩ := lead_in hf hs hk
  unfold fStep
  generalize lead m s k = t at *
  split
  · rename_i hc
    obtain ⟨h0, hlt⟩ := hc
    obtain ⟨t, rfl⟩ := Int.eq_ofNat_of_zero_le h0
    rw [Int.toNat_natCast] at hlt ⊢
    have htl : t < st.2.length := by rw [h.len]; omega
    have hE : Ext m st (st.1 ++ [(t : Int)], st.2.set t (st.1.length : Int)) := ⟨List.prefix_append _ _, fun s hs => by
      dsimp only
      rw [getD_setR htl, if_neg (by rintro rfl; omega)]⟩
    refine ⟨⟨by have := h.ile; simp; omega, by rw [List.length_set]; exact h.len, fun j hj => ?_, fun s hs => ?_, fun j hj hji k' hk' => ?_⟩, hE, Or.inr (by rw [getD_setR htl, if_pos rfl]; omega)⟩
    · dsimp only at hj ⊢
      rw [List.length_append, List.length_singleton] at hj
      by_cases e : j < st.1.length
      · rw [List.getElem_append_left e]
        obtain ⟨h1, h2, h3⟩ := h.ord j e
        exact ⟨h1, h2, by rw [getD_setR htl, if_neg (by intro e'; rw [← e'] at h3; omega)]; exact h3⟩
      · obtain rfl : j = st.1.length := by omega
        rw [List.getElem_append_right (Nat.le_refl _)]
        simp only [Nat.sub_self, List.getElem_cons_zero, Int.toNat_natCast]
        exact ⟨by omega, by omega, by rw [getD_setR htl, if_pos rfl]⟩
    · dsimp only
      rw [getD_setR htl]
      by_cases e : t = s
      · subst e
        rw [if_pos rfl]
        refine Or.inr ⟨st.1.length, by simp, rfl, ?_⟩
        rw [List.getElem_append_right (Nat.le_refl _)]
        simp
      · rw [if_neg e]
        rcases h.plc s hs with hp | ⟨j, hj, h1, h2⟩
        · exact Or.inl hp
        · exact Or.inr ⟨j, by simp; omega, h1, by rw [List.getElem_append_left hj]; exact h2⟩
    · dsimp only at hj ⊢
      rw [List.length_append, List.length_singleton] at hj
      by_cases e : j < st.1.length
      · rw [List.getElem_append_left e]
        rcases h.cl j e hji k' hk' with hc | hc
        · exact Or.inl hc
        · exact Or.inr (by rw [hE.keep _ hc]; exact hc)
      · obtain rfl : j = st.1.length := by omega
        have := h.ile
        omega
  · rename_i hc
    refine ⟨h, .refl, ?_⟩
    by_cases e : 0 ≤ t
    · exact Or.inr (by omega)
    · exact Or.inl (by omega)
theorem fRow_ok {m : Mac} (hf : Fits m) {i s : Nat} {st : FS} (h : FOK m i st) (hs : s < m.next.length) : ∀ n : Nat, (n : Int) ≤ m.letters → FOK m i (fRow m s n st) ∧ Ext m st (fRow m s n st) ∧ ∀ k : Nat, k < n → lead m s k = -1 ∨ 0 ≤ (fRow m s n st).2.getD (lead m s k).toNat 0
  | 0, _ => ⟨h, .refl, fun k hk => absurd hk (Nat.not_lt_zero k)⟩
  | n + 1, hn => by
    obtain ⟨h1, h2, h3⟩ := fRow_ok hf h hs n (by omega)
    obtain ⟨h4, h5, h6⟩ := fStep_ok hf (k := n) h1 hs (by omega)
    refine ⟨h4, h2.trans h5, fun k hk => ?_⟩
    by_cases e : k = n
    · subst e; exact h6
    · rcases h3 k (by omega) with hc | hc
      · exact Or.inl hc
      · exact Or.inr (by unfold fRow; rw [h5.keep _ hc]; exact hc)
theorem fRow_next {m : Mac} (hf : Fits m) {i : Nat} {st : FS} (h : FOK m i st) (hi : i < st.1.length) : FOK m (i + 1) (fRow m st.1[i] m.letters.toNat st) ∧ Ext m st (fRow m st.1[i] m.letters.toNat st) := by
  obtain ⟨h1, h2, h3⟩ := h.ord i hi
  have hl := hf.letters
  obtain ⟨s, hs⟩ := Int.eq_ofNat_of_zero_le h1
  rw [hs]
  obtain ⟨g1, g2, g3⟩ := fRow_ok hf h (s := s) (by omega) m.letters.toNat (by omega)
  have hle := g2.pre.length_le
  have hsi : (fRow m (s : Int) m.letters.toNat st).1[i]'(by omega) = (s : Int) := by rw [getElem_pre g2.pre hi, hs]
  refine ⟨⟨by omega, g1.len, g1.ord, g1.plc, fun j hj hji k hk => ?_⟩, g2⟩
  by_cases e : j < i
  · exact g1.cl j hj e k hk
  · obtain rfl : j = i := by omega
    rw [hsi]
    exact g3 k (by omega)
theorem fndO_ok {m : Mac} (hf : Fits m) : ∀ (f i : Nat) (st : FS), FOK m i st → m.next.length ≤ f + i → ∃ st', fndO m f i st = some st' ∧ FOK m st'.1.length st' ∧ Ext m st st'
  | f, i, st, h, hfi => by
    unfold fndO
    by_cases hi : i < st.1.length
    · rw [dif_pos hi]
      have hle := h.le
      cases f with
      | zero => omega
      | succ f =>
        dsimp only
        obtain ⟨h1, h2⟩ := fRow_next hf h hi
        obtain ⟨st', g1, g2, g3⟩ := fndO_ok hf f (i + 1) _ h1 (by omega)
        exact ⟨st', g1, g2, h2.trans g3⟩
    · rw [dif_neg hi]
      have : i = st.1.length := by have := h.ile; omega
      subst this
      exact ⟨st, rfl, h, .refl⟩
theorem fnd0_ok {m : Mac} (hf : Fits m) : FOK m 0 (fnd0 m) := by
  obtain ⟨s0, s1⟩ := hf.start
  unfold fnd0
  split
  · refine ⟨Nat.zero_le _, by simp, fun j h => absurd h (Nat.not_lt_zero j), fun s hs => Or.inl (by simp [hs]), fun j h => absurd h (Nat.not_lt_zero j)⟩
  · obtain ⟨t, ht⟩ := Int.eq_ofNat_of_zero_le (show 0 ≤ m.start by omega)
    rw [ht]
    have htl : t < (List.replicate m.next.length (-1 : Int)).length := by simp; omega
    rw [Int.toNat_natCast]
    refine ⟨Nat.zero_le _, by simp, fun j h => ?_, fun s hs => ?_, fun j h hji => absurd hji (Nat.not_lt_zero j)⟩
    · obtain rfl : j = 0 := by simp at h; omega
      simp only [List.getElem_cons_zero]
      exact ⟨by omega, by omega, by rw [Int.toNat_natCast, getD_setR htl, if_pos rfl]; rfl⟩
    · rw [getD_setR htl]
      by_cases e : t = s
      · subst e
        exact Or.inr ⟨0, by simp, by rw [if_pos rfl]; rfl, rfl⟩
      · rw [if_neg e]
        exact Or.inl (by simp [hs])
end A
end Go.Proofs.Ytiekaicbjinbaaa
end
section
namespace Go.Proofs.Ytiekaicbjinbaaa
open Go.RowKit
namespace A
/-- A machine does step by step what another one does. -/
structure Sim (m a : Mac) (R : Int → Int → Prop) : Prop where
  ll : m.letters = a.letters
  st : R m.start a.start
  en : ∀ x y, R x y → ends m x = ends a y
  ld : ∀ x y, R x y → ∀ k : Nat, (k : Int) < m.letters → R (lead m x k) (lead a y k)
def R1 (m : Mac) (cl : List Int) (x y : Int) : Prop := (x = -1 ∧ y = -1) ∨ ∃ s : Nat, s < m.next.length ∧ x = (s : Int) ∧ y = cl.getD s 0
/-- The machine of the classes. -/
structure Reps (m : Mac) (cl : List Int) (c : Nat) (sm : Mac) : Prop where
  ll : sm.letters = m.letters
  st : sm.start = cl.getD m.start.toNat 0
  ln : sm.next.length = c
  lf : sm.fin.length = c
  row : ∀ v, v < c → ∃ s, s < m.next.length ∧ cl.getD s 0 = (v : Int) ∧ sm.next.getD v [] = (List.range m.letters.toNat).map (fun k : Nat => clL m cl s k) ∧ sm.fin.getD v false = m.fin.getD s false
theorem ends_neg (m : Mac) : ends m (-1) = false := by simp [ends]
theorem ends_nat (m : Mac) (s : Nat) : ends m (s : Int) = m.fin.getD s false := by
  unfold ends
  rw [Int.toNat_natCast]
  have : ¬ ((s : Int) = -1) := by omega
  simp [this]
theorem lead_neg (m : Mac) (k : Int) : lead m (-1) k = -1 := by simp [lead]
theorem lead_nat (m : Mac) (s k : Nat) : lead m (s : Int) (k : Int) = (m.next.getD s []).getD k 0 := by
  unfold lead
  rw [if_neg (by omega)]
  simp
theorem R1.lead {m : Mac} {cl : List Int} (hf : Fits m) {s k : Nat} (hs : s < m.next.length) (hk : (k : Int) < m.letters) : R1 m cl (lead m s k) (clL m cl s k) := by
  obtain ⟨i1, i2⟩ := lead_in hf hs hk
  unfold clL
  split
  · exact Or.inr ⟨(A.lead m s k).toNat, by omega, by omega, rfl⟩
  · exact Or.inl ⟨by omega, rfl⟩
theorem Reps.sim {m sm : Mac} {cl : List Int} {c : Nat} (hf : Fits m) (h : ClsOK m cl c) (r : Reps m cl c sm) (h0 : 0 ≤ m.start) : Sim m sm (R1 m cl) := by
  have hst := hf.start
  refine ⟨r.ll.symm, Or.inr ⟨m.start.toNat, by have := hst.2; omega, by omega, r.st⟩, fun x y hR => ?_, fun x y hR k hk => ?_⟩
  · rcases hR with ⟨rfl, rfl⟩ | ⟨s, hs, rfl, rfl⟩
    · rw [ends_neg, ends_neg]
    · rw [ends_nat]
      have hlo := h.lo s hs
      have hhi := h.hi s hs
      by_cases e : cl.getD s 0 = -1
      · rw [e, ends_neg, (h.dead s hs e).1]
      · obtain ⟨v, hv⟩ := Int.eq_ofNat_of_zero_le (show 0 ≤ cl.getD s 0 by omega)
        obtain ⟨s', hs', e1, _, e3⟩ := r.row v (by omega)
        rw [hv, ends_nat, e3]
        exact h.fin s s' hs hs' (by rw [hv, e1])
  · rcases hR with ⟨rfl, rfl⟩ | ⟨s, hs, rfl, rfl⟩
    · rw [lead_neg, lead_neg]
      exact Or.inl ⟨rfl, rfl⟩
    · have hlo := h.lo s hs
      have hhi := h.hi s hs
      have hR := R1.lead (cl := cl) hf hs hk
      by_cases e : cl.getD s 0 = -1
      · rw [e, lead_neg]
        rw [(h.dead s hs e).2 k hk] at hR
        exact hR
      · obtain ⟨v, hv⟩ := Int.eq_ofNat_of_zero_le (show 0 ≤ cl.getD s 0 by omega)
        obtain ⟨s', hs', e1, e2, _⟩ := r.row v (by omega)
        rw [hv, lead_nat sm, e2]
        have hkl : k < m.letters.toNat := by omega
        have : ((List.range m.letters.toNat).map (fun k : Nat => clL m cl s' k)).getD k 0 = clL m cl s' k := by simp [hkl]
        rw [this, h.st s' s hs' hs (by rw [hv, e1]) k hk]
        exact hR
theorem clL_in {m : Mac} {cl : List Int} {c : Nat} (hf : Fits m) (h : ClsOK m cl c) {s k : Nat} (hs : s < m.next.length) (hk : (k : Int) < m.letters) : -1 ≤ clL m cl s k ∧ clL m cl s k < c := by
  obtain ⟨i1, i2⟩ := lead_in hf hs hk
  unfold clL
  split
  · exact ⟨h.lo _ (by omega), h.hi _ (by omega)⟩
  · exact ⟨by omega, by omega⟩
theorem Reps.fits {m sm : Mac} {cl : List Int} {c : Nat} (hf : Fits m) (h : ClsOK m cl c) (r : Reps m cl c sm) (h0 : 0 ≤ m.start) (h1 : 0 ≤ cl.getD m.start.toNat 0) : Fits sm := by
  have hst := hf.start
  have hl := hf.letters
  have hh := h.hi m.start.toNat (by have := hst.2; omega)
  refine ⟨by rw [r.ll]; exact hl, by rw [r.ln, r.lf], ⟨by rw [r.st]; omega, by rw [r.st, r.ln]; exact hh⟩, fun e => by rw [r.st] at e; omega, fun row hr => ?_⟩
  obtain ⟨v, hv, rfl⟩ := List.getElem_of_mem hr
  obtain ⟨s, hs, _, e2, _⟩ := r.row v (by rw [← r.ln]; exact hv)
  have e : sm.next[v] = sm.next.getD v [] := by simp [hv]
  rw [e, e2]
  refine ⟨by rw [List.length_map, List.length_range, r.ll]; omega, fun x hx => ?_⟩
  obtain ⟨k, hk, rfl⟩ := List.mem_map.1 hx
  rw [List.mem_range] at hk
  obtain ⟨g1, g2⟩ := clL_in hf h hs (k := k) (by omega)
  exact ⟨g1, by rw [r.ln]; exact g2⟩
/-- The states of a machine are numbered anew. -/
def plL (m : Mac) (st : FS) (s k : Int) : Int := if 0 ≤ lead m s k then st.2.getD (lead m s k).toNat 0 else -1
structure Ren (m : Mac) (st : FS) (o : Mac) : Prop where
  ll : o.letters = m.letters
  so : o.start = 0
  ln : o.next.length = st.1.length
  lf : o.fin.length = st.1.length
  row : ∀ j (h : j < st.1.length), o.next.getD j [] = (List.range m.letters.toNat).map (fun k : Nat => plL m st st.1[j] k) ∧ o.fin.getD j false = m.fin.getD st.1[j].toNat false
def R2 (st : FS) (x y : Int) : Prop := (x = -1 ∧ y = -1) ∨ ∃ j, ∃ h : j < st.1.length, x = st.1[j] ∧ y = (j : Int)
theorem R2.lead {m : Mac} {st : FS} (hf : Fits m) (h : FOK m st.1.length st) {j k : Nat} (hj : j < st.1.length) (hk : (k : Int) < m.letters) : R2 st (lead m st.1[j] k) (plL m st st.1[j] k) := by
  obtain ⟨h1, h2, _⟩ := h.ord j hj
  obtain ⟨i1, i2⟩ := Fits.lead hf (s := st.1[j]) ⟨by omega, h2⟩ (show 0 ≤ (k : Int) by omega) hk
  have hc := h.cl j hj hj k hk
  unfold plL
  split
  · rename_i h0
    rcases h.plc (A.lead m st.1[j] k).toNat (by omega) with hp | ⟨j', hj', e1, e2⟩
    · rcases hc with hc | hc <;> omega
    · exact Or.inr ⟨j', hj', by rw [e2]; omega, e1⟩
  · exact Or.inl ⟨by omega, rfl⟩
theorem Ren.sim {m o : Mac} {st : FS} (hf : Fits m) (h : FOK m st.1.length st) (r : Ren m st o) (h0 : ∃ hp : 0 < st.1.length, st.1[0] = m.start) : Sim m o (R2 st) := by
  obtain ⟨hp, h0⟩ := h0
  refine ⟨r.ll.symm, Or.inr ⟨0, hp, h0.symm, r.so⟩, fun x y hR => ?_, fun x y hR k hk => ?_⟩
  · rcases hR with ⟨rfl, rfl⟩ | ⟨j, hj, rfl, rfl⟩
    · rw [ends_neg, ends_neg]
    · obtain ⟨h1, h2, _⟩ := h.ord j hj
      obtain ⟨s, hs⟩ := Int.eq_ofNat_of_zero_le h1
      have e := (r.row j hj).2
      rw [hs, Int.toNat_natCast] at e
      rw [hs, ends_nat, ends_nat, e]
  · rcases hR with ⟨rfl, rfl⟩ | ⟨j, hj, rfl, rfl⟩
    · rw [lead_neg, lead_neg]
      exact Or.inl ⟨rfl, rfl⟩
    · have hR := R2.lead hf h hj hk
      rw [lead_nat o, (r.row j hj).1]
      have hkl : k < m.letters.toNat := by omega
      have : ((List.range m.letters.toNat).map (fun k : Nat => plL m st st.1[j] k)).getD k 0 = plL m st st.1[j] k := by simp [hkl]
      rw [this]
      exact hR
theorem Ren.fits {m o : Mac} {st : FS} (hf : Fits m) (h : FOK m st.1.length st) (r : Ren m st o) (hp : 0 < st.1.length) : Fits o := by
  have hl := hf.letters
  refine ⟨by rw [r.ll]; exact hl, by rw [r.ln, r.lf], ⟨by rw [r.so]; omega, by rw [r.so, r.ln]; omega⟩, fun e => by rw [r.so] at e; omega, fun row hr => ?_⟩
  obtain ⟨j, hj, rfl⟩ := List.getElem_of_mem hr
  have hj' : j < st.1.length := by rw [← r.ln]; exact hj
  have e : o.next[j] = o.next.getD j [] := by simp [hj]
  rw [e, (r.row j hj').1]
  refine ⟨by rw [List.length_map, List.length_range, r.ll]; omega, fun x hx => ?_⟩
  obtain ⟨k, hk, rfl⟩ := List.mem_map.1 hx
  rw [List.mem_range] at hk
  rcases R2.lead hf h hj' (k := k) (by omega) with ⟨_, e2⟩ | ⟨j', hj2, _, e2⟩
  · rw [e2]; exact ⟨by omega, by omega⟩
  · rw [e2]; exact ⟨by omega, by rw [r.ln]; omega⟩
theorem Sim.trans {a b c : Mac} {R S : Int → Int → Prop} (h : Sim a b R) (h' : Sim b c S) : Sim a c fun x z => ∃ y, R x y ∧ S y z :=
  ⟨h.ll.trans h'.ll, ⟨_, h.st, h'.st⟩, fun x z ⟨y, h1, h2⟩ => (h.en x y h1).trans (h'.en y z h2), fun x z ⟨y, h1, h2⟩ k hk => ⟨_, h.ld x y h1 k hk, h'.ld y z h2 k (by rw [← h.ll]; exact hk)⟩⟩
end A
end Go.Proofs.Ytiekaicbjinbaaa
end
section
namespace Go.Proofs.Ytiekaicbjinbaaa
open Go.RowKit
/-- A row of ints as cells. -/
def intCs (l : List Int) : Array Value := (l.map fun x => Value.int .i64 x).toArray
theorem intCs_made (n : Nat) : madeCells #[.int .i64 0] n = intCs (List.replicate n 0) := by
  apply Array.toList_inj.1
  rw [toList_madeCells_one]
  simp [intCs]
theorem intCs_get {l : List Int} {i : Nat} (hi : i < l.length) : (intCs l)[i]? = some (.int .i64 l[i]) := by simp [intCs, hi]
theorem intCs_getD {l : List Int} {i : Nat} (hi : i < l.length) : (intCs l)[i]? = some (.int .i64 (l.getD i 0)) := by simp [intCs, hi]
theorem intCs_set (l : List Int) (i : Nat) (x : Int) : (intCs l).setIfInBounds i (.int .i64 x) = intCs (l.set i x) := by
  apply Array.toList_inj.1
  simp [intCs]
/-- What keeps joined states: a block with the number of states and the row, and the row's own block. -/
def Jn (w : World) (pb g : Nat) (s : Int) (l : List Int) : Prop := Blk w pb 107 #[.int .i64 s, .slice (some ⟨g, 0, none⟩) l.length l.length] ∧ Blk w g 3 (intCs l) ∧ pb ≠ g
theorem Frm.jn {E : Nat → Prop} {w w' : World} {pb g : Nat} {s : Int} {l : List Int} (F : Frm E w w') (h : Jn w pb g s l) (h1 : ¬ E pb) (h2 : ¬ E g) : Jn w' pb g s l := ⟨F.blk h.1 h1, F.blk h.2.1 h2, h.2.2⟩
theorem info_int : (Try.prog.info? 3).map (fun i => (i.zero, i.size, i.bytes)) = some (some (.int .i64 0), 1, 8) := by kernel_rfl
namespace A
/-- The first k numbers each by itself, the others 0. -/
def upTo (n k : Nat) : List Int := (List.range n).map fun i => if i < k then (i : Int) else 0
theorem upTo_zero (n : Nat) : upTo n 0 = List.replicate n 0 := by
  apply List.ext_getElem <;> simp [upTo]
theorem upTo_len (n k : Nat) : (upTo n k).length = n := by simp [upTo]
theorem upTo_set (n k : Nat) : (upTo n k).set k (k : Int) = upTo n (k + 1) := by
  apply List.ext_getElem
  · simp [upTo]
  · intro i h1 h2
    simp only [upTo, List.getElem_set, List.getElem_map, List.getElem_range]
    by_cases h : k = i
    · subst h; simp
    · by_cases h3 : i < k
      · rw [if_neg h, if_pos h3, if_pos (by omega)]
      · rw [if_neg h, if_neg h3, if_neg (by omega)]
end A
set_option maxRecDepth 100000 in
set_option maxHeartbeats 4000000 in
theorem newJoined_any (w : World) (a b : Nat) (ha : a ≤ 4000) (hb : b ≤ 4000) :
    Calls Try.prog 48 #[.int .i64 a, .int .i64 b] w fun e w' => e = .returned (.pointer (some ⟨w.heap.size + 1, 0, none⟩)) ∧ Jn w' (w.heap.size + 1) w.heap.size a (A.upTo (1 + a + b) (1 + a + b)) ∧ Frm (fun _ => False) w w' := by
  obtain ⟨N, hN⟩ : ∃ N, N = 1 + a + b := ⟨_, rfl⟩
  have hNb : N ≤ 8001 := by omega
  have hmk := run_make_row' (P := Try.prog) 28 3 (.int .i64 0) 8 Try.underlying28 info_int rfl .i64 .i64 N (by omega) (by omega)
  have hN' : Value.int .i64 (N : Int) = Value.int .i64 (1 + (a : Int) + b) := by rw [hN]; simp
  simp only [hN'] at hmk
  clear hN'
  rw [← hN]
  have HN := Lib.hid hN
  clear hN
  go_enter Try.func48, Try.ntmps48
  go_wp2_with fail
  rw [intCs_made]
  clear hmk
  go_wp2_with fail
  go_loopg [20] (N + 1) (fun n i wr => ∃ k : Nat, k ≤ N ∧ n = N + 1 - k ∧ i = .int .i64 (k : Int) ∧ Hid (Blk wr (w.heap.size + 1) 107 #[.int .i64 a, .slice (some ⟨w.heap.size, 0, none⟩) N N]) ∧ Hid (Blk wr w.heap.size 3 (intCs (A.upTo N k))) ∧ Hid (Frm (fun _ => False) w wr))
  case atStart => exact ⟨0, Nat.zero_le _, rfl, rfl, blk_at (by simp), (by rw [A.upTo_zero]; exact (Blk.new w _ _).alloc _), ((Frm.refl _ w).alloc _).alloc _⟩
  case round =>
    obtain ⟨k, hk, rfl, rfl, X, Y, F⟩ := hrel
    have x1 := X.out.cell 1
    by_cases hlt : k < N
    · have hlt' : (k : Int) < (N : Int) := by omega
      have y0 := (Y.out.cell k).trans (intCs_get (by rw [A.upTo_len]; exact hlt))
      have yf := Y.out.frozen k
      generalize (A.upTo N k)[k]'(by rw [A.upTo_len]; exact hlt) = z at y0
      go_wp2_with fail
      go_roundg (N + 1 - (k + 1))
      case measure => omega
      case rel =>
        have hY := Y.out.set_ k (.int .i64 k)
        rw [intCs_set, A.upTo_set] at hY
        exact ⟨k + 1, by omega, rfl, by go_num, X.out.far (by dsimp only; omega) _, hY, F.out.set_ (fun h => by dsimp only at h; omega) _⟩
    · have hlt' : ¬ (k : Int) < (N : Int) := by omega
      obtain rfl : k = N := by omega
      go_wp2_with fail
      go_ret
      refine ⟨rfl, ⟨?_, Y.out, by omega⟩, F.out⟩
      rw [A.upTo_len]
      exact X.out
end Go.Proofs.Ytiekaicbjinbaaa
end
section
namespace Go.Proofs.Ytiekaicbjinbaaa
open Go.RowKit
namespace A
/-- Where a state leads in the row, the row shortened on the way; none if the steps do not suffice or a number is no state. -/
def endO : Nat → List Int → Int → Option (List Int × Int)
  | 0, _, _ => none
  | f + 1, l, n =>
    if 0 ≤ n ∧ n < l.length then
      (if l.getD n.toNat 0 = n then some (l, n)
       else if 0 ≤ l.getD n.toNat 0 ∧ l.getD n.toNat 0 < l.length then endO f (l.set n.toNat (l.getD (l.getD n.toNat 0).toNat 0)) (l.getD (l.getD n.toNat 0).toNat 0) else none)
    else none
end A
theorem toNat_of {x : Int} (h : 0 ≤ x) : ((x.toNat : Nat) : Int) = x := by omega
set_option maxRecDepth 100000 in
set_option maxHeartbeats 4000000 in
theorem end_any {w : World} {pb g f : Nat} {s : Int} {l l' : List Int} {n r : Int} (h : Jn w pb g s l) (he : A.endO f l n = some (l', r)) :
    Calls Try.prog 66 #[.pointer (some ⟨pb, 0, none⟩), .int .i64 n] w fun e w' => e = .returned (.int .i64 r) ∧ Jn w' pb g s l' ∧ l'.length = l.length ∧ Frm (· = g) w w' := by
  obtain ⟨N, hN⟩ : ∃ N, N = l.length := ⟨_, rfl⟩
  have HE := Lib.hid he
  obtain ⟨hx, hy, hpg⟩ := h
  rw [← hN] at hx
  have HX := Lib.hid hx
  have HY := Lib.hid hy
  have HN := Lib.hid hN
  clear he hx hy hN
  go_enter Try.func66, Try.ntmps66
  go_wp2_with fail
  go_loopg [1] f (fun f i wr => ∃ (l1 : List Int) (n1 : Int), i = .int .i64 n1 ∧ l1.length = N ∧ Hid (A.endO f l1 n1 = some (l', r)) ∧ Hid (Blk wr pb 107 #[.int .i64 s, .slice (some ⟨g, 0, none⟩) N N]) ∧ Hid (Blk wr g 3 (intCs l1)) ∧ Hid (Frm (· = g) w wr))
  case atStart => exact ⟨l, n, rfl, HN.out.symm, HE, HX, HY, Frm.refl _ w⟩
  case round =>
    obtain ⟨l1, n1, rfl, hl1, HE1, X, Y, F⟩ := hrel
    have x1 := X.out.cell 1
    cases gk with
    | zero => exact absurd HE1.out (by simp [A.endO])
    | succ f =>
    have he := HE1.out
    unfold A.endO at he
    split at he
    · rename_i hin
      obtain ⟨h0, h1⟩ := hin
      have h1' : n1 < (N : Int) := by omega
      obtain ⟨p, hp⟩ : ∃ p : Nat, n1 = (p : Int) := ⟨n1.toNat, by omega⟩
      subst hp
      have hp1 : p < l1.length := by omega
      have y0 := (Y.out.cell p).trans (intCs_getD hp1)
      have yf := Y.out.frozen p
      simp only [Int.toNat_natCast] at he
      generalize hz : l1.getD p 0 = z at *
      split at he
      · rename_i heq
        subst heq
        obtain ⟨rfl, rfl⟩ : l1 = l' ∧ (p : Int) = r := by simpa using he
        have hb : ((p : Int) != (p : Int)) = false := by simp
        clear he hz
        go_wp2_with fail
        go_ret
        exact ⟨rfl, ⟨by rw [hl1]; exact X.out, Y.out, hpg⟩, hl1.trans HN.out, F.out⟩
      · rename_i hne
        have hb : (z != (p : Int)) = true := by rw [bne_iff_ne]; exact hne
        split at he
        · rename_i hin2
          obtain ⟨h2, h3⟩ := hin2
          obtain ⟨q, hq⟩ : ∃ q : Nat, z = (q : Int) := ⟨z.toNat, by omega⟩
          subst hq
          have hq1 : q < l1.length := by omega
          simp only [Int.toNat_natCast] at he
          have z0 := (Y.out.cell q).trans (intCs_getD hq1)
          generalize hu : l1.getD q 0 = u at *
          have HE2 := Lib.hid he
          clear he hz hu hne
          have hb2 : (p : Int) < (N : Int) := by omega
          have hb3 : (q : Int) < (N : Int) := by omega
          go_wp2_with fail
          go_still_tail 18, (by kernel_rfl)
          go_wp2_with fail
          go_roundg f
          case measure => omega
          case rel =>
            have hY := Y.out.drew.set_ p (.int .i64 u)
            rw [intCs_set] at hY
            exact ⟨_, _, rfl, (by simpa using hl1), HE2, X.out.drew.far (by dsimp only; exact hpg) _, hY, F.out.drew.set_ (fun _ => rfl) _⟩
        · cases he
    · cases he
end Go.Proofs.Ytiekaicbjinbaaa
end
section
namespace Go.Proofs.Ytiekaicbjinbaaa
open Go.RowKit
namespace A
theorem endO_in : ∀ {f : Nat} {l l' : List Int} {n r : Int}, endO f l n = some (l', r) → 0 ≤ r ∧ r < l.length ∧ l'.length = l.length
  | 0, _, _, _, _, h => by simp [endO] at h
  | f + 1, l, l', n, r, h => by
    unfold endO at h
    split at h
    · rename_i hin
      split at h
      · rename_i heq
        simp only [Option.some.injEq, Prod.mk.injEq] at h
        obtain ⟨rfl, rfl⟩ := h
        exact ⟨hin.1, hin.2, rfl⟩
      · split at h
        · have := endO_in h
          simpa using this
        · cases h
    · cases h
/-- The number of the second state of a pair. -/
def other (s : Int) (p : Pr) : Int := if p.2 = -1 then 0 else 1 + s + p.2
def joinO (f : Nat) (s : Int) (l : List Int) (p : Pr) : Option (List Int × Bool) :=
  match endO f l (1 + p.1) with
  | none => none
  | some (l1, x) => match endO f l1 (other s p) with
    | none => none
    | some (l2, y) => some (l2.set x.toNat y, decide (x ≠ y))
end A
theorem bne_ne (x y : Int) : (x != y) = decide (x ≠ y) := by by_cases h : x = y <;> simp [h]
set_option maxRecDepth 100000 in
set_option maxHeartbeats 4000000 in
theorem join_any {w : World} {pb g f : Nat} {s : Int} {l l' : List Int} {p : A.Pr} {r : Bool} (h : Jn w pb g s l) (he : A.joinO f s l p = some (l', r)) (h1 : -1 ≤ p.1 ∧ p.1 ≤ 4000) (h2 : -1 ≤ p.2 ∧ p.2 ≤ 4000) (hs : 0 ≤ s ∧ s ≤ 4000) :
    Calls Try.prog 49 #[.pointer (some ⟨pb, 0, none⟩), pairV p] w fun e w' => e = .returned (.bool r) ∧ Jn w' pb g s l' ∧ l'.length = l.length ∧ Frm (· = g) w w' := by
  obtain ⟨p1, p2⟩ := p
  obtain ⟨h11, h12⟩ := h1
  obtain ⟨h21, h22⟩ := h2
  obtain ⟨hs1, hs2⟩ := hs
  dsimp only at h11 h12 h21 h22
  unfold A.joinO at he
  split at he
  · cases he
  rename_i l1 x hE1
  split at he
  · cases he
  rename_i l2 y hE2
  simp only [Option.some.injEq, Prod.mk.injEq] at he
  obtain ⟨rfl, rfl⟩ := he
  obtain ⟨hx0, hx1, hxl⟩ := A.endO_in hE1
  obtain ⟨hy0, hy1, hyl⟩ := A.endO_in hE2
  obtain ⟨xn, rfl⟩ : ∃ xn : Nat, x = (xn : Int) := ⟨x.toNat, by omega⟩
  have hxn : xn < l2.length := by omega
  have HJ0 : Hid (Jn (w.alloc (.cells #[.int .i64 p1, .int .i64 p2] 40)) pb g s l) := ((Frm.refl (fun _ => False) w).alloc _).jn h id id
  have HF0 : Hid (Frm (· = g) w (w.alloc (.cells #[.int .i64 p1, .int .i64 p2] 40))) := (Frm.refl _ w).alloc _
  have HE1 := Lib.hid hE1
  have x0 := HJ0.out.1.cell 0
  have hgp := h.2.2
  have HL := Lib.hid (hyl.trans hxl)
  clear hE1 hyl hxl hx1 hy1 hx0 h
  obtain ⟨o, ho⟩ : ∃ o, o = A.other s (p1, p2) := ⟨_, rfl⟩
  have HO : Hid (o = if p2 = -1 then 0 else 1 + s + p2) := ho
  rw [← ho] at hE2
  have HE2 := Lib.hid hE2
  clear hE2 ho
  simp only [pairV]
  by_cases hb : p2 = -1
  · subst hb
    obtain rfl : o = 0 := by rw [HO.out]; rfl
    go_enter Try.func49, Try.ntmps49
    go_wp2_with fail
    refine (end_any HJ0.out HE1.out).mono ?_
    rintro _ w1 ⟨rfl, J1, -, f1⟩
    have HJ1 := Lib.hid J1
    have HF1 := Lib.hid (HF0.out.trans f1)
    clear J1 f1 x0
    go_wp2_with fail
    refine (end_any HJ1.out HE2.out).mono ?_
    rintro _ w2 ⟨rfl, J2, -, f2⟩
    have HF2 := Lib.hid (HF1.out.trans f2)
    have x1 := J2.1.cell 1
    have y1 := (J2.2.1.cell xn).trans (intCs_getD hxn)
    have yf := J2.2.1.frozen xn
    have HJ2 := Lib.hid J2
    clear f2 J2
    go_wp2_with fail
    go_ret
    refine ⟨ret_bool (bne_ne _ _), ⟨?_, ?_, hgp⟩, by rw [List.length_set]; exact HL.out, HF2.out.set_ (fun _ => rfl) _⟩
    · rw [List.length_set]; exact HJ2.out.1.far (by dsimp only; exact hgp) _
    · rw [Int.toNat_natCast, ← intCs_set]; exact HJ2.out.2.1.set_ xn _
  · have hb1 : (p2 != -1) = true := by rw [bne_iff_ne]; exact hb
    obtain rfl : o = 1 + s + p2 := by rw [HO.out, if_neg hb]
    go_enter Try.func49, Try.ntmps49
    have q1 := (Blk.new w 40 #[.int .i64 p1, .int .i64 p2]).cell 1
    go_wp2_with fail
    go_region
    all_goals go_wp2_with fail
    have HJ0' : Hid (Jn (w.alloc (.cells #[.int .i64 p1, .int .i64 p2] 40)).drew pb g s l) := HJ0.out
    refine (end_any HJ0'.out HE1.out).mono ?_
    rintro _ w1 ⟨rfl, J1, -, f1⟩
    have HJ1 := Lib.hid J1
    have HF1 := Lib.hid (HF0.out.trans f1)
    clear J1 f1 x0
    go_wp2_with fail
    refine (end_any HJ1.out HE2.out).mono ?_
    rintro _ w2 ⟨rfl, J2, -, f2⟩
    have HF2 := Lib.hid (HF1.out.trans f2)
    have x1 := J2.1.cell 1
    have y1 := (J2.2.1.cell xn).trans (intCs_getD hxn)
    have yf := J2.2.1.frozen xn
    have HJ2 := Lib.hid J2
    clear f2 J2
    go_wp2_with fail
    go_ret
    refine ⟨ret_bool (bne_ne _ _), ⟨?_, ?_, hgp⟩, by rw [List.length_set]; exact HL.out, HF2.out.set_ (fun _ => rfl) _⟩
    · rw [List.length_set]; exact HJ2.out.1.far (by dsimp only; exact hgp) _
    · rw [Int.toNat_natCast, ← intCs_set]; exact HJ2.out.2.1.set_ xn _
end Go.Proofs.Ytiekaicbjinbaaa
end
section
namespace Go.Proofs.Ytiekaicbjinbaaa.A
/-- The place of a pair in the table. -/
def place (nb : Int) (q : Pr) : Int := (1 + q.1) * (1 + nb) + 1 + q.2
theorem mul_step {u v W : Int} (h : u < v) (hW : 0 ≤ W) : u * W + W ≤ v * W := by
  have := Int.mul_le_mul_of_nonneg_right (show u + 1 ≤ v by omega) hW
  rw [Int.add_mul] at this
  omega
theorem place_in {a b : Mac} {q : Pr} (h : InP a b q) : 0 ≤ place b.next.length q ∧ place b.next.length q < (1 + (a.next.length : Int)) * (1 + (b.next.length : Int)) := by
  obtain ⟨⟨h1, h2⟩, h3, h4⟩ := h
  unfold place
  have e1 := mul_step (u := 1 + q.1) (v := 1 + (a.next.length : Int)) (W := 1 + (b.next.length : Int)) (by omega) (by omega)
  have e2 : 0 ≤ (1 + q.1) * (1 + (b.next.length : Int)) := Int.mul_nonneg (by omega) (by omega)
  constructor <;> omega
theorem place_inj {a b : Mac} {p q : Pr} (h : InP a b p) (h' : InP a b q) (e : place b.next.length p = place b.next.length q) : p = q := by
  obtain ⟨p1, p2⟩ := p
  obtain ⟨q1, q2⟩ := q
  obtain ⟨⟨h1, h2⟩, h3, h4⟩ := h
  obtain ⟨⟨h5, h6⟩, h7, h8⟩ := h'
  unfold place at e
  dsimp only at *
  rcases Int.lt_trichotomy p1 q1 with hl | he | hg
  · have := mul_step (u := 1 + p1) (v := 1 + q1) (W := 1 + (b.next.length : Int)) (by omega) (by omega)
    omega
  · subst he
    have : p2 = q2 := by omega
    rw [this]
  · have := mul_step (u := 1 + q1) (v := 1 + p1) (W := 1 + (b.next.length : Int)) (by omega) (by omega)
    omega
/-- The pairs of a list, and the pair of nowhere and nowhere. -/
def among (l : List Pr) (q : Pr) : Bool := decide (q = (-1, -1)) || decide (q ∈ l)
def shows (a b : Mac) (l : List Pr) : Bool := among l (a.start, b.start) && l.all fun p => agree a b p && (List.range a.letters.toNat).all fun (k : Nat) => among l (leadP a b p k)
end Go.Proofs.Ytiekaicbjinbaaa.A
namespace Go.Proofs.Ytiekaicbjinbaaa
open Go.RowKit
/-- Block t is the table of the pairs for which S holds. -/
def Tb (w : World) (t : Nat) (a b : A.Mac) (M : Nat) (S : A.Pr → Bool) : Prop := ∃ cs : Array Value, Blk w t 4 cs ∧ cs.size = M ∧ ∀ q, A.InP a b q → cs[(A.place b.next.length q).toNat]? = some (.bool (S q))
theorem Tb.cell {w : World} {t : Nat} {a b : A.Mac} {M : Nat} {S : A.Pr → Bool} (h : Tb w t a b M S) {q : A.Pr} (hq : A.InP a b q) : w.cell? ⟨t, (A.place b.next.length q).toNat, none⟩ = some (.bool (S q)) := by
  obtain ⟨cs, hb, _, h⟩ := h
  exact (hb.cell _).trans (h q hq)
theorem Tb.frozen {w : World} {t : Nat} {a b : A.Mac} {M : Nat} {S : A.Pr → Bool} (h : Tb w t a b M S) (i : Nat) : w.frozen? ⟨t, i, none⟩ = false := by
  obtain ⟨cs, hb, _, h⟩ := h
  exact hb.frozen i
theorem Tb.frm {w w' : World} {t : Nat} {a b : A.Mac} {M : Nat} {S : A.Pr → Bool} {E : Nat → Prop} (h : Tb w t a b M S) (F : Frm E w w') (hE : ¬ E t) : Tb w' t a b M S := by
  obtain ⟨cs, hb, h1, h⟩ := h
  exact ⟨cs, F.blk hb hE, h1, h⟩
theorem Tb.set_ {w : World} {t : Nat} {a b : A.Mac} {M : Nat} {S S' : A.Pr → Bool} (h : Tb w t a b M S) {p : A.Pr} (hp : A.InP a b p) (hS : ∀ q, S' q = (decide (q = p) || S q)) : Tb (w.setCell ⟨t, (A.place b.next.length p).toNat, none⟩ (.bool true)) t a b M S' := by
  obtain ⟨cs, hb, h1, h⟩ := h
  refine ⟨_, hb.set_ _ _, by simpa using h1, fun q hq => ?_⟩
  rw [hS, Array.getElem?_setIfInBounds]
  by_cases e : q = p
  · subst e
    have := h q hq
    have hlt : (A.place b.next.length q).toNat < cs.size := by
      rcases Nat.lt_or_ge (A.place b.next.length q).toNat cs.size with h | h
      · exact h
      · rw [Array.getElem?_eq_none h] at this; cases this
    simp [hlt]
  · have hne : (A.place b.next.length p).toNat ≠ (A.place b.next.length q).toNat := fun he => e (A.place_inj hq hp (by have := (A.place_in hp).1; have := (A.place_in hq).1; omega))
    rw [if_neg hne, h q hq]
    simp [e]
theorem Tb.new {w : World} {a b : A.Mac} {M : Nat} (hM : (M : Int) = (1 + (a.next.length : Int)) * (1 + (b.next.length : Int))) : Tb (w.alloc (.cells (madeCells #[.bool false] M) 4)) w.heap.size a b M fun _ => false := by
  refine ⟨_, Blk.new w _ _, size_madeCells _ _, fun q hq => ?_⟩
  have := A.place_in hq
  rw [← Array.getElem?_toList, toList_madeCells_one, List.getElem?_replicate, if_pos (by omega)]
theorem info_bool : (Try.prog.info? 4).map (fun i => (i.zero, i.size, i.bytes)) = some (some (.bool false), 1, 1) := by kernel_rfl
set_option maxRecDepth 100000 in
set_option maxHeartbeats 4000000 in
theorem place_any {w : World} {wb : Nat} {a b : A.Mac} {p : A.Pr} (hw : Blk w wb 3 #[.int .i64 (1 + (b.next.length : Int))]) (hp : A.InP a b p) (ha : a.next.length ≤ 4000) (hb : b.next.length ≤ 4000) :
    Calls Try.prog 55 #[pairV p, .pointer (some ⟨wb, 0, none⟩)] w fun e w' => e = .returned (.int .i64 (A.place b.next.length p)) ∧ Frm (fun _ => False) w w' := by
  have hpl := A.place_in hp
  obtain ⟨⟨h1, h2⟩, h3, h4⟩ := hp
  obtain ⟨p1, p2⟩ := p
  obtain ⟨nb, hnb⟩ : ∃ nb, nb = b.next.length := ⟨_, rfl⟩
  rw [← hnb] at hw hpl hb h4 ⊢
  dsimp only at h1 h2 h3 h4
  have HM : Hid ((1 + (a.next.length : Int)) * (1 + (nb : Int)) ≤ 16008001) := by
    have := Int.mul_le_mul (show 1 + (a.next.length : Int) ≤ 4001 by omega) (show 1 + (nb : Int) ≤ 4001 by omega) (by omega) (by omega)
    exact this
  unfold A.place at hpl
  obtain ⟨h5, h6⟩ := hpl
  dsimp only at h5 h6
  have e1 : IntKind.i64.wrap (1 + p1) = 1 + p1 := IntWalk.i64_in _ (by omega)
  have e0 : 0 ≤ (1 + p1) * (1 + (nb : Int)) := Int.mul_nonneg (by omega) (by omega)
  have HNB := Lib.hid hnb
  clear hnb
  have HE2 : Hid (IntKind.i64.wrap ((1 + p1) * (1 + (nb : Int))) = (1 + p1) * (1 + (nb : Int))) := IntWalk.i64_in _ (by have := HM.out; omega)
  have HE3 : Hid (A.place nb (p1, p2) = (1 + p1) * (1 + (nb : Int)) + 1 + p2) := rfl
  rw [HE3.out]
  have HB : Hid ((1 + p1) * (1 + (nb : Int)) + 1 + p2 ≤ 16008001 ∧ 0 ≤ (1 + p1) * (1 + (nb : Int)) + 1 + p2) := show _ ∧ _ by have := HM.out; omega
  have x0 := (hw.alloc (.cells #[.int .i64 p1, .int .i64 p2] 40)).cell 0
  have F0 : Hid (Frm (fun _ => False) w (w.alloc (.cells #[.int .i64 p1, .int .i64 p2] 40))) := (Frm.refl _ w).alloc _
  have e2 := HE2.out
  have e3 : (1 + p1) * (1 + (nb : Int)) ≤ 16008001 := by have := HM.out; omega
  generalize hk : (1 + p1) * (1 + (nb : Int)) = k at *
  have hB := HB.out
  have hB1 := hB.1
  have hB2 := hB.2
  clear h5 h6 HM HE2 hB
  simp only [pairV]
  go_enter Try.func55, Try.ntmps55
  go_wp2_with fail
  go_ret
  exact ⟨rfl, F0.out⟩
end Go.Proofs.Ytiekaicbjinbaaa
end
section
namespace Go.Proofs.Ytiekaicbjinbaaa
open Go.RowKit
/-- What a run of shows keeps: the boxes of its machines, of the width, the table. -/
structure Sh (w0 w : World) (ca cb : Array Value) (a b : A.Mac) (M : Nat) (S : A.Pr → Bool) : Prop where
  fr : Frm (fun _ => False) w0 w
  ba : Blk w w0.heap.size 25 ca
  bb : Blk w (w0.heap.size + 1) 25 cb
  bw : Blk w (w0.heap.size + 2) 3 #[.int .i64 (1 + (b.next.length : Int))]
  tb : Tb w (w0.heap.size + 3) a b M S
theorem Sh.call {w0 w w' : World} {ca cb : Array Value} {a b : A.Mac} {M : Nat} {S : A.Pr → Bool} (h : Sh w0 w ca cb a b M S) (F : Frm (fun _ => False) w w') : Sh w0 w' ca cb a b M S :=
  ⟨h.fr.trans F, F.blk h.ba id, F.blk h.bb id, F.blk h.bw id, h.tb.frm F id⟩
theorem Sh.set_ {w0 w : World} {ca cb : Array Value} {a b : A.Mac} {M : Nat} {S S' : A.Pr → Bool} (h : Sh w0 w ca cb a b M S) {p : A.Pr} (hp : A.InP a b p) (hS : ∀ q, S' q = (decide (q = p) || S q)) (i : Nat) (hi : (A.place b.next.length p).toNat = i) :
    Sh w0 (w.setCell ⟨w0.heap.size + 3, i, none⟩ (.bool true)) ca cb a b M S' := by
  subst hi
  exact ⟨h.fr.set_ (fun hlt => by dsimp only at hlt; omega) _, h.ba.far (by dsimp only; omega) _, h.bb.far (by dsimp only; omega) _, h.bw.far (by dsimp only; omega) _, h.tb.set_ hp hS⟩
namespace A
theorem among_nil (q : Pr) : among [] q = (decide (q = (-1, -1)) || false) := by simp [among]
theorem among_take {l : List Pr} {k : Nat} (hk : k < l.length) (q : Pr) : among (l.take (k + 1)) q = (decide (q = l[k]) || among (l.take k) q) := by
  unfold among
  rw [List.take_succ_eq_append_getElem hk]
  simp only [List.mem_append, List.mem_singleton, Bool.decide_or]
  cases decide (q = (-1, -1)) <;> cases decide (q = l[k]) <;> cases decide (q ∈ List.take k l) <;> rfl
def rowOk (a b : Mac) (l : List Pr) (p : Pr) : Bool := agree a b p && (List.range a.letters.toNat).all fun (k : Nat) => among l (leadP a b p k)
theorem shows_eq (a b : Mac) (l : List Pr) : shows a b l = (among l (a.start, b.start) && l.all (rowOk a b l)) := rfl
theorem range_drop {n j : Nat} (h : j < n) (f : Nat → Bool) : ((List.range n).drop j).all f = (f j && ((List.range n).drop (j + 1)).all f) := by
  rw [List.drop_eq_getElem_cons (by simpa using h), List.all_cons, List.getElem_range]
theorem range_end {n j : Nat} (h : n ≤ j) (f : Nat → Bool) : ((List.range n).drop j).all f = true := by rw [List.drop_of_length_le (by simpa using h)]; rfl
theorem all_drop {l : List Pr} {k : Nat} (h : k < l.length) (f : Pr → Bool) : (l.drop k).all f = (f l[k] && (l.drop (k + 1)).all f) := by rw [List.drop_eq_getElem_cons h, List.all_cons]
end A
set_option maxRecDepth 100000 in
set_option maxHeartbeats 4000000 in
theorem shows_any {w : World} {P Q R : Nat → Prop} {v v' vl : Value} {a b : A.Mac} {l : List A.Pr} (h : MachAt w P v a) (h' : MachAt w Q v' b) (hl : Prs2 w R vl l) (ht : A.Two a b) (hin : ∀ p ∈ l, A.InP a b p) (hll : l.length ≤ maxLen) :
    Calls Try.prog 37 #[v, v', vl] w fun e w' => e = .returned (.bool (A.shows a b l)) ∧ Frm (fun _ => False) w w' := by
  obtain ⟨A1, c1, A2, c2, rfl⟩ := h.form
  obtain ⟨B1, d1, B2, d2, rfl⟩ := h'.form
  obtain ⟨AL, cl, rfl, hL⟩ := hl
  have HL := Lib.hid hL
  have HM := Lib.hid h
  have HM' := Lib.hid h'
  have HT := Lib.hid ht
  have HIN := Lib.hid hin
  have hna := ht.na
  have hnb := ht.nb
  have hla := ht.la
  unfold maxLen at hll
  clear h h' hL ht hin
  obtain ⟨M, hM⟩ : ∃ M : Nat, M = (1 + a.next.length) * (1 + b.next.length) := ⟨_, rfl⟩
  have hMb : M ≤ 16008001 := by rw [hM]; exact Nat.mul_le_mul (show 1 + a.next.length ≤ 4001 by omega) (show 1 + b.next.length ≤ 4001 by omega)
  have hmk := run_make_row' (P := Try.prog) 23 4 (.bool false) 1 Try.underlying23 info_bool rfl .i64 .i64 M (by omega) (by omega)
  have hM1 : (M : Int) = (1 + (a.next.length : Int)) * (1 + (b.next.length : Int)) := by rw [hM, Int.natCast_mul, Int.natCast_add, Int.natCast_add]; rfl
  have hM2 : IntKind.i64.wrap ((1 + (a.next.length : Int)) * (1 + (b.next.length : Int))) = M := by rw [← hM1]; exact IntWalk.i64_in _ (by omega)
  have HMM := Lib.hid hM1
  clear hM hM1
  have HPM : Hid (∀ q, A.InP a b q → ∃ i : Nat, A.place b.next.length q = (i : Int) ∧ (A.place b.next.length q).toNat = i ∧ (i : Int) < M) := fun q hq => by
    obtain ⟨h1, h2⟩ := A.place_in hq
    exact ⟨(A.place b.next.length q).toNat, by omega, rfl, by rw [HMM.out]; omega⟩
  obtain ⟨W, hW⟩ : ∃ W, W = (((w.alloc (.cells (macC a A1 c1 A2 c2) 25)).alloc (.cells (macC b B1 d1 B2 d2) 25)).alloc (.cells #[.int .i64 (1 + (b.next.length : Int))] 3)).alloc (.cells (madeCells #[.bool false] M) 4) := ⟨_, rfl⟩
  have HSH : Hid (Sh w W (macC a A1 c1 A2 c2) (macC b B1 d1 B2 d2) a b M fun _ => false) := show Sh _ _ _ _ _ _ _ _ by
    subst hW
    refine ⟨((((Frm.refl _ w).alloc _).alloc _).alloc _).alloc _, (((Blk.new w _ _).alloc _).alloc _).alloc _, ((blk_at (by simp)).alloc _).alloc _, (blk_at (by simp)).alloc _, ?_⟩
    have := Tb.new (w := (((w.alloc (.cells (macC a A1 c1 A2 c2) 25)).alloc (.cells (macC b B1 d1 B2 d2) 25)).alloc (.cells #[.int .i64 (1 + (b.next.length : Int))] 3))) HMM.out
    simpa using this
  simp only [macC] at hW
  have HWW := Lib.hid hW
  clear hW
  go_enter Try.func37, Try.ntmps37
  go_wp2_with fail
  rw [← HWW.out]
  clear hmk hM2
  refine (nowhere_any _).mono ?_
  rintro _ w1 ⟨rfl, f1⟩
  have HS1 := Lib.hid (HSH.out.call f1)
  clear f1
  have hinN : A.InP a b (-1, -1) := ⟨⟨by simp, by dsimp only; omega⟩, by simp, by dsimp only; omega⟩
  go_wp2_with fail
  refine (place_any HS1.out.bw hinN hna hnb).mono ?_
  rintro _ w2 ⟨rfl, f2⟩
  have HS2 := Lib.hid (HS1.out.call f2)
  clear f2
  obtain ⟨i0, hi0, hj0, hi1⟩ := HPM.out _ hinN
  rw [hi0]
  have t0 := HS2.out.tb.cell hinN
  have t1 := HS2.out.tb.frozen i0
  rw [hj0] at t0
  have HJ0 := Lib.hid hj0
  clear hi0 hj0
  go_wp2_with fail
  have HSA := Lib.hid ((HS2.out.set_ hinN (S' := A.among []) A.among_nil i0 HJ0.out))
  clear t0 t1 hi1 hinN
  go_loopg [34] (l.length + 1) (fun n i wr => ∃ k : Nat, k ≤ l.length ∧ n = l.length + 1 - k ∧ i = .int .i64 (k : Int) ∧ Hid (Sh w wr (macC a A1 c1 A2 c2) (macC b B1 d1 B2 d2) a b M (A.among (l.take k))))
  case atStart => exact ⟨0, Nat.zero_le _, rfl, rfl, HSA⟩
  case round =>
    obtain ⟨k, hk, rfl, rfl, HS⟩ := hrel
    by_cases hlt : k < l.length
    · have hlt' : (k : Int) < (l.length : Int) := by omega
      obtain ⟨g, o, hA, _, hc0, hc1⟩ := HL.out k hlt
      subst hA
      have c0 := HS.out.fr.cell id hc0
      have c1' := HS.out.fr.cell id hc1
      have hpin := HIN.out _ (List.getElem_mem hlt)
      have HTK : Hid (∀ q, A.among (l.take (k + 1)) q = (decide (q = l[k]) || A.among (l.take k) q)) := A.among_take hlt
      generalize l[k] = p at *
      obtain ⟨p1, p2⟩ := p
      dsimp only at c0 c1'
      have pb := Blk.new wr 40 #[.int .i64 p1, .int .i64 p2]
      have q0 := pb.cell 0
      have q1 := pb.cell 1
      have HSP := Lib.hid (HS.out.call ((Frm.refl _ wr).alloc (.cells #[.int .i64 p1, .int .i64 p2] 40)))
      clear hc0 hc1 pb
      go_wp2_with fail
      refine (place_any (p := (p1, p2)) HSP.out.bw hpin hna hnb).mono ?_
      rintro _ w3 ⟨rfl, f3⟩
      have HS3 := Lib.hid (HSP.out.call f3)
      obtain ⟨i3, hi3, hj3, hlt3⟩ := HPM.out _ hpin
      rw [hi3]
      have t0 := HS3.out.tb.cell hpin
      have t1 := HS3.out.tb.frozen i3
      rw [hj3] at t0
      have HJ3 := Lib.hid hj3
      have HPIN := Lib.hid hpin
      clear hi3 hj3 f3 hpin q0 q1 c0 c1'
      go_wp2_with fail
      go_roundg (l.length + 1 - (k + 1))
      case measure => omega
      case rel => exact ⟨k + 1, by omega, rfl, by go_num, HS3.out.set_ HPIN.out HTK.out i3 HJ3.out⟩
    · have hlt' : ¬ (k : Int) < (l.length : Int) := by omega
      obtain rfl : k = l.length := by omega
      rw [List.take_length] at HS
      have e0 := HS.out.ba.cell 0
      have e1 := HS.out.ba.cell 1
      have e2 := HS.out.ba.cell 2
      have e3 := HS.out.ba.cell 3
      have g0 := HS.out.bb.cell 0
      have g1 := HS.out.bb.cell 1
      have g2 := HS.out.bb.cell 2
      have g3 := HS.out.bb.cell 3
      simp only [macC] at e0 e1 e2 e3 g0 g1 g2 g3
      go_wp2_with fail
      clear e0 e1 e2 e3 g0 g1 g2 g3
      refine (starts_any (HM.out.keep0 HS.out.fr) (HM'.out.keep0 HS.out.fr)).mono ?_
      rintro _ w3 ⟨rfl, f3⟩
      have HS3 := Lib.hid (HS.out.call f3)
      clear f3
      have HIS : Hid (A.InP a b (a.start, b.start)) := ⟨HT.out.fa.start, HT.out.fb.start⟩
      go_wp2_with fail
      refine (place_any HS3.out.bw HIS.out hna hnb).mono ?_
      rintro _ w4 ⟨rfl, f4⟩
      have HS4 := Lib.hid (HS3.out.call f4)
      obtain ⟨i4, hi4, hj4, hlt4⟩ := HPM.out _ HIS.out
      rw [hi4]
      have t0 := HS4.out.tb.cell HIS.out
      rw [hj4] at t0
      have HAA : Hid (A.shows a b l = (A.among l (a.start, b.start) && l.all (A.rowOk a b l))) := A.shows_eq a b l
      clear hi4 hj4 f4
      generalize A.among l (a.start, b.start) = st at *
      cases st with
      | false =>
        go_wp2_with fail
        go_ret
        exact ⟨ret_bool (by rw [HAA.out]; rfl), HS4.out.fr⟩
      | true =>
        go_wp2_with fail
        have HS0 : Hid (A.shows a b l = (l.drop 0).all (A.rowOk a b l)) := HAA.out
        have hl0 := HT.out.fa.letters
        clear t0 HAA hlt4
        go_loopg [55] (l.length + 1) (fun n i wr => ∃ k : Nat, k ≤ l.length ∧ n = l.length + 1 - k ∧ i = .int .i64 (k : Int) ∧ Hid (A.shows a b l = (l.drop k).all (A.rowOk a b l)) ∧ Hid (Sh w wr (macC a A1 c1 A2 c2) (macC b B1 d1 B2 d2) a b M (A.among l)))
        case atStart => exact ⟨0, Nat.zero_le _, rfl, rfl, HS0, HS4⟩
        case round =>
          obtain ⟨k, hk, rfl, rfl, HK, HS⟩ := hrel
          by_cases hlt : k < l.length
          · have hlt' : (k : Int) < (l.length : Int) := by omega
            obtain ⟨g, o, hA, _, hc0, hc1⟩ := HL.out k hlt
            subst hA
            have c0 := HS.out.fr.cell id hc0
            have c1' := HS.out.fr.cell id hc1
            have HPIN : Hid (A.InP a b l[k]) := HIN.out _ (List.getElem_mem hlt)
            have HK1 : Hid ((l.drop k).all (A.rowOk a b l) = (A.rowOk a b l l[k] && (l.drop (k + 1)).all (A.rowOk a b l))) := A.all_drop hlt _
            generalize l[k] = p at *
            obtain ⟨p1, p2⟩ := p
            dsimp only at c0 c1'
            have HPB : Hid (Blk (wr.alloc (.cells #[.int .i64 p1, .int .i64 p2] 40)) wr.heap.size 40 #[.int .i64 p1, .int .i64 p2]) := Blk.new wr _ _
            have HSP := Lib.hid (HS.out.call ((Frm.refl _ wr).alloc (.cells #[.int .i64 p1, .int .i64 p2] 40)))
            have q0 := HPB.out.cell 0
            have q1 := HPB.out.cell 1
            have e0 := HSP.out.ba.cell 0
            have e1 := HSP.out.ba.cell 1
            have e2 := HSP.out.ba.cell 2
            have e3 := HSP.out.ba.cell 3
            have g0 := HSP.out.bb.cell 0
            have g1 := HSP.out.bb.cell 1
            have g2 := HSP.out.bb.cell 2
            have g3 := HSP.out.bb.cell 3
            simp only [macC] at e0 e1 e2 e3 g0 g1 g2 g3
            clear hc0 hc1
            go_wp2_with fail
            clear e0 e1 e2 e3 g0 g1 g2 g3 q0 q1 c0 c1'
            refine (agree_any (HM.out.keep0 HSP.out.fr) (HM'.out.keep0 HSP.out.fr) HT.out (p1, p2) HPIN.out).mono ?_
            rintro _ w5 ⟨rfl, f5⟩
            have HS5 := Lib.hid (HSP.out.call f5)
            have HPB5 := Lib.hid (f5.blk HPB.out id)
            have HRO : Hid (A.rowOk a b l (p1, p2) = (A.agree a b (p1, p2) && ((List.range a.letters.toNat).drop 0).all fun (k : Nat) => A.among l (A.leadP a b (p1, p2) k))) := rfl
            clear f5
            generalize A.agree a b (p1, p2) = ag at *
            cases ag with
            | false =>
              have HZ : Hid (A.shows a b l = false) := show _ = _ by rw [HK.out, HK1.out, HRO.out]; rfl
              go_wp2_with fail
              go_ret
              exact ⟨ret_bool HZ.out.symm, HS5.out.fr⟩
            | true =>
              have HK2 : Hid (A.shows a b l = (((List.range a.letters.toNat).drop 0).all (fun (k : Nat) => A.among l (A.leadP a b (p1, p2) k)) && (l.drop (k + 1)).all (A.rowOk a b l))) := show _ = _ by rw [HK.out, HK1.out, HRO.out]; rfl
              have e0 := HS5.out.ba.cell 0
              simp only [macC] at e0
              clear HK1 HRO
              go_wp2_with fail
              go_loopg [66] (a.letters.toNat + 1) (fun n i wr' => ∃ j : Nat, j ≤ a.letters.toNat ∧ n = a.letters.toNat + 1 - j ∧ i = .int .i64 (j : Int) ∧ Hid (A.shows a b l = (((List.range a.letters.toNat).drop j).all (fun (k : Nat) => A.among l (A.leadP a b (p1, p2) k)) && (l.drop (k + 1)).all (A.rowOk a b l))) ∧ Hid (Sh w wr' (macC a A1 c1 A2 c2) (macC b B1 d1 B2 d2) a b M (A.among l)) ∧ Hid (Blk wr' wr.heap.size 40 #[.int .i64 p1, .int .i64 p2]))
              case atStart => exact ⟨0, Nat.zero_le _, rfl, rfl, HK2, HS5, HPB5⟩
              case round =>
                clear HK2 HS5 HPB5 e0
                obtain ⟨j, hj, rfl, rfl, HJ, HS6, HPB6⟩ := hrel
                by_cases hltj : j < a.letters.toNat
                · have hltj' : (j : Int) < a.letters := by omega
                  have HJ1 : Hid (((List.range a.letters.toNat).drop j).all (fun (k : Nat) => A.among l (A.leadP a b (p1, p2) k)) = (A.among l (A.leadP a b (p1, p2) j) && ((List.range a.letters.toNat).drop (j + 1)).all (fun (k : Nat) => A.among l (A.leadP a b (p1, p2) k)))) := A.range_drop hltj _
                  have q0 := HPB6.out.cell 0
                  have q1 := HPB6.out.cell 1
                  have e0 := HS6.out.ba.cell 0
                  have e1 := HS6.out.ba.cell 1
                  have e2 := HS6.out.ba.cell 2
                  have e3 := HS6.out.ba.cell 3
                  have g0 := HS6.out.bb.cell 0
                  have g1 := HS6.out.bb.cell 1
                  have g2 := HS6.out.bb.cell 2
                  have g3 := HS6.out.bb.cell 3
                  simp only [macC] at e0 e1 e2 e3 g0 g1 g2 g3
                  go_wp2_with fail
                  clear e0 e1 e2 e3 g0 g1 g2 g3 q0 q1
                  refine (leadPair_any (HM.out.keep0 HS6.out.fr) (HM'.out.keep0 HS6.out.fr) HT.out (p1, p2) j HPIN.out (by omega) hltj').mono ?_
                  rintro _ w7 ⟨rfl, f7⟩
                  have HS7 := Lib.hid (HS6.out.call f7)
                  have HPB7 := Lib.hid (f7.blk HPB6.out id)
                  have HIL : Hid (A.InP a b (A.leadP a b (p1, p2) j)) := HT.out.lead HPIN.out (by omega) hltj'
                  clear f7
                  generalize A.leadP a b (p1, p2) j = q at *
                  go_wp2_with fail
                  refine (place_any HS7.out.bw HIL.out hna hnb).mono ?_
                  rintro _ w8 ⟨rfl, f8⟩
                  have HS8 := Lib.hid (HS7.out.call f8)
                  have HPB8 := Lib.hid (f8.blk HPB7.out id)
                  obtain ⟨i8, hi8, hj8, hlt8⟩ := HPM.out _ HIL.out
                  rw [hi8]
                  have t0 := HS8.out.tb.cell HIL.out
                  rw [hj8] at t0
                  clear hi8 hj8 f8
                  generalize A.among l q = am at *
                  cases am with
                  | false =>
                    have HZ : Hid (A.shows a b l = false) := show _ = _ by rw [HJ.out, HJ1.out]; rfl
                    go_wp2_with fail
                    go_ret
                    exact ⟨ret_bool HZ.out.symm, HS8.out.fr⟩
                  | true =>
                    have HJ2 : Hid (A.shows a b l = (((List.range a.letters.toNat).drop (j + 1)).all (fun (k : Nat) => A.among l (A.leadP a b (p1, p2) k)) && (l.drop (k + 1)).all (A.rowOk a b l))) := show _ = _ by rw [HJ.out, HJ1.out]; rfl
                    go_wp2_with fail
                    go_roundg (a.letters.toNat + 1 - (j + 1))
                    case measure => omega
                    case rel => exact ⟨j + 1, by omega, rfl, by go_num, HJ2, HS8, HPB8⟩
                · have hltj' : ¬ (j : Int) < a.letters := by omega
                  have HJ2 : Hid (A.shows a b l = (l.drop (k + 1)).all (A.rowOk a b l)) := show _ = _ by rw [HJ.out, A.range_end (by omega)]; rfl
                  go_wp2_with fail
                  go_roundg (l.length + 1 - (k + 1))
                  case measure => omega
                  case rel => exact ⟨k + 1, by omega, rfl, by go_num, HJ2, HS6⟩
          · have hlt' : ¬ (k : Int) < (l.length : Int) := by omega
            have HZ : Hid (A.shows a b l = true) := show _ = _ by rw [HK.out, List.drop_of_length_le (by omega)]; rfl
            go_wp2_with fail
            go_ret
            exact ⟨ret_bool HZ.out.symm, HS.out.fr⟩
end Go.Proofs.Ytiekaicbjinbaaa
end
