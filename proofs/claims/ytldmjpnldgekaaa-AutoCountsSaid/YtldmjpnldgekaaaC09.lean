/- A region that draws its order, told by what each of its operations leaves behind, where a fact may speak of the values of operations ahead of it, and an operation need leave no value. A region that draws its order, told by what holds of all its operations' values together. wp_region_dep, where an edge may hold for the text's order alone. append of whatever row onto a new, empty one. even, and what the closed run of awake comes to. awake. The reference's Copy. Contracts of the program's functions, with no condition beyond what each theorem states. -/
import Derived.Test.YtldmjpnldgekaaaC08
import Derived.Test.YtldmjpnldgekaaaC02
import Derived.Deep.AppendSrc
import Derived.Test.YtldmjpnldgekaaaC07
import Derived.Test.YtldmjpnldgekaaaC03
import Derived.Lib.SmallJoins
section
namespace Go.Proofs.Ytldmjpnldgekaaa
open Go.RowKit
section
variable {P : Program} {Q : Exit → Act → World → Prop}
def noL : List Value → World → Prop := fun _ _ => False
def f1 (g : Value → World → Prop) : List Value → World → Prop := fun l w => g (l.getD 0 undef) w
def f2 (g : Value → Value → World → Prop) : List Value → World → Prop := fun l w => g (l.getD 0 undef) (l.getD 1 undef) w
def valAt (ds : List Nat) (tm : Array Value) (k : Nat) : Value := tm[ds.getD k 0]?.getD undef
def updV (vs : Nat → Value) (i : Nat) (v : Value) : Nat → Value := fun k => if k = i then v else vs k
def depB (ops : Array Oper) (ds : List Nat) (D : List (List Nat)) (n : Nat) (gs : List (Nat × Bool)) : Bool :=
  (List.range ops.size).all fun i => match ops[i]? with
    | none => false
    | some o => (match o.dst with | some x => x == ds.getD i 0 && decide (x < n) | none => decide (n ≤ ds.getD i 0)) && ((List.range ops.size).all fun j => ds.getD i 0 != ds.getD j 0 || i == j || decide (n ≤ ds.getD i 0)) && (o.after.all fun e => decide (e.on < i) && Region.binds .any e) && (match o.guard with | none => true | some g => gs.contains g && o.after.any fun e => e.on == g.1) && ((D.getD i []).all fun k => k == i || o.after.any fun e => (D.getD e.on []).contains k)
theorem wp_region_dep {id : Nat} {a0 : Act} {w0 : World} {ops : Array Oper} (ds : List Nat) (D : List (List Nat)) (F : List (List Value → World → Prop)) (R : World → World → Prop) (Rr : Nat → World → World → Prop) (Sx : Nat → World → Prop) (gs : List (Nat × Bool)) (fix : List (Nat × Value))
    (hm : P.follows .mixedOrders = true) (hB : (depB ops ds D a0.tmps.size gs && decide (ds.length = ops.size) && decide (F.length = ops.size)) = true) (hRt : ∀ a b c, R a b → R b c → R a c) (hRr : ∀ i a b, Rr i a b → R a b)
    (hst : ∀ j i (hj : j < ops.size), i < ops.size → i ≠ j → (ops[j].after.any fun e => e.on == i) = false → ∀ l w w', F.getD j noL l w → Rr i w w' → F.getD j noL l w')
    (hSs : ∀ i k (hk : k < ops.size), i ≠ k → (ops[k].after.any fun e => e.on == i) = false → ∀ w w', Sx i w → Rr k w w' → Sx i w') (hS0 : ∀ i, Sx i { w0 with drawn := w0.drawn + 1 })
    (hg : ∀ g ∈ gs, D.getD g.1 [] = [g.1] ∧ ∀ v w, F.getD g.1 noL [v] w → v = .bool g.2) (h0 : R w0 { w0 with drawn := w0.drawn + 1 }) (hfix : ∀ x ∈ fix, x.1 ∉ ds ∧ a0.tmps[x.1]?.getD undef = x.2)
    (hstep : Each (fun i o => ∀ (Q : Exit → Act → World → Prop) (tm : Array Value) (df : List Deferred) w, R w0 w → Sx i w → (∀ x ∈ fix, tm[x.1]?.getD undef = x.2) → (∀ j, (o.after.any fun e => (D.getD e.on []).contains j) = true → F.getD j noL ((D.getD j []).map (valAt ds tm)) w) →
      o.wp P ⟨tm, df⟩ w (fun a' w' => ∃ v, a' = Act.put ⟨tm, df⟩ o.dst v ∧ (o.dst = none → v = undef) ∧ F.getD i noL ((D.getD i []).map (updV (valAt ds tm) i v)) w' ∧ Rr i w w') Q) 0 ops.toList)
    (hend : ∀ (vs : Nat → Value) w, R w0 w → (∀ i < ops.size, F.getD i noL ((D.getD i []).map vs) w) → Q .normal ⟨putAll ops.size (fun i => ds.getD i 0) vs a0.tmps, a0.defers⟩ w) : (Code.region id ops true).wp P Q a0 w0 := by
  simp only [Bool.and_eq_true, decide_eq_true_eq] at hB
  obtain ⟨⟨hB1, hB2⟩, hB3⟩ := hB
  unfold depB at hB1
  rw [List.all_eq_true] at hB1
  have hB' : ∀ i (h : i < ops.size), (match ops[i].dst with | some x => x == ds.getD i 0 && decide (x < a0.tmps.size) | none => decide (a0.tmps.size ≤ ds.getD i 0)) = true ∧ (∀ j < ops.size, ds.getD i 0 = ds.getD j 0 → i = j ∨ a0.tmps.size ≤ ds.getD i 0) ∧ (∀ e ∈ ops[i].after, e.on < i ∧ Region.binds .any e = true) ∧ (match ops[i].guard with | none => true | some g => gs.contains g && ops[i].after.any fun e => e.on == g.1) = true ∧ ∀ k ∈ D.getD i [], k = i ∨ ∃ e ∈ ops[i].after, k ∈ D.getD e.on [] := fun i h => by
    have h1 := hB1 i (List.mem_range.2 h)
    rw [Array.getElem?_eq_getElem h] at h1
    simp only [Bool.and_eq_true, decide_eq_true_eq, List.all_eq_true, List.mem_range, Bool.or_eq_true, bne_iff_ne, beq_iff_eq, Array.all_eq_true_iff_forall_mem] at h1
    obtain ⟨⟨⟨⟨h2, h3⟩, h4⟩, h5⟩, h6⟩ := h1
    refine ⟨h2, fun j hj e => ?_, h4, h5, fun k hk => ?_⟩
    · rcases h3 j hj with (h | h) | h
      · exact absurd e h
      · exact .inl h
      · exact .inr h
    · rcases h6 k hk with h | h
      · exact .inl h
      · obtain ⟨e, he, he'⟩ := Array.any_eq_true'.1 h
        exact .inr ⟨e, he, by simpa using he'⟩
  clear hB1
  have hmem : ∀ i, i < ops.size → ds.getD i 0 ∈ ds := fun i hi => by
    have : i < ds.length := by omega
    have e : ds.getD i 0 = ds[i] := by simp [this]
    rw [e]
    exact List.getElem_mem this
  refine wp_region_any hm ?_
  have hall : ∀ (listed : Array Bool), listed.size = ops.size → Region.ready .any ops listed = [] → ∀ j < ops.size, listed.getD j true = true := by
    intro listed hs hr j
    induction j using Nat.strongRecOn with
    | _ j ih =>
      intro hj
      rcases hb : listed.getD j true with _ | _
      · exfalso
        have : j ∈ Region.ready .any ops listed := mem_ready.2 ⟨hb, ops[j], by simp [hj], fun e he _ => by
          have h1 := ((hB' j hj).2.2.1 e he).1
          have h2 := ih e.on h1 (by omega)
          have h3 : e.on < listed.size := by omega
          simpa [h3] using h2⟩
        rw [hr] at this
        cases this
      · rfl
  have fin : ∀ (listed : Array Bool) (tm : Array Value) (w : World), listed.size = ops.size → tm.size = a0.tmps.size → R w0 w → (∀ t, t ∉ ds → tm.getD t undef = a0.tmps.getD t undef) → (∀ j < ops.size, listed.getD j true = true → F.getD j noL ((D.getD j []).map (valAt ds tm)) w) → Region.ready .any ops listed = [] → Q .normal ⟨tm, a0.defers⟩ w := by
    intro listed tm w hs ht hR hu hf hr
    have hl := hall listed hs hr
    have h1 := hend (valAt ds tm) w hR fun i hi => hf i hi (hl i hi)
    have h2 : putAll ops.size (fun i => ds.getD i 0) (valAt ds tm) a0.tmps = tm := by
      have gen : ∀ n, n ≤ ops.size → (putAll n (fun i => ds.getD i 0) (valAt ds tm) a0.tmps).size = a0.tmps.size ∧ ∀ t, t < a0.tmps.size → (putAll n (fun i => ds.getD i 0) (valAt ds tm) a0.tmps).getD t undef = if (∃ j, j < n ∧ ds.getD j 0 = t) then tm.getD t undef else a0.tmps.getD t undef := by
        intro n
        induction n with
        | zero => intro _; exact ⟨rfl, fun t ht => by rw [if_neg (fun ⟨j, h, _⟩ => absurd h (by omega))]; rfl⟩
        | succ n ih =>
          intro hn
          obtain ⟨i1, i2⟩ := ih (by omega)
          unfold putAll at i1 i2 ⊢
          rw [List.range_succ, List.foldl_append, List.foldl_cons, List.foldl_nil]
          refine ⟨by rw [Array.size_setIfInBounds, i1], fun t ht' => ?_⟩
          dsimp only at i1 i2 ⊢
          by_cases hd : ds.getD n 0 = t
          · rw [hd, getD_setV (by rw [i1]; exact ht'), if_pos rfl, if_pos ⟨n, by omega, hd⟩]
            unfold valAt
            rw [hd, Array.getD_eq_getD_getElem?]
          · have e1 : ∀ (A : Array Value) (v : Value), (A.setIfInBounds (ds.getD n 0) v).getD t undef = A.getD t undef := fun A v => by
              simp only [Array.getD_eq_getD_getElem?, Array.getElem?_setIfInBounds]
              rw [if_neg hd]
            rw [e1, i2 t ht']
            congr 1
            apply propext
            constructor
            · rintro ⟨j, hj, e⟩; exact ⟨j, by omega, e⟩
            · rintro ⟨j, hj, e⟩
              exact ⟨j, by
                rcases Nat.lt_or_ge j n with h | h
                · exact h
                · have : j = n := by omega
                  rw [this] at e
                  exact absurd e hd, e⟩
      obtain ⟨g1, g2⟩ := gen ops.size (Nat.le_refl _)
      apply Array.ext
      · rw [g1, ht]
      · intro t ha hb
        have e1 : ∀ (A : Array Value) (h : t < A.size), A[t] = A.getD t undef := fun A h => by simp [h]
        rw [e1 _ ha, e1 _ hb, g2 t (by omega)]
        by_cases hne : ∃ j, j < ops.size ∧ ds.getD j 0 = t
        · rw [if_pos hne]
        · rw [if_neg hne]
          refine (hu t fun hmem => hne ?_).symm
          obtain ⟨j, hj, e⟩ := List.getElem_of_mem hmem
          exact ⟨j, by omega, by simp [hj, e]⟩
    rw [h2] at h1
    exact h1
  have key : ∀ (fuel : Nat) (listed : Array Bool) (tm : Array Value) (w : World), listed.size = ops.size → listed.toList.count false ≤ fuel → tm.size = a0.tmps.size → R w0 w → (∀ t, t ∉ ds → tm.getD t undef = a0.tmps.getD t undef) → (∀ j < ops.size, listed.getD j true = true → F.getD j noL ((D.getD j []).map (valAt ds tm)) w) → (∀ j < ops.size, listed.getD j true = true → ∀ k ∈ D.getD j [], k < ops.size ∧ listed.getD k true = true) → (∀ j (hj : j < ops.size), listed.getD j true = true → ∀ e ∈ ops[j].after, listed.getD e.on true = true) → (∀ j < ops.size, listed.getD j true = false → Sx j w) → wpAny P .any ops Q fuel listed ⟨tm, a0.defers⟩ w := by
    intro fuel
    induction fuel with
    | zero =>
      intro listed tm w hs hc ht hR hu hf hl hla hsx
      have hr : Region.ready .any ops listed = [] := by
        apply List.eq_nil_iff_forall_not_mem.2
        intro i hi
        obtain ⟨hb, o, ho, _⟩ := mem_ready.1 hi
        have hi' : i < ops.size := by
          rcases Nat.lt_or_ge i ops.size with h | h
          · exact h
          · rw [Array.getElem?_eq_none h] at ho; cases ho
        have := count_setB (l := listed) (i := i) (by omega) hb
        omega
      exact ⟨hr, fin listed tm w hs ht hR hu hf hr⟩
    | succ fuel ih =>
      intro listed tm w hs hc ht hR hu hf hl hla hsx
      refine ⟨fun hr => fin listed tm w hs ht hR hu hf hr, fun i hi => ?_⟩
      obtain ⟨hb, o, ho, hall'⟩ := mem_ready.1 hi
      have hi' : i < ops.size := by
        rcases Nat.lt_or_ge i ops.size with h | h
        · exact h
        · rw [Array.getElem?_eq_none h] at ho; cases ho
      have heo : ops[i] = o := by rw [Array.getElem?_eq_getElem hi'] at ho; exact Option.some.inj ho
      obtain ⟨k1, k2, k3, k4, k5⟩ := hB' i hi'
      have hdep : ∀ e ∈ ops[i].after, e.on < ops.size ∧ listed.getD e.on true = true := fun e he => by
        have h1 := k3 e he
        have h2 := hall' e (heo ▸ he) h1.2
        have h3 : e.on < listed.size := by omega
        exact ⟨by omega, by simpa [h3] using h2⟩
      have hfd : ∀ j, (ops[i].after.any fun e => (D.getD e.on []).contains j) = true → F.getD j noL ((D.getD j []).map (valAt ds tm)) w := fun j hj => by
        obtain ⟨e, he, he'⟩ := Array.any_eq_true'.1 hj
        obtain ⟨h1, h2⟩ := hdep e he
        obtain ⟨h3, h4⟩ := hl e.on h1 h2 j (by simpa using he')
        exact hf j h3 h4
      have hw : Region.wanted ops[i] (yielded ops tm) = true := by
        unfold Region.wanted
        rcases hgu : ops[i].guard with _ | ⟨j, b⟩
        · rfl
        · rw [hgu] at k4
          simp only [Bool.and_eq_true, List.contains_iff_mem] at k4
          obtain ⟨e, he, he'⟩ := Array.any_eq_true'.1 k4.2
          have he' : e.on = j := by simpa using he'
          subst he'
          obtain ⟨h1, h2⟩ := hdep e he
          obtain ⟨g1, g2⟩ := hg _ k4.1
          have h3 := hf e.on h1 h2
          rw [g1] at h3
          have h4 : tm[ds.getD e.on 0]?.getD undef = .bool b := g2 _ w h3
          have h5 : yielded ops tm e.on = some b := by
            unfold yielded
            have k1' := (hB' e.on h1).1
            rw [Array.getElem?_eq_getElem h1, Option.bind_some]
            rcases hd : ops[e.on].dst with _ | x
            · rw [hd] at k1'
              exfalso
              have k1' : a0.tmps.size ≤ ds.getD e.on 0 := by simpa using k1'
              rw [Array.getElem?_eq_none (show tm.size ≤ ds.getD e.on 0 by rw [ht]; exact k1')] at h4
              cases h4
            · rw [hd] at k1'
              simp only [Bool.and_eq_true, beq_iff_eq, decide_eq_true_eq] at k1'
              obtain ⟨rfl, hx⟩ := k1'
              replace hx : @LT.lt Nat _ (ds.getD e.on 0) a0.tmps.size := hx
              have hx' : ds.getD e.on 0 < tm.size := by omega
              rw [Option.bind_some, Array.getElem?_eq_getElem hx']
              rw [Array.getElem?_eq_getElem hx'] at h4
              rw [show tm[ds.getD e.on 0] = .bool b from h4]
          simp only [h5, beq_self_eq_true]
      unfold wpOp
      rw [Array.getElem?_eq_getElem hi']
      dsimp only
      rw [if_pos hw]
      have hs1 := Each.get hstep (i := i) (o := ops[i]) (by simp [hi']) Q tm a0.defers w hR (by rw [Nat.zero_add]; exact hsx i hi' hb) (fun x hx => by
        obtain ⟨h5, h6⟩ := hfix x hx
        have := hu x.1 h5
        simp only [Array.getD_eq_getD_getElem?] at this
        rw [this, h6]) hfd
      refine .inl (Oper.wp_mono (fun a' w' h' => ?_) hs1)
      obtain ⟨v, rfl, hvn, hv, hR'⟩ := h'
      rw [Nat.zero_add] at hv hR'
      -- the frame behind it
      obtain ⟨tm', e1, e2, e3, e4⟩ : ∃ tm', Act.put ⟨tm, a0.defers⟩ ops[i].dst v = ⟨tm', a0.defers⟩ ∧ tm'.size = tm.size ∧ (∀ k < ops.size, valAt ds tm' k = updV (valAt ds tm) i v k) ∧ ∀ t, t ∉ ds → tm'.getD t undef = tm.getD t undef := by
        rcases hd : ops[i].dst with _ | x
        · rw [hd] at k1
          have k1 : a0.tmps.size ≤ ds.getD i 0 := by simpa using k1
          refine ⟨tm, rfl, rfl, fun k hk => ?_, fun _ _ => rfl⟩
          unfold updV
          split
          · rename_i h
            rw [hvn hd, h]
            unfold valAt
            rw [Array.getElem?_eq_none (show tm.size ≤ ds.getD i 0 by omega)]
            rfl
          · rfl
        · rw [hd] at k1
          simp only [Bool.and_eq_true, beq_iff_eq, decide_eq_true_eq] at k1
          obtain ⟨rfl, hx⟩ := k1
          replace hx : @LT.lt Nat _ (ds.getD i 0) a0.tmps.size := hx
          refine ⟨tm.setIfInBounds (ds.getD i 0) v, rfl, by simp, fun k hk => ?_, fun t h => ?_⟩
          · unfold updV valAt
            rw [Array.getElem?_setIfInBounds]
            by_cases e : ds.getD i 0 = ds.getD k 0
            · have : i = k := by
                rcases k2 k hk e with h | h
                · exact h
                · exact absurd hx (Nat.not_lt.2 h)
              subst this
              have hx' : ds.getD i 0 < tm.size := by omega
              rw [if_pos rfl, if_pos hx', if_pos rfl]
              rfl
            · rw [if_neg e, if_neg (fun h => e (by rw [h]))]
          · simp only [Array.getD_eq_getD_getElem?, Array.getElem?_setIfInBounds]
            rw [if_neg (fun h' : ds.getD i 0 = t => h (h' ▸ hmem i hi'))]
      rw [e1]
      have hDi : ∀ k ∈ D.getD i [], k < ops.size ∧ (k = i ∨ listed.getD k true = true) := fun k hk => by
        rcases k5 k hk with h | ⟨e, he, he'⟩
        · exact ⟨by omega, .inl h⟩
        · obtain ⟨h1, h2⟩ := hdep e he
          obtain ⟨h3, h4⟩ := hl e.on h1 h2 k he'
          exact ⟨h3, .inr h4⟩
      refine ih (listed.setIfInBounds i true) tm' w' (by simpa using hs) ?_ (by omega) (hRt _ _ _ hR (hRr _ _ _ hR')) ?_ ?_ ?_ ?_ ?_
      · have := count_setB (l := listed) (i := i) (by omega) hb
        omega
      · intro t h
        rw [e4 t h]
        exact hu t h
      · intro j hj hlj
        rw [getD_setB (by omega)] at hlj
        by_cases e : i = j
        · subst e
          have : (D.getD i []).map (valAt ds tm') = (D.getD i []).map (updV (valAt ds tm) i v) := List.map_congr_left fun k hk => e3 k (hDi k hk).1
          rw [this]
          exact hv
        · rw [if_neg e] at hlj
          have : (D.getD j []).map (valAt ds tm') = (D.getD j []).map (valAt ds tm) := List.map_congr_left fun k hk => by
            obtain ⟨h1, h2⟩ := hl j hj hlj k hk
            rw [e3 k h1]
            unfold updV
            rw [if_neg (fun h => by rw [h] at h2; rw [h2] at hb; cases hb)]
          rw [this]
          refine hst j i hj hi' e ?_ _ _ _ (hf j hj hlj) hR'
          rw [Bool.eq_false_iff]
          intro hany
          obtain ⟨ed, hed, hed'⟩ := Array.any_eq_true'.1 hany
          have h1 := hla j hj hlj ed hed
          rw [show ed.on = i by simpa using hed', hb] at h1
          cases h1
      · intro j hj hlj k hk
        rw [getD_setB (by omega)] at hlj
        rw [getD_setB (by omega)]
        by_cases e : i = j
        · subst e
          obtain ⟨h1, h2⟩ := hDi k hk
          refine ⟨h1, ?_⟩
          rcases h2 with h | h
          · rw [if_pos h.symm]
          · split
            · rfl
            · exact h
        · rw [if_neg e] at hlj
          obtain ⟨h1, h2⟩ := hl j hj hlj k hk
          refine ⟨h1, ?_⟩
          split
          · rfl
          · exact h2
      · intro j hj hlj ed hed
        rw [getD_setB (by omega)] at hlj
        rw [getD_setB (by omega)]
        split
        · rfl
        · by_cases e : i = j
          · subst e
            exact (hdep ed hed).2
          · rw [if_neg e] at hlj
            exact hla j hj hlj ed hed
      · intro j hj hlj
        rw [getD_setB (by omega)] at hlj
        by_cases e : i = j
        · rw [if_pos e] at hlj
          cases hlj
        · rw [if_neg e] at hlj
          refine hSs j i hi' (Ne.symm e) ?_ _ _ (hsx j hj hlj) hR'
          rw [Bool.eq_false_iff]
          intro hany
          obtain ⟨ed, hed, hed'⟩ := Array.any_eq_true'.1 hany
          have h1 := (hdep ed hed).2
          rw [show ed.on = j by simpa using hed', hlj] at h1
          cases h1
  refine key ops.size _ a0.tmps _ (by simp) (by simp) rfl h0 (fun _ _ => rfl) (fun j hj hl => ?_) (fun j hj hl => ?_) (fun j hj hl => ?_) (fun j _ _ => hS0 j)
  · simp [hj] at hl
  · simp [hj] at hl
  · simp [hj] at hl
end
end Go.Proofs.Ytldmjpnldgekaaa
end
section
namespace Go.Proofs.Ytldmjpnldgekaaa
open Go.RowKit
section
variable {P : Program} {Q : Exit → Act → World → Prop}
/-- As depB, where an edge may hold for the text's order alone. -/
def invB (ops : Array Oper) (ds : List Nat) (n : Nat) (gs : List (Nat × Bool)) : Bool :=
  (List.range ops.size).all fun i => match ops[i]? with
    | none => false
    | some o => (match o.dst with | some x => x == ds.getD i 0 && decide (x < n) | none => decide (n ≤ ds.getD i 0)) && ((List.range ops.size).all fun j => ds.getD i 0 != ds.getD j 0 || i == j || decide (n ≤ ds.getD i 0)) && (o.after.all fun e => decide (e.on < i) || !Region.binds .any e) && (match o.guard with | none => true | some g => gs.contains g && o.after.any fun e => e.on == g.1 && Region.binds .any e)
def updB (L : Nat → Bool) (i : Nat) : Nat → Bool := fun k => if k = i then true else L k
theorem wp_region_inv {id : Nat} {a0 : Act} {w0 : World} {ops : Array Oper} (ds : List Nat) (Inv : (Nat → Bool) → (Nat → Value) → World → Prop) (gs : List (Nat × Bool)) (fix : List (Nat × Value))
    (hm : P.follows .mixedOrders = true) (hB : (invB ops ds a0.tmps.size gs && decide (ds.length = ops.size)) = true)
    (hcong : ∀ L L' vs vs' w, (∀ k < ops.size, L k = L' k) → (∀ k < ops.size, vs k = vs' k) → Inv L vs w → Inv L' vs' w)
    (hg : ∀ g ∈ gs, ∀ L vs w, Inv L vs w → L g.1 = true → vs g.1 = .bool g.2) (h0 : Inv (fun _ => false) (valAt ds a0.tmps) { w0 with drawn := w0.drawn + 1 }) (hfix : ∀ x ∈ fix, x.1 ∉ ds ∧ a0.tmps[x.1]?.getD undef = x.2)
    (hstep : Each (fun i o => ∀ (Q : Exit → Act → World → Prop) (tm : Array Value) (df : List Deferred) w (L : Nat → Bool), Inv L (valAt ds tm) w → L i = false → (∀ e ∈ o.after, Region.binds .any e = true → L e.on = true) → (∀ x ∈ fix, tm[x.1]?.getD undef = x.2) →
      o.wp P ⟨tm, df⟩ w (fun a' w' => ∃ v, a' = Act.put ⟨tm, df⟩ o.dst v ∧ (o.dst = none → v = undef) ∧ Inv (updB L i) (updV (valAt ds tm) i v) w') Q) 0 ops.toList)
    (hend : ∀ (vs : Nat → Value) w, Inv (fun _ => true) vs w → Q .normal ⟨putAll ops.size (fun i => ds.getD i 0) vs a0.tmps, a0.defers⟩ w) : (Code.region id ops true).wp P Q a0 w0 := by
  simp only [Bool.and_eq_true, decide_eq_true_eq] at hB
  obtain ⟨hB1, hB2⟩ := hB
  unfold invB at hB1
  rw [List.all_eq_true] at hB1
  have hB' : ∀ i (h : i < ops.size), (match ops[i].dst with | some x => x == ds.getD i 0 && decide (x < a0.tmps.size) | none => decide (a0.tmps.size ≤ ds.getD i 0)) = true ∧ (∀ j < ops.size, ds.getD i 0 = ds.getD j 0 → i = j ∨ a0.tmps.size ≤ ds.getD i 0) ∧ (∀ e ∈ ops[i].after, e.on < i ∨ Region.binds .any e = false) ∧ (match ops[i].guard with | none => true | some g => gs.contains g && ops[i].after.any fun e => e.on == g.1 && Region.binds .any e) = true := fun i h => by
    have h1 := hB1 i (List.mem_range.2 h)
    rw [Array.getElem?_eq_getElem h] at h1
    simp only [Bool.and_eq_true, decide_eq_true_eq, List.all_eq_true, List.mem_range, Bool.or_eq_true, bne_iff_ne, beq_iff_eq, Bool.not_eq_true', Array.all_eq_true_iff_forall_mem] at h1
    obtain ⟨⟨⟨h2, h3⟩, h4⟩, h5⟩ := h1
    refine ⟨h2, fun j hj e => ?_, h4, h5⟩
    rcases h3 j hj with (h | h) | h
    · exact absurd e h
    · exact .inl h
    · exact .inr h
  clear hB1
  have hmem : ∀ i, i < ops.size → ds.getD i 0 ∈ ds := fun i hi => by
    have : i < ds.length := by omega
    have e : ds.getD i 0 = ds[i] := by simp [this]
    rw [e]
    exact List.getElem_mem this
  refine wp_region_any hm ?_
  have hall : ∀ (listed : Array Bool), listed.size = ops.size → Region.ready .any ops listed = [] → ∀ j < ops.size, listed.getD j true = true := by
    intro listed hs hr j
    induction j using Nat.strongRecOn with
    | _ j ih =>
      intro hj
      rcases hb : listed.getD j true with _ | _
      · exfalso
        have : j ∈ Region.ready .any ops listed := mem_ready.2 ⟨hb, ops[j], by simp [hj], fun e he hbi => by
          have h1 : e.on < j := ((hB' j hj).2.2.1 e he).resolve_right (by rw [hbi]; decide)
          have h2 := ih e.on h1 (by omega)
          have h3 : e.on < listed.size := by omega
          simpa [h3] using h2⟩
        rw [hr] at this
        cases this
      · rfl
  have fin : ∀ (listed : Array Bool) (tm : Array Value) (w : World), listed.size = ops.size → tm.size = a0.tmps.size → (∀ t, t ∉ ds → tm.getD t undef = a0.tmps.getD t undef) → Inv (fun i => listed.getD i true) (valAt ds tm) w → Region.ready .any ops listed = [] → Q .normal ⟨tm, a0.defers⟩ w := by
    intro listed tm w hs ht hu hf hr
    have hl := hall listed hs hr
    have h1 := hend (valAt ds tm) w (hcong _ _ _ _ _ (fun k hk => hl k hk) (fun _ _ => rfl) hf)
    have h2 : putAll ops.size (fun i => ds.getD i 0) (valAt ds tm) a0.tmps = tm := by
      have gen : ∀ n, n ≤ ops.size → (putAll n (fun i => ds.getD i 0) (valAt ds tm) a0.tmps).size = a0.tmps.size ∧ ∀ t, t < a0.tmps.size → (putAll n (fun i => ds.getD i 0) (valAt ds tm) a0.tmps).getD t undef = if (∃ j, j < n ∧ ds.getD j 0 = t) then tm.getD t undef else a0.tmps.getD t undef := by
        intro n
        induction n with
        | zero => intro _; exact ⟨rfl, fun t ht => by rw [if_neg (fun ⟨j, h, _⟩ => absurd h (by omega))]; rfl⟩
        | succ n ih =>
          intro hn
          obtain ⟨i1, i2⟩ := ih (by omega)
          unfold putAll at i1 i2 ⊢
          rw [List.range_succ, List.foldl_append, List.foldl_cons, List.foldl_nil]
          refine ⟨by rw [Array.size_setIfInBounds, i1], fun t ht' => ?_⟩
          dsimp only at i1 i2 ⊢
          by_cases hd : ds.getD n 0 = t
          · rw [hd, getD_setV (by rw [i1]; exact ht'), if_pos rfl, if_pos ⟨n, by omega, hd⟩]
            unfold valAt
            rw [hd, Array.getD_eq_getD_getElem?]
          · have e1 : ∀ (A : Array Value) (v : Value), (A.setIfInBounds (ds.getD n 0) v).getD t undef = A.getD t undef := fun A v => by
              simp only [Array.getD_eq_getD_getElem?, Array.getElem?_setIfInBounds]
              rw [if_neg hd]
            rw [e1, i2 t ht']
            congr 1
            apply propext
            constructor
            · rintro ⟨j, hj, e⟩; exact ⟨j, by omega, e⟩
            · rintro ⟨j, hj, e⟩
              exact ⟨j, by
                rcases Nat.lt_or_ge j n with h | h
                · exact h
                · have : j = n := by omega
                  rw [this] at e
                  exact absurd e hd, e⟩
      obtain ⟨g1, g2⟩ := gen ops.size (Nat.le_refl _)
      apply Array.ext
      · rw [g1, ht]
      · intro t ha hb
        have e1 : ∀ (A : Array Value) (h : t < A.size), A[t] = A.getD t undef := fun A h => by simp [h]
        rw [e1 _ ha, e1 _ hb, g2 t (by omega)]
        by_cases hne : ∃ j, j < ops.size ∧ ds.getD j 0 = t
        · rw [if_pos hne]
        · rw [if_neg hne]
          refine (hu t fun hmem => hne ?_).symm
          obtain ⟨j, hj, e⟩ := List.getElem_of_mem hmem
          exact ⟨j, by omega, by simp [hj, e]⟩
    rw [h2] at h1
    exact h1
  have key : ∀ (fuel : Nat) (listed : Array Bool) (tm : Array Value) (w : World), listed.size = ops.size → listed.toList.count false ≤ fuel → tm.size = a0.tmps.size → (∀ t, t ∉ ds → tm.getD t undef = a0.tmps.getD t undef) → Inv (fun i => listed.getD i true) (valAt ds tm) w → wpAny P .any ops Q fuel listed ⟨tm, a0.defers⟩ w := by
    intro fuel
    induction fuel with
    | zero =>
      intro listed tm w hs hc ht hu hf
      have hr : Region.ready .any ops listed = [] := by
        apply List.eq_nil_iff_forall_not_mem.2
        intro i hi
        obtain ⟨hb, o, ho, _⟩ := mem_ready.1 hi
        have hi' : i < ops.size := by
          rcases Nat.lt_or_ge i ops.size with h | h
          · exact h
          · rw [Array.getElem?_eq_none h] at ho; cases ho
        have := count_setB (l := listed) (i := i) (by omega) hb
        omega
      exact ⟨hr, fin listed tm w hs ht hu hf hr⟩
    | succ fuel ih =>
      intro listed tm w hs hc ht hu hf
      refine ⟨fun hr => fin listed tm w hs ht hu hf hr, fun i hi => ?_⟩
      obtain ⟨hb, o, ho, hall'⟩ := mem_ready.1 hi
      have hi' : i < ops.size := by
        rcases Nat.lt_or_ge i ops.size with h | h
        · exact h
        · rw [Array.getElem?_eq_none h] at ho; cases ho
      have heo : ops[i] = o := by rw [Array.getElem?_eq_getElem hi'] at ho; exact Option.some.inj ho
      obtain ⟨k1, k2, k3, k4⟩ := hB' i hi'
      have hdep : ∀ e ∈ ops[i].after, Region.binds .any e = true → e.on < ops.size ∧ listed.getD e.on true = true := fun e he hbi => by
        have h1 : e.on < i := (k3 e he).resolve_right (by rw [hbi]; decide)
        have h2 := hall' e (heo ▸ he) hbi
        have h3 : e.on < listed.size := by omega
        exact ⟨by omega, by simpa [h3] using h2⟩
      have hw : Region.wanted ops[i] (yielded ops tm) = true := by
        unfold Region.wanted
        rcases hgu : ops[i].guard with _ | ⟨j, b⟩
        · rfl
        · rw [hgu] at k4
          simp only [Bool.and_eq_true, List.contains_iff_mem] at k4
          obtain ⟨e, he, he'⟩ := Array.any_eq_true'.1 k4.2
          obtain ⟨he1, he2⟩ : e.on = j ∧ Region.binds .any e = true := by simpa using he'
          subst he1
          obtain ⟨h1, h2⟩ := hdep e he he2
          have h4 : tm[ds.getD e.on 0]?.getD undef = .bool b := hg _ k4.1 _ _ _ hf h2
          have h5 : yielded ops tm e.on = some b := by
            unfold yielded
            have k1' := (hB' e.on h1).1
            rw [Array.getElem?_eq_getElem h1, Option.bind_some]
            rcases hd : ops[e.on].dst with _ | x
            · rw [hd] at k1'
              exfalso
              have k1' : a0.tmps.size ≤ ds.getD e.on 0 := by simpa using k1'
              rw [Array.getElem?_eq_none (show tm.size ≤ ds.getD e.on 0 by rw [ht]; exact k1')] at h4
              cases h4
            · rw [hd] at k1'
              simp only [Bool.and_eq_true, beq_iff_eq, decide_eq_true_eq] at k1'
              obtain ⟨rfl, hx⟩ := k1'
              replace hx : @LT.lt Nat _ (ds.getD e.on 0) a0.tmps.size := hx
              have hx' : ds.getD e.on 0 < tm.size := by omega
              rw [Option.bind_some, Array.getElem?_eq_getElem hx']
              rw [Array.getElem?_eq_getElem hx'] at h4
              rw [show tm[ds.getD e.on 0] = .bool b from h4]
          simp only [h5, beq_self_eq_true]
      unfold wpOp
      rw [Array.getElem?_eq_getElem hi']
      dsimp only
      rw [if_pos hw]
      have hs1 := Each.get hstep (i := i) (o := ops[i]) (by simp [hi']) Q tm a0.defers w (fun i => listed.getD i true) hf (by rw [Nat.zero_add]; exact hb) (fun e he hbi => (hdep e he hbi).2) (fun x hx => by
        obtain ⟨h5, h6⟩ := hfix x hx
        have := hu x.1 h5
        simp only [Array.getD_eq_getD_getElem?] at this
        rw [this, h6])
      refine .inl (Oper.wp_mono (fun a' w' h' => ?_) hs1)
      obtain ⟨v, rfl, hvn, hv⟩ := h'
      rw [Nat.zero_add] at hv
      obtain ⟨tm', e1, e2, e3, e4⟩ : ∃ tm', Act.put ⟨tm, a0.defers⟩ ops[i].dst v = ⟨tm', a0.defers⟩ ∧ tm'.size = tm.size ∧ (∀ k < ops.size, valAt ds tm' k = updV (valAt ds tm) i v k) ∧ ∀ t, t ∉ ds → tm'.getD t undef = tm.getD t undef := by
        rcases hd : ops[i].dst with _ | x
        · rw [hd] at k1
          have k1 : a0.tmps.size ≤ ds.getD i 0 := by simpa using k1
          refine ⟨tm, rfl, rfl, fun k hk => ?_, fun _ _ => rfl⟩
          unfold updV
          split
          · rename_i h
            rw [hvn hd, h]
            unfold valAt
            rw [Array.getElem?_eq_none (show tm.size ≤ ds.getD i 0 by omega)]
            rfl
          · rfl
        · rw [hd] at k1
          simp only [Bool.and_eq_true, beq_iff_eq, decide_eq_true_eq] at k1
          obtain ⟨rfl, hx⟩ := k1
          replace hx : @LT.lt Nat _ (ds.getD i 0) a0.tmps.size := hx
          refine ⟨tm.setIfInBounds (ds.getD i 0) v, rfl, by simp, fun k hk => ?_, fun t h => ?_⟩
          · unfold updV valAt
            rw [Array.getElem?_setIfInBounds]
            by_cases e : ds.getD i 0 = ds.getD k 0
            · have : i = k := by
                rcases k2 k hk e with h | h
                · exact h
                · exact absurd hx (Nat.not_lt.2 h)
              subst this
              have hx' : ds.getD i 0 < tm.size := by omega
              rw [if_pos rfl, if_pos hx', if_pos rfl]
              rfl
            · rw [if_neg e, if_neg (fun h => e (by rw [h]))]
          · simp only [Array.getD_eq_getD_getElem?, Array.getElem?_setIfInBounds]
            rw [if_neg (fun h' : ds.getD i 0 = t => h (h' ▸ hmem i hi'))]
      rw [e1]
      refine ih (listed.setIfInBounds i true) tm' w' (by simpa using hs) ?_ (by omega) ?_ (hcong _ _ _ _ _ (fun k hk => ?_) (fun k hk => (e3 k hk).symm) hv)
      · have := count_setB (l := listed) (i := i) (by omega) hb
        omega
      · intro t h
        rw [e4 t h]
        exact hu t h
      · unfold updB
        rw [getD_setB (by omega)]
        by_cases e : k = i
        · rw [if_pos e, if_pos e.symm]
        · rw [if_neg e, if_neg (Ne.symm e)]
  exact key ops.size _ a0.tmps _ (by simp) (by simp) rfl (fun _ _ => rfl) (hcong _ _ _ _ _ (fun k hk => by simp [hk]) (fun _ _ => rfl) h0)
theorem Each.mk {S : Nat → Oper → Prop} : ∀ (l : List Oper) (k : Nat), (∀ i o, l[i]? = some o → S (k + i) o) → Each S k l
  | [], _, _ => trivial
  | o :: l, k, h => ⟨h 0 o rfl, Each.mk l (k + 1) fun i o' ho => by
    have := h (i + 1) o' (by simpa using ho)
    rwa [show k + (i + 1) = k + 1 + i by omega] at this⟩
/-- wp_region_list, where an edge may hold for the text's order alone. -/
theorem wp_region_listI {id : Nat} {a0 : Act} {w0 : World} {ops : Array Oper} (ds : List Nat) (Lf : List (Value → World → Prop)) (R : World → World → Prop) (gs : List (Nat × Bool)) (fix : List (Nat × Value))
    (hm : P.follows .mixedOrders = true) (hB : (invB ops ds a0.tmps.size gs && decide (ds.length = ops.size) && decide (Lf.length = ops.size) && ops.all fun o => o.dst.isSome) = true) (hB2 : ((List.range gs.length).all fun i => decide ((gs.getD i (0, true)).1 < ops.size)) = true) (hRt : ∀ a b c, R a b → R b c → R a c) (hst : ∀ f ∈ Lf, ∀ v w w', f v w → R w w' → f v w')
    (hg : ∀ g ∈ gs, ∀ v w, Lf.getD g.1 noF v w → v = .bool g.2) (h0 : R w0 { w0 with drawn := w0.drawn + 1 }) (hfix : ∀ x ∈ fix, x.1 ∉ ds ∧ a0.tmps[x.1]?.getD undef = x.2)
    (hstep : Each (fun i o => ∀ (Q : Exit → Act → World → Prop) (tm : Array Value) (df : List Deferred) w, R w0 w → (∀ x ∈ fix, tm[x.1]?.getD undef = x.2) → (∀ j, (o.after.any fun e => e.on == j && Region.binds .any e) = true → Lf.getD j noF (tm[ds.getD j 0]?.getD undef) w) →
      o.wp P ⟨tm, df⟩ w (fun a' w' => ∃ v, a' = Act.put ⟨tm, df⟩ o.dst v ∧ Lf.getD i noF v w' ∧ R w w') Q) 0 ops.toList)
    (hend : ∀ (vs : Nat → Value) w, R w0 w → (∀ i < ops.size, Lf.getD i noF (vs i) w) → Q .normal ⟨putAll ops.size (fun i => ds.getD i 0) vs a0.tmps, a0.defers⟩ w) : (Code.region id ops true).wp P Q a0 w0 := by
  simp only [Bool.and_eq_true, decide_eq_true_eq] at hB
  obtain ⟨⟨⟨hB1, hB2'⟩, hB3⟩, hB4⟩ := hB
  have hst' : ∀ i v w w', Lf.getD i noF v w → R w w' → Lf.getD i noF v w' := fun i v w w' h F => by
    by_cases hi : i < Lf.length
    · have e : Lf.getD i noF = Lf[i] := by simp [hi]
      rw [e] at h ⊢
      exact hst _ (List.getElem_mem hi) v w w' h F
    · have e : Lf.getD i noF = noF := by simp [Nat.le_of_not_lt hi]
      rw [e] at h
      exact h.elim
  have hgl : ∀ g ∈ gs, g.1 < ops.size := fun g hg' => by
    obtain ⟨i, hi, e⟩ := List.getElem_of_mem hg'
    have := List.all_eq_true.1 hB2 i (List.mem_range.2 hi)
    rw [decide_eq_true_eq] at this
    rw [← e]
    simpa [hi] using this
  have hafter : ∀ i (h : i < ops.size), ∀ e ∈ ops[i].after, Region.binds .any e = true → e.on < ops.size := fun i h e he hbi => by
    unfold invB at hB1
    have h1 := List.all_eq_true.1 hB1 i (List.mem_range.2 h)
    rw [Array.getElem?_eq_getElem h] at h1
    simp only [Bool.and_eq_true, Bool.or_eq_true, Bool.not_eq_true', decide_eq_true_eq, Array.all_eq_true_iff_forall_mem] at h1
    have : e.on < i := (h1.1.2 e he).resolve_right (by rw [hbi]; decide)
    omega
  refine wp_region_inv ds (fun L vs w => R w0 w ∧ ∀ j, j < ops.size → L j = true → Lf.getD j noF (vs j) w) gs fix hm (by simp only [Bool.and_eq_true, decide_eq_true_eq]; exact ⟨hB1, hB2'⟩) (fun L L' vs vs' w hL hv h => ⟨h.1, fun j hj hl => by
    rw [← hv j hj]
    exact h.2 j hj (by rw [hL j hj]; exact hl)⟩) (fun g hg' L vs w h hl => hg g hg' _ w (h.2 g.1 (hgl g hg') hl)) ⟨h0, fun j _ h => by cases h⟩ hfix ?_ (fun vs w h => hend vs w h.1 fun i hi => h.2 i hi rfl)
  refine Each.mk _ _ fun i o ho => ?_
  have hi : i < ops.size := by
    rcases Nat.lt_or_ge i ops.size with h | h
    · exact h
    · rw [List.getElem?_eq_none (by simpa using h)] at ho; cases ho
  have hoe : ops[i] = o := by
    have : ops.toList[i]? = some ops[i] := by simp [hi]
    rw [this] at ho
    exact Option.some.inj ho
  intro Q' tm df w L hI hl hd hu
  have h1 := Each.get hstep ho Q' tm df w hI.1 hu fun j hj => by
    obtain ⟨e, he, he'⟩ := Array.any_eq_true'.1 hj
    simp only [Bool.and_eq_true, beq_iff_eq] at he'
    obtain ⟨rfl, hb⟩ := he'
    exact hI.2 e.on (hafter i hi e (hoe ▸ he) hb) (hd e he hb)
  rw [Nat.zero_add] at h1 ⊢
  refine Oper.wp_mono (fun a' w' h' => ?_) h1
  obtain ⟨v, rfl, hv, hR'⟩ := h'
  refine ⟨v, rfl, fun hn => ?_, hRt _ _ _ hI.1 hR', fun j hj hL => ?_⟩
  · exfalso
    have := Array.all_eq_true_iff_forall_mem.1 hB4 ops[i] (Array.getElem_mem hi)
    rw [hoe, hn] at this
    cases this
  · unfold updV
    by_cases e : j = i
    · subst e
      rw [if_pos rfl]
      exact hv
    · rw [if_neg e]
      refine hst' j _ _ _ (hI.2 j hj ?_) hR'
      unfold updB at hL
      rw [if_neg e] at hL
      exact hL
end
end Go.Proofs.Ytldmjpnldgekaaa
end
section
namespace Go.Proofs.Ytldmjpnldgekaaa
open Go.RowKit
section
variable {P : Program} {Q : Exit → Act → World → Prop}
def dclB (ops : Array Oper) (D : List (List Nat)) : Bool :=
  (List.range ops.size).all fun i => match ops[i]? with
    | none => false
    | some o => (D.getD i []).all fun k => k == i || o.after.any fun e => Region.binds .any e && (D.getD e.on []).contains k
theorem wp_region_depI {id : Nat} {a0 : Act} {w0 : World} {ops : Array Oper} (ds : List Nat) (D : List (List Nat)) (F : List (List Value → World → Prop)) (R : World → World → Prop) (Rr : Nat → World → World → Prop) (Sx : Nat → World → Prop) (gs : List (Nat × Bool)) (fix : List (Nat × Value))
    (hm : P.follows .mixedOrders = true) (hB : (invB ops ds a0.tmps.size gs && decide (ds.length = ops.size) && decide (F.length = ops.size) && dclB ops D) = true) (hB2 : ((List.range gs.length).all fun i => decide ((gs.getD i (0, true)).1 < ops.size)) = true) (hRt : ∀ a b c, R a b → R b c → R a c) (hRr : ∀ i a b, Rr i a b → R a b)
    (hst : ∀ j i (hj : j < ops.size), i < ops.size → i ≠ j → (ops[j].after.any fun e => e.on == i && Region.binds .any e) = false → ∀ l w w', F.getD j noL l w → Rr i w w' → F.getD j noL l w')
    (hSs : ∀ i k (hk : k < ops.size), i ≠ k → (ops[k].after.any fun e => e.on == i && Region.binds .any e) = false → ∀ w w', Sx i w → Rr k w w' → Sx i w') (hS0 : ∀ i, Sx i { w0 with drawn := w0.drawn + 1 })
    (hg : ∀ g ∈ gs, D.getD g.1 [] = [g.1] ∧ ∀ v w, F.getD g.1 noL [v] w → v = .bool g.2) (h0 : R w0 { w0 with drawn := w0.drawn + 1 }) (hfix : ∀ x ∈ fix, x.1 ∉ ds ∧ a0.tmps[x.1]?.getD undef = x.2)
    (hstep : Each (fun i o => ∀ (Q : Exit → Act → World → Prop) (tm : Array Value) (df : List Deferred) w, R w0 w → Sx i w → (∀ x ∈ fix, tm[x.1]?.getD undef = x.2) → (∀ j, (o.after.any fun e => Region.binds .any e && (D.getD e.on []).contains j) = true → F.getD j noL ((D.getD j []).map (valAt ds tm)) w) →
      o.wp P ⟨tm, df⟩ w (fun a' w' => ∃ v, a' = Act.put ⟨tm, df⟩ o.dst v ∧ (o.dst = none → v = undef) ∧ F.getD i noL ((D.getD i []).map (updV (valAt ds tm) i v)) w' ∧ Rr i w w') Q) 0 ops.toList)
    (hend : ∀ (vs : Nat → Value) w, R w0 w → (∀ i < ops.size, F.getD i noL ((D.getD i []).map vs) w) → Q .normal ⟨putAll ops.size (fun i => ds.getD i 0) vs a0.tmps, a0.defers⟩ w) : (Code.region id ops true).wp P Q a0 w0 := by
  simp only [Bool.and_eq_true, decide_eq_true_eq] at hB
  obtain ⟨⟨⟨hB1, hB2'⟩, hB3⟩, hB4⟩ := hB
  have hgl : ∀ g ∈ gs, g.1 < ops.size := fun g hg' => by
    obtain ⟨i, hi, e⟩ := List.getElem_of_mem hg'
    have := List.all_eq_true.1 hB2 i (List.mem_range.2 hi)
    rw [decide_eq_true_eq] at this
    rw [← e]
    simpa [hi] using this
  have hafter : ∀ i (h : i < ops.size), ∀ e ∈ ops[i].after, Region.binds .any e = true → e.on < i := fun i h e he hbi => by
    unfold invB at hB1
    have h1 := List.all_eq_true.1 hB1 i (List.mem_range.2 h)
    rw [Array.getElem?_eq_getElem h] at h1
    simp only [Bool.and_eq_true, Bool.or_eq_true, Bool.not_eq_true', decide_eq_true_eq, Array.all_eq_true_iff_forall_mem] at h1
    exact (h1.1.2 e he).resolve_right (by rw [hbi]; decide)
  have hdcl : ∀ i (h : i < ops.size), ∀ k ∈ D.getD i [], k = i ∨ ∃ e ∈ ops[i].after, Region.binds .any e = true ∧ k ∈ D.getD e.on [] := fun i h k hk => by
    unfold dclB at hB4
    have h1 := List.all_eq_true.1 hB4 i (List.mem_range.2 h)
    rw [Array.getElem?_eq_getElem h] at h1
    have h2 := List.all_eq_true.1 h1 k hk
    simp only [Bool.or_eq_true, beq_iff_eq] at h2
    rcases h2 with h2 | h2
    · exact .inl h2
    · obtain ⟨e, he, he'⟩ := Array.any_eq_true'.1 h2
      simp only [Bool.and_eq_true] at he'
      exact .inr ⟨e, he, he'.1, by simpa using he'.2⟩
  refine wp_region_inv ds (fun L vs w => R w0 w ∧ (∀ i, i < ops.size → L i = false → Sx i w) ∧ (∀ j, j < ops.size → L j = true → F.getD j noL ((D.getD j []).map vs) w) ∧ (∀ j, j < ops.size → L j = true → ∀ k ∈ D.getD j [], k < ops.size ∧ L k = true) ∧ (∀ j (h : j < ops.size), L j = true → ∀ e ∈ ops[j].after, Region.binds .any e = true → L e.on = true)) gs fix hm (by simp only [Bool.and_eq_true, decide_eq_true_eq]; exact ⟨hB1, hB2'⟩) (fun L L' vs vs' w hL hv h => ?_) (fun g hg' L vs w h hl => ?_) ⟨h0, fun i _ _ => hS0 i, fun j _ h => Bool.noConfusion h, fun j _ h => Bool.noConfusion h, fun j _ h => Bool.noConfusion h⟩ hfix ?_ (fun vs w h => hend vs w h.1 fun i hi => h.2.2.1 i hi rfl)
  · obtain ⟨h1, h2, h3, h4, h5⟩ := h
    refine ⟨h1, fun i hi hl => h2 i hi (by rw [hL i hi]; exact hl), fun j hj hl => ?_, fun j hj hl k hk => ?_, fun j hj hl e he hb => ?_⟩
    · have hlj : L j = true := by rw [hL j hj]; exact hl
      have e : (D.getD j []).map vs' = (D.getD j []).map vs := List.map_congr_left fun k hk => (hv k (h4 j hj hlj k hk).1).symm
      rw [e]
      exact h3 j hj hlj
    · obtain ⟨k1, k2⟩ := h4 j hj (by rw [hL j hj]; exact hl) k hk
      exact ⟨k1, by rw [← hL k k1]; exact k2⟩
    · have := hafter j hj e he hb
      rw [← hL e.on (by omega)]
      exact h5 j hj (by rw [hL j hj]; exact hl) e he hb
  · obtain ⟨g1, g2⟩ := hg g hg'
    have := h.2.2.1 g.1 (hgl g hg') hl
    rw [g1] at this
    exact g2 _ w this
  refine Each.mk _ _ fun i o ho => ?_
  have hi : i < ops.size := by
    rcases Nat.lt_or_ge i ops.size with h | h
    · exact h
    · rw [List.getElem?_eq_none (by simpa using h)] at ho; cases ho
  have hoe : ops[i] = o := by
    have : ops.toList[i]? = some ops[i] := by simp [hi]
    rw [this] at ho
    exact Option.some.inj ho
  intro Q' tm df w L hI hl hd hu
  rw [Nat.zero_add] at hl
  obtain ⟨i1, i2, i3, i4, i5⟩ := hI
  have hdl : ∀ k ∈ D.getD i [], k = i ∨ (k < ops.size ∧ L k = true) := fun k hk => by
    rcases hdcl i hi k hk with h | ⟨e, he, hb, hk2⟩
    · exact .inl h
    · have h1 := hafter i hi e he hb
      exact .inr (i4 e.on (by omega) (hd e (hoe ▸ he) hb) k hk2)
  have hni : ∀ j, j < ops.size → L j = true → i ∉ D.getD j [] := fun j hj hlj hm' => by
    have := (i4 j hj hlj i hm').2
    rw [hl] at this
    cases this
  have h1 := Each.get hstep ho Q' tm df w i1 (by rw [Nat.zero_add]; exact i2 i hi hl) hu fun j hj => by
    obtain ⟨e, he, he'⟩ := Array.any_eq_true'.1 hj
    simp only [Bool.and_eq_true] at he'
    have hb := he'.1
    have h2 := hafter i hi e (hoe ▸ he) hb
    obtain ⟨k1, k2⟩ := i4 e.on (by omega) (hd e he hb) j (by simpa using he'.2)
    exact i3 j k1 k2
  rw [Nat.zero_add] at h1 ⊢
  refine Oper.wp_mono (fun a' w' h' => ?_) h1
  obtain ⟨v, rfl, hv0, hv, hR'⟩ := h'
  refine ⟨v, rfl, hv0, hRt _ _ _ i1 (hRr _ _ _ hR'), fun j hj hlj => ?_, fun j hj hlj => ?_, fun j hj hlj k hk => ?_, fun j hj hlj e he hb => ?_⟩
  · unfold updB at hlj
    by_cases e : j = i
    · rw [if_pos e] at hlj; cases hlj
    · rw [if_neg e] at hlj
      refine hSs j i hi e ?_ w w' (i2 j hj hlj) hR'
      refine Bool.eq_false_iff.2 fun ha => ?_
      obtain ⟨e', he, he'⟩ := Array.any_eq_true'.1 ha
      simp only [Bool.and_eq_true, beq_iff_eq] at he'
      have := hd e' (hoe ▸ he) he'.2
      rw [he'.1, hlj] at this
      cases this
  · by_cases e : j = i
    · subst e
      exact hv
    · unfold updB at hlj
      rw [if_neg e] at hlj
      have em : (D.getD j []).map (updV (valAt ds tm) i v) = (D.getD j []).map (valAt ds tm) := List.map_congr_left fun k hk => by
        unfold updV
        rw [if_neg]
        rintro rfl
        exact hni j hj hlj hk
      rw [em]
      refine hst j i hj hi (Ne.symm e) ?_ _ w w' (i3 j hj hlj) hR'
      refine Bool.eq_false_iff.2 fun ha => ?_
      obtain ⟨e', he, he'⟩ := Array.any_eq_true'.1 ha
      simp only [Bool.and_eq_true, beq_iff_eq] at he'
      have := i5 j hj hlj e' he he'.2
      rw [he'.1, hl] at this
      cases this
  · by_cases e : j = i
    · subst e
      rcases hdl k hk with rfl | ⟨h1, h2⟩
      · exact ⟨hi, by unfold updB; rw [if_pos rfl]⟩
      · exact ⟨h1, (by
        unfold updB
        split
        · rfl
        · exact h2)⟩
    · unfold updB at hlj
      rw [if_neg e] at hlj
      obtain ⟨h1, h2⟩ := i4 j hj hlj k hk
      exact ⟨h1, (by
        unfold updB
        split
        · rfl
        · exact h2)⟩
  · by_cases e' : j = i
    · subst e'
      have := hd e (hoe ▸ he) hb
      unfold updB
      split
      · rfl
      · exact this
    · unfold updB at hlj
      rw [if_neg e'] at hlj
      have := i5 j hj hlj e he hb
      unfold updB
      split
      · rfl
      · exact this
end
end Go.Proofs.Ytldmjpnldgekaaa
end
section
namespace Go.Proofs.Ytldmjpnldgekaaa
open Go.RowKit
/-- What an append onto a new, empty row leaves: a row of its own. -/
def Fresh (w : World) (e : TypeId) (v : Value) (xs : List Value) (g : Nat) : Prop := ∃ c cs, v = .slice (some ⟨g, 0, none⟩) xs.length c ∧ Blk w g e cs ∧ ∀ k, k < xs.length → cs[k]? = xs[k]?
section
variable {P : Program}
theorem run_app_empty {w : World} {t ty e : TypeId} {i : TypeInfo} {z : Value} {bytes n b : Nat} {vx : Value} {xs : List Value} (ht : P.underlying t = some (.slice e)) (hi : P.info? e = some i) (hz : i.zero = some z) (hsize : i.size = 1) (hby : i.bytes = bytes)
    (hb : Blk w b e #[]) (hs : Src P 1 t vx n xs w) (hbytes : n * bytes ≤ 140737488355328) (h63 : n ≤ 9223372036854775807) :
    ∃ v' w' g, (Builtin.append_ #[t, t] ty #[.slice (some ⟨b, 0, none⟩) 0 0, vx]).run P w = .ok v' w' ∧ (g = b ∨ g = w.heap.size) ∧ Frm (fun _ => False) w w' ∧ Fresh w' e v' xs g := by
  have hxl : xs.length = n := by rw [hs.newsLen, Nat.mul_one]
  by_cases hn : n = 0
  · subst hn
    have hx0 : xs = [] := List.eq_nil_of_length_eq_zero hxl
    subst hx0
    have hr := run_append_room_src (P := P) w t t ty e i ht hi b 0 0 0 vx 0 [] (hsize ▸ hs) (Nat.le_refl _) (fun j h => absurd h (by simp)) (fun j h => absurd h (by simp))
    refine ⟨_, _, b, hr, .inl rfl, Frm.refl _ _, 0, #[], rfl, hb, fun k hk => absurd hk (by simp)⟩
  · have hr := run_append_grow_src (P := P) w t t ty e i z ht hi hz (some ⟨b, 0, none⟩) 0 0 [] (run_firstCells_some w.drew i.size 0 ⟨b, 0, none⟩ 0 0 [] (by simp) (fun j u h => by cases h)) vx n xs (hsize ▸ hs) (by omega) (by omega) (by
      have : Builtin.nextslicecap (0 + n) 0 = n := by unfold Builtin.nextslicecap; rw [if_pos (by omega)]; omega
      rw [this, hby]; omega)
    refine ⟨_, _, w.heap.size, hr, .inr rfl, ((Frm.refl _ w).drew).alloc _, _, _, by rw [hxl, Nat.zero_add], Blk.new w.drew _ _, fun k hk => ?_⟩
    rw [List.nil_append, Array.getElem?_append_left (by simpa using hk)]
    simp
theorem wp_app_empty {o : Oper} {a : Act} {w : World} {K : Act → World → Prop} {Q : Exit → Act → World → Prop} (s x : Operand) {t e : TypeId} {i : TypeInfo} {z : Value} {bytes n b : Nat} {vx : Value} {xs : List Value}
    (ho : o.op = .call { callee := .builtin .append, args := #[s, x], argTypes := #[t, t] }) (ht : P.underlying t = some (.slice e)) (hi : P.info? e = some i) (hz : i.zero = some z) (hsize : i.size = 1) (hby : i.bytes = bytes)
    (hv : a.eval s = .slice (some ⟨b, 0, none⟩) 0 0) (hx : a.eval x = vx) (hb : Blk w b e #[]) (hs : Src P 1 t vx n xs w) (hbytes : n * bytes ≤ 140737488355328) (h63 : n ≤ 9223372036854775807)
    (h : ∀ v' w' g, (g = b ∨ g = w.heap.size) → Frm (fun _ => False) w w' → Fresh w' e v' xs g → K (a.put o.dst v') w') : o.wp P a w K Q := by
  obtain ⟨v', w', g, hr, h1, h2, h3⟩ := run_app_empty (P := P) (ty := o.type) ht hi hz hsize hby hb hs hbytes h63
  unfold Oper.wp execOp
  simp only [ho, resolve, invoke, builtin, Sem.run_bind, Sem.run_pure, Result.andThen_ok, List.map_toArray, List.map_cons, List.map_nil, hv, hx, hr]
  exact h v' w' g h1 h2 h3
end
theorem ints_src {w : World} {S : Nat → Prop} {v : Value} {l : List Int} (h : Ints w S v l) : Src Try.prog 1 37 v l.length (l.map (Value.int .i64)) w := by
  obtain ⟨A, c, rfl, h⟩ := h
  rcases A with _ | a
  · have : l = [] := by
      rcases l with _ | ⟨x, r⟩
      · rfl
      · obtain ⟨g, o, e, _⟩ := h 0 (by simp)
        cases e
    subst this
    exact Src.ofNil w Try.underlying37 c
  · refine Src.ofSlice w Try.underlying37 a _ c _ (by simp) (fun j u hu => ?_) (fun u hu => by obtain ⟨_, _, rfl⟩ := List.mem_map.1 hu; rfl)
    have hj : j < l.length := by
      rcases Nat.lt_or_ge j l.length with h | h
      · exact h
      · rw [List.getElem?_eq_none (by simpa using h)] at hu; cases hu
    obtain ⟨g, o, e, _, hc⟩ := h j hj
    injection e with e
    subst e
    have : (⟨g, o, none⟩ : Addr).add j = ⟨g, o + j, none⟩ := by
      unfold Addr.add
      split
      · subst_vars; simp
      · rfl
    rw [this, hc]
    simpa [hj] using hu
theorem bools_src {w : World} {S : Nat → Prop} {v : Value} {l : List Bool} (h : Bools w S v l) : Src Try.prog 1 23 v l.length (l.map Value.bool) w := by
  obtain ⟨A, c, rfl, h⟩ := h
  rcases A with _ | a
  · have : l = [] := by
      rcases l with _ | ⟨x, r⟩
      · rfl
      · obtain ⟨g, o, e, _⟩ := h 0 (by simp)
        cases e
    subst this
    exact Src.ofNil w Try.underlying23 c
  · refine Src.ofSlice w Try.underlying23 a _ c _ (by simp) (fun j u hu => ?_) (fun u hu => by obtain ⟨_, _, rfl⟩ := List.mem_map.1 hu; rfl)
    have hj : j < l.length := by
      rcases Nat.lt_or_ge j l.length with h | h
      · exact h
      · rw [List.getElem?_eq_none (by simpa using h)] at hu; cases hu
    obtain ⟨g, o, e, _, hc⟩ := h j hj
    injection e with e
    subst e
    have : (⟨g, o, none⟩ : Addr).add j = ⟨g, o + j, none⟩ := by
      unfold Addr.add
      split
      · subst_vars; simp
      · rfl
    rw [this, hc]
    simpa [hj] using hu
theorem Fresh.ints {w : World} {v : Value} {l : List Int} {g : Nat} (h : Fresh w 3 v (l.map (Value.int .i64)) g) : Ints w (fun b => b = g) v l := by
  obtain ⟨c, cs, e, hb, hc⟩ := h
  refine ⟨some ⟨g, 0, none⟩, c, by rw [e]; simp, fun k hk => ⟨g, 0, rfl, rfl, ?_⟩⟩
  rw [Nat.zero_add, hb.cell k, hc k (by simpa using hk)]
  simp [hk]
theorem Fresh.bools {w : World} {v : Value} {l : List Bool} {g : Nat} (h : Fresh w 4 v (l.map Value.bool) g) : Bools w (fun b => b = g) v l := by
  obtain ⟨c, cs, e, hb, hc⟩ := h
  refine ⟨some ⟨g, 0, none⟩, c, by rw [e]; simp, fun k hk => ⟨g, 0, rfl, rfl, ?_⟩⟩
  rw [Nat.zero_add, hb.cell k, hc k (by simpa using hk)]
  simp [hk]
theorem Fresh.frm {w w' : World} {e : TypeId} {v : Value} {xs : List Value} {g : Nat} {E : Nat → Prop} (h : Fresh w e v xs g) (F : Frm E w w') (hE : ¬ E g) : Fresh w' e v xs g := by
  obtain ⟨c, cs, e, hb, hc⟩ := h
  exact ⟨c, cs, e, F.blk hb hE, hc⟩
end Go.Proofs.Ytldmjpnldgekaaa
end
section
namespace Go.Proofs.Ytldmjpnldgekaaa
open Go.RowKit
namespace A
instance : DecidableEq Mac := fun ⟨l, s, n, f⟩ ⟨l', s', n', f'⟩ =>
  if h : l = l' ∧ s = s' ∧ n = n' ∧ f = f' then isTrue (by obtain ⟨rfl, rfl, rfl, rfl⟩ := h; rfl) else isFalse fun e => h (by injection e with a b c d; exact ⟨a, b, c, d⟩)
def evenM : Mac := ⟨1, 0, [[1], [2], [1]], [true, false, true]⟩
def oneM : Mac := ⟨1, 0, [[0]], [true]⟩
theorem least_even : LeastO 20 evenM = some (⟨1, 0, [[1], [0]], [true, false]⟩, 0) := by decide +kernel
theorem diff_even : diffO 20 evenM oneM = some (some ([0], (1, 0))) := by decide +kernel
theorem same_even : diffO 20 evenM ⟨1, 0, [[1], [0]], [true, false]⟩ = some none := by decide +kernel
theorem search_even : searchO (nxtP evenM ⟨1, 0, [[1], [0]], [true, false]⟩) 20 (0, 0) (-1, -1) 1 20000 = some ([(0, 0), (1, 1), (2, 0)], [[1], [2], [1]]) := by decide +kernel
end A
set_option maxRecDepth 100000 in
set_option maxHeartbeats 4000000 in
theorem even_any (w : World) : Calls Try.prog 19 #[] w fun e w' => ∃ r, e = .returned r ∧ MachAt w' (fun b => w.heap.size ≤ b) r A.evenM ∧ Frm (fun _ => False) w w' := by
  go_enter Try.func19, Try.ntmps19
  go_wp2_with fail
  obtain ⟨W, hW⟩ : ∃ W, W = (((((w.alloc (.cells #[.int .i64 1, .int .i64 0, .slice (some ⟨w.heap.size + 1 + 1 + 1 + 1, 0, none⟩) 3 3, .slice (some ⟨w.heap.size + 1 + 1 + 1 + 1 + 1, 0, none⟩) 3 3] 25)).alloc (.cells #[.int .i64 1] 3)).alloc (.cells #[.int .i64 2] 3)).alloc (.cells #[.int .i64 1] 3)).alloc (.cells #[.slice (some ⟨w.heap.size + 1, 0, none⟩) 1 1, .slice (some ⟨w.heap.size + 1 + 1, 0, none⟩) 1 1, .slice (some ⟨w.heap.size + 1 + 1 + 1, 0, none⟩) 1 1] 37)).alloc (.cells #[.bool true, .bool false, .bool true] 4) := ⟨_, rfl⟩
  have b0 : Blk W w.heap.size 25 #[.int .i64 1, .int .i64 0, .slice (some ⟨w.heap.size + 1 + 1 + 1 + 1, 0, none⟩) 3 3, .slice (some ⟨w.heap.size + 1 + 1 + 1 + 1 + 1, 0, none⟩) 3 3] := by rw [hW]; exact (((((Blk.new w _ _).alloc _).alloc _).alloc _).alloc _).alloc _
  have b1 : Blk W (w.heap.size + 1) 3 #[.int .i64 1] := by rw [hW]; exact ((((blk_at (by simp)).alloc _).alloc _).alloc _).alloc _
  have b2 : Blk W (w.heap.size + 1 + 1) 3 #[.int .i64 2] := by rw [hW]; exact (((blk_at (by simp)).alloc _).alloc _).alloc _
  have b3 : Blk W (w.heap.size + 1 + 1 + 1) 3 #[.int .i64 1] := by rw [hW]; exact ((blk_at (by simp)).alloc _).alloc _
  have b4 : Blk W (w.heap.size + 1 + 1 + 1 + 1) 37 #[.slice (some ⟨w.heap.size + 1, 0, none⟩) 1 1, .slice (some ⟨w.heap.size + 1 + 1, 0, none⟩) 1 1, .slice (some ⟨w.heap.size + 1 + 1 + 1, 0, none⟩) 1 1] := by rw [hW]; exact (blk_at (by simp)).alloc _
  have b5 : Blk W (w.heap.size + 1 + 1 + 1 + 1 + 1) 4 #[.bool true, .bool false, .bool true] := by rw [hW]; exact blk_at (by simp)
  have F : Frm (fun _ => False) w W := by rw [hW]; exact ((((((Frm.refl _ w).alloc _).alloc _).alloc _).alloc _).alloc _).alloc _
  rw [← hW]
  clear hW
  have y0 := b0.cell 0
  have y1 := b0.cell 1
  have y2 := b0.cell 2
  have y3 := b0.cell 3
  refine bodyPost_ret (v := .agg #[.int .i64 1, .int .i64 0, .slice (some ⟨w.heap.size + 1 + 1 + 1 + 1, 0, none⟩) 3 3, .slice (some ⟨w.heap.size + 1 + 1 + 1 + 1 + 1, 0, none⟩) 3 3]) (by simp [results, Try.results19, go_sem, y0, y1, y2, y3]) rfl ⟨_, rfl, ⟨_, _, rfl, ⟨_, _, rfl, fun k hk => ?_⟩, ⟨_, _, rfl, fun k hk => ?_⟩⟩, F⟩
  · match k, hk with
    | 0, _ => exact ⟨_, 0, _, rfl, by omega, b4.cell 0, _, _, rfl, fun j hj => by match j, hj with | 0, _ => exact ⟨_, 0, rfl, by omega, b1.cell 0⟩⟩
    | 1, _ => exact ⟨_, 0, _, rfl, by omega, b4.cell 1, _, _, rfl, fun j hj => by match j, hj with | 0, _ => exact ⟨_, 0, rfl, by omega, b2.cell 0⟩⟩
    | 2, _ => exact ⟨_, 0, _, rfl, by omega, b4.cell 2, _, _, rfl, fun j hj => by match j, hj with | 0, _ => exact ⟨_, 0, rfl, by omega, b3.cell 0⟩⟩
  · match k, hk with
    | 0, _ => exact ⟨_, 0, rfl, by omega, b5.cell 0⟩
    | 1, _ => exact ⟨_, 0, rfl, by omega, b5.cell 1⟩
    | 2, _ => exact ⟨_, 0, rfl, by omega, b5.cell 2⟩
end Go.Proofs.Ytldmjpnldgekaaa
end
section
namespace Go.Proofs.Ytldmjpnldgekaaa
open Go.RowKit
def lessM : A.Mac := ⟨1, 0, [[1], [0]], [true, false]⟩
theorem sized_even : Sized A.evenM := by unfold Sized; decide
theorem sized_less : Sized lessM := by unfold Sized; decide
theorem sized_one : Sized A.oneM := by unfold Sized; decide
theorem less_form {w : World} {P : Nat → Prop} {r : Value} (h : MachAt w P r lessM) : ∃ A1 c1 A2 c2, r = .agg #[.int .i64 1, .int .i64 0, .slice A1 2 c1, .slice A2 2 c2] := h.form
theorem differ_even {w : World} {P Q : Nat → Prop} {v v' : Value} (h : MachAt w P v A.evenM) (h' : MachAt w Q v' A.oneM) : Calls Try.prog 20 #[v, v'] w fun e w' => ∃ u, e = .returned (.tuple #[u, .bool false, .int .i64 0]) ∧ Ints w' (fun b => w.heap.size ≤ b) u [0] ∧ Frm (fun _ => False) w w' := by
  refine (differ_any h h' sized_even sized_one (f := 20) (r := some ([0], (1, 0))) (fun _ => ⟨A.diff_even, fun l q h => ?_⟩) (by decide)).mono ?_
  · injection h with h
    injection h with h1 h2
    subst h2
    unfold A.InP A.In
    decide
  · rintro e w' ⟨F, hd⟩
    rw [if_pos (by decide +kernel)] at hd
    obtain ⟨u, rfl, hu⟩ := hd
    exact ⟨u, rfl, hu, F⟩
theorem two_even : A.Two A.evenM lessM := A.fit_two (by decide +kernel)
def zs3 : List DP := [⟨(0, 0), by unfold BPr; decide⟩, ⟨(1, 1), by unfold BPr; decide⟩, ⟨(2, 0), by unfold BPr; decide⟩]
theorem relate_even {w : World} {P Q : Nat → Prop} {v v' : Value} (h : MachAt w P v A.evenM) (h' : MachAt w Q v' lessM) : Calls Try.prog 21 #[v, v'] w fun e w' => ∃ u, ∃ zs' : List DP, e = .returned (.tuple #[u, .int .i64 0]) ∧ zs'.Perm zs3 ∧ zs'.Pairwise (fun x y => ltOf cfP y x = false) ∧ w'.ownsRow w.heap.size 57 2 u 3 (zs'.flatMap encP) ∧ Frm (fun _ => False) w w' :=
  relate_yes (f := 20) (zs := zs3) (rows := [[1], [2], [1]]) h h' sized_even sized_less (by decide +kernel) two_even A.same_even (by decide) (by decide) A.search_even (by decide) (by decide)
theorem sort3 {zs' : List DP} (hp : zs'.Perm zs3) (hs : zs'.Pairwise (fun x y => ltOf cfP y x = false)) : zs' = zs3 := by
  have hl : zs'.length = 3 := hp.length_eq
  match zs', hl with
  | [a, b, c], _ =>
    have ha : a ∈ zs3 := hp.mem_iff.1 (by simp)
    have hb : b ∈ zs3 := hp.mem_iff.1 (by simp)
    have hc : c ∈ zs3 := hp.mem_iff.1 (by simp)
    simp only [zs3, List.mem_cons, List.not_mem_nil, or_false] at ha hb hc
    rcases ha with rfl | rfl | rfl <;> rcases hb with rfl | rfl | rfl <;> rcases hc with rfl | rfl | rfl <;> first | rfl | (exfalso; revert hs; decide +kernel) | (exfalso; revert hp; decide +kernel)
theorem ints_form1 {w : World} {P : Nat → Prop} {u : Value} (h : Ints w P u [0]) : ∃ A4 c4, u = .slice A4 1 c4 := by
  obtain ⟨A4, c4, e, _⟩ := h
  exact ⟨A4, c4, e⟩
theorem acc_two {w : World} {P : Nat → Prop} {v : Value} {g : Nat} (h : MachAt w P v A.evenM) (hb : Blk w g 3 #[.int .i64 0, .int .i64 0]) : Calls Try.prog 16 #[v, .slice (some ⟨g, 0, none⟩) 2 2] w fun e w' => e = .returned (.bool true) ∧ Frm (fun _ => False) w w' := by
  have := accepts_any (l := [0, 0]) (Q := fun _ => True) (vw := .slice (some ⟨g, 0, none⟩) 2 2) h sized_even ⟨_, _, rfl, fun k hk => by
    match k, hk with
    | 0, _ => exact ⟨_, 0, rfl, trivial, hb.cell 0⟩
    | 1, _ => exact ⟨_, 0, rfl, trivial, hb.cell 1⟩⟩ (by decide)
  rw [show A.accepts A.evenM [0, 0] = true by decide +kernel] at this
  exact this
theorem acc_one {w : World} {P : Nat → Prop} {v : Value} {g : Nat} (h : MachAt w P v A.evenM) (hb : Blk w g 3 #[.int .i64 0]) : Calls Try.prog 16 #[v, .slice (some ⟨g, 0, none⟩) 1 1] w fun e w' => e = .returned (.bool false) ∧ Frm (fun _ => False) w w' := by
  have := accepts_any (l := [0]) (Q := fun _ => True) (vw := .slice (some ⟨g, 0, none⟩) 1 1) h sized_even ⟨_, _, rfl, fun k hk => by
    match k, hk with
    | 0, _ => exact ⟨_, 0, rfl, trivial, hb.cell 0⟩⟩ (by decide)
  rw [show A.accepts A.evenM [0] = false by decide +kernel] at this
  exact this
theorem own_prs {w : World} {base g c n : Nat} {zs : List DP} (h : w.ownsRow base 57 2 (.slice (some ⟨g, 0, none⟩) n c) n (zs.flatMap encP)) (hn : n = zs.length) {k : Nat} (hk : k ≤ n) : Prs2 w (fun _ => True) (.slice (some ⟨g, 0, none⟩) k c) ((zs.map (·.1)).take k) := by
  subst hn
  refine ⟨some ⟨g, 0, none⟩, c, by simp; omega, fun j hj => ?_⟩
  have hj' : j < zs.length := by simp at hj; omega
  have hc := @World.ownsRow.cells _ _ _ _ _ _ _ h g rfl
  have e0 := hc (j * 2) _ (flatP_at zs (j * 2) (by omega))
  have e1 := hc (j * 2 + 1) _ (flatP_at zs (j * 2 + 1) (by omega))
  rw [add_zero_off] at e0 e1
  rw [show j * 2 / 2 = j by omega, show j * 2 % 2 = 0 by omega, getElem!_pos zs j hj'] at e0
  rw [show (j * 2 + 1) / 2 = j by omega, show (j * 2 + 1) % 2 = 1 by omega, getElem!_pos zs j hj'] at e1
  refine ⟨g, 0, rfl, trivial, ?_, ?_⟩
  · rw [Nat.zero_add, e0]; simp [encP, pairC]
  · rw [Nat.zero_add, e1]; simp [encP, pairC]
theorem chk_all {w : World} {P Q : Nat → Prop} {v v' : Value} {base g c : Nat} (h : MachAt w P v A.evenM) (h' : MachAt w Q v' lessM) (ho : w.ownsRow base 57 2 (.slice (some ⟨g, 0, none⟩) 3 c) 3 (zs3.flatMap encP)) : Calls Try.prog 22 #[v, v', .slice (some ⟨g, 0, none⟩) 3 c] w fun e w' => e = .returned (.int .i64 0) ∧ Frm (fun _ => False) w w' := by
  have := check_any h h' (own_prs ho rfl (k := 3) (by decide)) sized_even sized_less (by decide)
  rw [show A.check A.evenM lessM ((zs3.map (·.1)).take 3) = 0 by decide +kernel] at this
  exact this
theorem chk_two {w : World} {P Q : Nat → Prop} {v v' : Value} {base g c : Nat} (h : MachAt w P v A.evenM) (h' : MachAt w Q v' lessM) (ho : w.ownsRow base 57 2 (.slice (some ⟨g, 0, none⟩) 3 c) 3 (zs3.flatMap encP)) : Calls Try.prog 22 #[v, v', .slice (some ⟨g, 0, none⟩) 2 c] w fun e w' => e = .returned (.int .i64 8) ∧ Frm (fun _ => False) w w' := by
  have := check_any h h' (own_prs ho rfl (k := 2) (by decide)) sized_even sized_less (by decide)
  rw [show A.check A.evenM lessM ((zs3.map (·.1)).take 2) = 8 by decide +kernel] at this
  exact this
def mE (v : Value) (w : World) : Prop := MachAt w (fun _ => True) v A.evenM
def sB (n : Nat) (cs : Array Value) (v : Value) (w : World) : Prop := ∃ b, v = .slice (some ⟨b, 0, none⟩) n n ∧ Blk w b 3 cs
def vV (x v : Value) (_ : World) : Prop := v = x
/-- What awake's last statement's operations leave behind. -/
def lastL (A1 A2 : Option Addr) (c1 c2 g c : Nat) : List (Value → World → Prop) :=
  [mE, sB 2 #[.int .i64 0, .int .i64 0], vV (.bool true), vV (.bool true), mE, sB 1 #[.int .i64 0], vV (.bool false), vV (.bool true), vV (.bool true), vV (.bool true),
   mE, vV (.agg #[.int .i64 1, .int .i64 0, .slice A1 2 c1, .slice A2 2 c2]), vV (.slice (some ⟨g, 0, none⟩) 3 c), vV (.int .i64 0), vV (.bool true), vV (.bool true), vV (.bool true),
   mE, vV (.agg #[.int .i64 1, .int .i64 0, .slice A1 2 c1, .slice A2 2 c2]), vV (.slice (some ⟨g, 0, none⟩) 3 c), vV (.slice (some ⟨g, 0, none⟩) 2 c), vV (.int .i64 8), vV (.bool true), vV (.bool true), vV (.bool true)]
theorem lastL_keep {A1 A2 : Option Addr} {c1 c2 g c : Nat} : ∀ f ∈ lastL A1 A2 c1 c2 g c, ∀ (v : Value) (w w' : World), f v w → Frm (fun _ => False) w w' → f v w' := by
  intro f hf v w w' h F
  have hm : ∀ v, mE v w → mE v w' := fun v h => MachAt.keep0 h F
  have hs : ∀ n cs v, sB n cs v w → sB n cs v w' := fun n cs v ⟨b, e, hb⟩ => ⟨b, e, F.blk hb id⟩
  have hv : ∀ x v, vV x v w → vV x v w' := fun x v h => h
  simp only [lastL, List.mem_cons, List.not_mem_nil, or_false] at hf
  rcases hf with rfl | rfl | rfl | rfl | rfl | rfl | rfl | rfl | rfl | rfl | rfl | rfl | rfl | rfl | rfl | rfl | rfl | rfl | rfl | rfl | rfl | rfl | rfl | rfl | rfl <;> first | exact hm v h | exact hs _ _ v h | exact hv _ v h
set_option maxRecDepth 100000 in
set_option maxHeartbeats 16000000 in
theorem awake_any (w : World) : Calls Try.prog 7 #[] w fun e w' => e = .returned (.bool true) ∧ Frm (fun _ => False) w w' := by
  go_enter Try.func7, Try.ntmps7
  go_wp2_with fail
  refine (even_any w).mono ?_
  rintro _ w1 ⟨r1, rfl, m1, f1⟩
  have HF1 := Lib.hid f1
  have HM1 := Lib.hid m1
  clear f1 m1
  go_wp2_with fail
  refine (Least_any HM1.out sized_even (f := 20) (by decide) A.least_even).mono ?_
  rintro _ w2 ⟨r2, rfl, m2, f2⟩
  obtain ⟨A1, c1, A2, c2, rfl⟩ := less_form m2
  have HF2 := Lib.hid (HF1.out.trans f2)
  have HM2 := Lib.hid m2
  clear f2 m2
  go_wp2_with fail
  obtain ⟨W, hW⟩ : ∃ W, W = ((((w2.alloc (.cells #[.int .i64 1, .int .i64 0, .slice A1 2 c1, .slice A2 2 c2] 25)).alloc (.cells #[.int .i64 0] 3)).alloc (.cells #[.slice (some ⟨w2.heap.size + 1, 0, none⟩) 1 1] 37)).alloc (.cells #[.bool true] 4)).alloc (.cells #[.int .i64 1, .int .i64 0, .slice (some ⟨w2.heap.size + 1 + 1, 0, none⟩) 1 1, .slice (some ⟨w2.heap.size + 1 + 1 + 1, 0, none⟩) 1 1] 25) := ⟨_, rfl⟩
  have b0 : Blk W w2.heap.size 25 #[.int .i64 1, .int .i64 0, .slice A1 2 c1, .slice A2 2 c2] := by rw [hW]; exact ((((Blk.new w2 _ _).alloc _).alloc _).alloc _).alloc _
  have b1 : Blk W (w2.heap.size + 1) 3 #[.int .i64 0] := by rw [hW]; exact (((blk_at (by simp)).alloc _).alloc _).alloc _
  have b2 : Blk W (w2.heap.size + 1 + 1) 37 #[.slice (some ⟨w2.heap.size + 1, 0, none⟩) 1 1] := by rw [hW]; exact ((blk_at (by simp)).alloc _).alloc _
  have b3 : Blk W (w2.heap.size + 1 + 1 + 1) 4 #[.bool true] := by rw [hW]; exact (blk_at (by simp)).alloc _
  have b4 : Blk W (w2.heap.size + 1 + 1 + 1 + 1) 25 #[.int .i64 1, .int .i64 0, .slice (some ⟨w2.heap.size + 1 + 1, 0, none⟩) 1 1, .slice (some ⟨w2.heap.size + 1 + 1 + 1, 0, none⟩) 1 1] := by rw [hW]; exact blk_at (by simp)
  have F : Frm (fun _ => False) w2 W := by rw [hW]; exact (((((Frm.refl _ w2).alloc _).alloc _).alloc _).alloc _).alloc _
  have HMO : Hid (MachAt W (fun _ => True) (.agg #[.int .i64 1, .int .i64 0, .slice (some ⟨w2.heap.size + 1 + 1, 0, none⟩) 1 1, .slice (some ⟨w2.heap.size + 1 + 1 + 1, 0, none⟩) 1 1]) A.oneM) := by
    refine ⟨_, _, rfl, ⟨_, _, rfl, fun k hk => ?_⟩, ⟨_, _, rfl, fun k hk => ?_⟩⟩
    · match k, hk with
      | 0, _ => exact ⟨_, 0, _, rfl, trivial, b2.cell 0, _, _, rfl, fun j hj => by match j, hj with | 0, _ => exact ⟨_, 0, rfl, trivial, b1.cell 0⟩⟩
    · match k, hk with
      | 0, _ => exact ⟨_, 0, rfl, trivial, b3.cell 0⟩
  have HML : Hid (MachAt W (fun _ => True) (.agg #[.int .i64 1, .int .i64 0, .slice A1 2 c1, .slice A2 2 c2]) lessM) := (MachAt.keep0 (m := lessM) HM2.out F).mono fun _ _ => trivial
  have HFW := Lib.hid (HF2.out.trans F)
  have HB0 := Lib.hid b0
  have x0 : W.cell? ⟨w2.heap.size + 1 + 1 + 1 + 1, 0, none⟩ = some (.int .i64 1) := b4.cell 0
  have x1 : W.cell? ⟨w2.heap.size + 1 + 1 + 1 + 1, 1, none⟩ = some (.int .i64 0) := b4.cell 1
  have x2 : W.cell? ⟨w2.heap.size + 1 + 1 + 1 + 1, 2, none⟩ = some (.slice (some ⟨w2.heap.size + 1 + 1, 0, none⟩) 1 1) := b4.cell 2
  have x3 : W.cell? ⟨w2.heap.size + 1 + 1 + 1 + 1, 3, none⟩ = some (.slice (some ⟨w2.heap.size + 1 + 1 + 1, 0, none⟩) 1 1) := b4.cell 3
  have HKK : Hid (∀ V, Frm (fun _ => False) W V → _) := fun V hV => (⟨hV.cell id x0, hV.cell id x1, hV.cell id x2, hV.cell id x3, hV⟩ : V.cell? ⟨w2.heap.size + 1 + 1 + 1 + 1, 0, none⟩ = some (.int .i64 1) ∧ V.cell? ⟨w2.heap.size + 1 + 1 + 1 + 1, 1, none⟩ = some (.int .i64 0) ∧ V.cell? ⟨w2.heap.size + 1 + 1 + 1 + 1, 2, none⟩ = some (.slice (some ⟨w2.heap.size + 1 + 1, 0, none⟩) 1 1) ∧ V.cell? ⟨w2.heap.size + 1 + 1 + 1 + 1, 3, none⟩ = some (.slice (some ⟨w2.heap.size + 1 + 1 + 1, 0, none⟩) 1 1) ∧ Frm (fun _ => False) W V)
  rw [← hW]
  clear hW b0 b1 b2 b3 b4 F HM1 HF1 HM2 HF2
  go_region_held3 (fun w' => w'.cell? ⟨w2.heap.size + 1 + 1 + 1 + 1, 0, none⟩ = some (.int .i64 1) ∧ w'.cell? ⟨w2.heap.size + 1 + 1 + 1 + 1, 1, none⟩ = some (.int .i64 0) ∧ w'.cell? ⟨w2.heap.size + 1 + 1 + 1 + 1, 2, none⟩ = some (.slice (some ⟨w2.heap.size + 1 + 1, 0, none⟩) 1 1) ∧ w'.cell? ⟨w2.heap.size + 1 + 1 + 1 + 1, 3, none⟩ = some (.slice (some ⟨w2.heap.size + 1 + 1 + 1, 0, none⟩) 1 1) ∧ Frm (fun _ => False) W w')
    (first | exact HKK.out _ (Frm.refl _ _) | exact HKK.out _ (Frm.refl _ _).drew | exact HKK.out _ (Frm.trans (E := fun _ => False) (w := W) f5 f6) | exact HKK.out _ f5)
    (first | (go_at_call 19; refine (even_any _).mono ?_; rintro e w5 ⟨r3, rfl, m3, f5⟩) | (go_at_call 20; refine (differ_even m3 (HMO.out.keep0 (w := W) f5)).mono ?_; rintro e w6 ⟨u4, rfl, hu4, f6⟩))
  have F6 := Frm.trans (E := fun _ => False) (w := W) f5 f6
  obtain ⟨A4, c4, rfl⟩ := ints_form1 hu4
  have HF6 := Lib.hid (HFW.out.trans F6)
  have HB6 := Lib.hid (F6.blk HB0.out id)
  have HML6 := Lib.hid (HML.out.keep0 F6)
  clear F6 f5 f6 m3 hu4 HKK x0 x1 x2 x3 HMO HML HFW HB0
  clear ‹_ ∧ _ ∧ _ ∧ _ ∧ Frm (fun _ => False) W _›
  go_wp2_with fail
  have y0 : w6.cell? ⟨w2.heap.size, 0, none⟩ = some (.int .i64 1) := HB6.out.cell 0
  have y1 : w6.cell? ⟨w2.heap.size, 1, none⟩ = some (.int .i64 0) := HB6.out.cell 1
  have y2 : w6.cell? ⟨w2.heap.size, 2, none⟩ = some (.slice A1 2 c1) := HB6.out.cell 2
  have y3 : w6.cell? ⟨w2.heap.size, 3, none⟩ = some (.slice A2 2 c2) := HB6.out.cell 3
  have HKK : Hid (∀ V, Frm (fun _ => False) w6 V → _) := fun V hV => (⟨hV.cell id y0, hV.cell id y1, hV.cell id y2, hV.cell id y3, hV⟩ : V.cell? ⟨w2.heap.size, 0, none⟩ = some (.int .i64 1) ∧ V.cell? ⟨w2.heap.size, 1, none⟩ = some (.int .i64 0) ∧ V.cell? ⟨w2.heap.size, 2, none⟩ = some (.slice A1 2 c1) ∧ V.cell? ⟨w2.heap.size, 3, none⟩ = some (.slice A2 2 c2) ∧ Frm (fun _ => False) w6 V)
  go_region_held3 (fun w' => w'.cell? ⟨w2.heap.size, 0, none⟩ = some (.int .i64 1) ∧ w'.cell? ⟨w2.heap.size, 1, none⟩ = some (.int .i64 0) ∧ w'.cell? ⟨w2.heap.size, 2, none⟩ = some (.slice A1 2 c1) ∧ w'.cell? ⟨w2.heap.size, 3, none⟩ = some (.slice A2 2 c2) ∧ Frm (fun _ => False) w6 w')
    (first | exact HKK.out _ (Frm.refl _ _) | exact HKK.out _ (Frm.refl _ _).drew | exact HKK.out _ (Frm.trans (E := fun _ => False) (w := w6) f7 f8) | exact HKK.out _ f7)
    (first | (go_at_call 19; refine (even_any _).mono ?_; rintro e w7 ⟨r5, rfl, m5, f7⟩) | (go_at_call 21; refine (relate_even m5 (HML6.out.keep0 (w := w6) f7)).mono ?_; rintro e w8 ⟨u7, zs', rfl, hp, hs, ho, f8⟩))
  have F8 := Frm.trans (E := fun _ => False) (w := w6) f7 f8
  have HF8 := Lib.hid (HF6.out.trans F8)
  have HB8 := Lib.hid (F8.blk HB6.out id)
  have HML8 := Lib.hid (HML6.out.keep0 F8)
  obtain ⟨g7, c7, rfl, hg7⟩ := own_some ho (by decide)
  have HO8 := Lib.hid ho
  have HP := Lib.hid hp
  have HS := Lib.hid hs
  clear F8 f7 f8 m5 ho hp hs HKK y0 y1 y2 y3 HF6 HB6 HML6 hg7
  clear ‹_ ∧ _ ∧ _ ∧ _ ∧ Frm (fun _ => False) w6 _›
  go_wp2_with fail
  refine (even_any _).mono ?_
  rintro _ w9 ⟨r9, rfl, m9, f9⟩
  have HF9 := Lib.hid (HF8.out.trans f9)
  have HB9 := Lib.hid (f9.blk HB8.out id)
  have HML9 := Lib.hid (HML8.out.keep0 f9)
  have HO9 := Lib.hid (f9.row HO8.out (fun _ _ => id) (Nat.le_refl _))
  have HM9 := Lib.hid m9
  clear f9 m9 HF8 HB8 HML8 HO8
  go_wp2_with fail
  refine (count_any (n := 4) HM9.out sized_even).mono ?_
  rintro _ w10 ⟨rfl, f10⟩
  have HF10 := Lib.hid (HF9.out.trans f10)
  have HB10 := Lib.hid (f10.blk HB9.out id)
  have HML10 := Lib.hid (HML9.out.keep0 f10)
  have HO10 := Lib.hid (f10.row HO9.out (fun _ _ => id) (Nat.le_refl _))
  rw [show (A.count A.evenM 4).1 = 1 by decide +kernel, show (A.count A.evenM 4).2 = 0 by decide +kernel]
  clear f10 HF9 HB9 HML9 HO9 HM9
  have y2 : w10.cell? ⟨w2.heap.size, 2, none⟩ = some (.slice A1 2 c1) := HB10.out.cell 2
  go_wp2_with fail
  have hz : zs' = zs3 := sort3 HP.out HS.out
  subst hz
  have h7 : 3 ≤ c7 := by
    rcases HO10.out.2 with ⟨hv, _⟩ | ⟨_, _, _, hv, _, _, h3, _⟩
    · cases hv
    · injection hv with _ _ hv; omega
  clear HP HS y2
  refine wp_region_list [75, 76, 77, 78, 79, 80, 81, 82, 83, 84, 85, 86, 87, 88, 89, 90, 91, 92, 93, 94, 95, 96, 97, 98, 0] (lastL A1 A2 c1 c2 g7 c7) (Frm (fun _ => False)) [(3, true), (9, true), (16, true)] [(1, .pointer (some ⟨w2.heap.size, 0, none⟩)), (7, .slice (some ⟨g7, 0, none⟩) 3 c7)] (by kernel_rfl) (by kernel_rfl) (fun _ _ _ => Frm.trans) lastL_keep ?_ (Frm.refl _ _).drew ?_ ?_ ?_
  · intro g hg v w hv
    simp only [List.mem_cons, List.not_mem_nil, or_false] at hg
    rcases hg with rfl | rfl | rfl <;> exact hv
  · intro x hx
    simp only [List.mem_cons, List.not_mem_nil, or_false] at hx
    rcases hx with rfl | rfl <;> exact ⟨by simp, rfl⟩
  · have HW : Hid (w10 = w10) := rfl
    refine ⟨?_, ?_, ?_, ?_, ?_, ?_, ?_, ?_, ?_, ?_, ?_, ?_, ?_, ?_, ?_, ?_, ?_, ?_, ?_, ?_, ?_, ?_, ?_, ?_, ?_, trivial⟩
    · intro Q tm df V hR hu hd
      clear hu hd
      go_simp
      refine (even_any _).mono ?_
      rintro e w' ⟨r, rfl, m, f⟩
      exact ⟨r, rfl, MachAt.mono m (fun _ _ => trivial), f⟩
    · intro Q tm df V hR hu hd
      clear hu hd
      go_simp
      exact ⟨_, rfl, ⟨V.heap.size, rfl, Blk.new _ _ _⟩, (Frm.refl _ V).alloc _⟩
    · intro Q tm df V hR hu hd
      have d0 : mE (tm[75]?.getD undef) V := hd 0 (by simp)
      obtain ⟨b, e1, hb⟩ : sB 2 #[.int .i64 0, .int .i64 0] (tm[76]?.getD undef) V := hd 1 (by simp)
      clear hu hd
      go_simp
      refine (acc_two d0 hb).mono ?_
      rintro e w' ⟨rfl, f⟩
      exact ⟨_, rfl, rfl, f⟩
    · intro Q tm df V hR hu hd
      have e0 : tm[77]?.getD undef = .bool true := hd 2 (by simp)
      clear hu hd
      go_simp
      exact ⟨_, rfl, rfl, Frm.refl _ V⟩
    · intro Q tm df V hR hu hd
      clear hu hd
      go_simp
      refine (even_any _).mono ?_
      rintro e w' ⟨r, rfl, m, f⟩
      exact ⟨r, rfl, MachAt.mono m (fun _ _ => trivial), f⟩
    · intro Q tm df V hR hu hd
      clear hu hd
      go_simp
      exact ⟨_, rfl, ⟨V.heap.size, rfl, Blk.new _ _ _⟩, (Frm.refl _ V).alloc _⟩
    · intro Q tm df V hR hu hd
      have d0 : mE (tm[79]?.getD undef) V := hd 4 (by simp)
      obtain ⟨b, e1, hb⟩ : sB 1 #[.int .i64 0] (tm[80]?.getD undef) V := hd 5 (by simp)
      clear hu hd
      go_simp
      refine (acc_one d0 hb).mono ?_
      rintro e w' ⟨rfl, f⟩
      exact ⟨_, rfl, rfl, f⟩
    · intro Q tm df V hR hu hd
      have e0 : tm[81]?.getD undef = .bool false := hd 6 (by simp)
      clear hu hd
      go_simp
      exact ⟨_, rfl, rfl, Frm.refl _ V⟩
    · intro Q tm df V hR hu hd
      have e0 : tm[78]?.getD undef = .bool true := hd 3 (by simp)
      have e1 : tm[82]?.getD undef = .bool true := hd 7 (by simp)
      clear hu hd
      go_simp
      exact ⟨_, rfl, rfl, Frm.refl _ V⟩
    · intro Q tm df V hR hu hd
      have e0 : tm[83]?.getD undef = .bool true := hd 8 (by simp)
      clear hu hd
      go_simp
      exact ⟨_, rfl, rfl, Frm.refl _ V⟩
    · intro Q tm df V hR hu hd
      clear hu hd
      go_simp
      refine (even_any _).mono ?_
      rintro e w' ⟨r, rfl, m, f⟩
      exact ⟨r, rfl, MachAt.mono m (fun _ _ => trivial), f⟩
    · intro Q tm df V hR hu hd
      have u1 : tm[1]?.getD undef = .pointer (some ⟨w2.heap.size, 0, none⟩) := hu (1, _) (by simp)
      have hb := hR.blk HB10.out id
      have y0 := hb.cell 0
      have y1 := hb.cell 1
      have y2 := hb.cell 2
      have y3 := hb.cell 3
      clear hu hd hb
      go_simp
      exact ⟨_, rfl, rfl, Frm.refl _ V⟩
    · intro Q tm df V hR hu hd
      have u1 : tm[7]?.getD undef = .slice (some ⟨g7, 0, none⟩) 3 c7 := hu (7, _) (by simp)
      clear hu hd
      go_simp
      exact ⟨_, rfl, rfl, Frm.refl _ V⟩
    · intro Q tm df V hR hu hd
      have d0 : mE (tm[85]?.getD undef) V := hd 10 (by simp)
      have e1 : tm[86]?.getD undef = .agg #[.int .i64 1, .int .i64 0, .slice A1 2 c1, .slice A2 2 c2] := hd 11 (by simp)
      have e2 : tm[87]?.getD undef = .slice (some ⟨g7, 0, none⟩) 3 c7 := hd 12 (by simp)
      clear hu hd
      go_simp
      refine (chk_all d0 (HML10.out.keep0 hR) (hR.row HO10.out (fun _ _ => id) (Nat.le_refl _))).mono ?_
      rintro e w' ⟨rfl, f⟩
      exact ⟨_, rfl, rfl, f⟩
    · intro Q tm df V hR hu hd
      have e0 : tm[88]?.getD undef = .int .i64 0 := hd 13 (by simp)
      clear hu hd
      go_simp
      exact ⟨_, rfl, rfl, Frm.refl _ V⟩
    · intro Q tm df V hR hu hd
      have e0 : tm[84]?.getD undef = .bool true := hd 9 (by simp)
      have e1 : tm[89]?.getD undef = .bool true := hd 14 (by simp)
      clear hu hd
      go_simp
      exact ⟨_, rfl, rfl, Frm.refl _ V⟩
    · intro Q tm df V hR hu hd
      have e0 : tm[90]?.getD undef = .bool true := hd 15 (by simp)
      clear hu hd
      go_simp
      exact ⟨_, rfl, rfl, Frm.refl _ V⟩
    · intro Q tm df V hR hu hd
      clear hu hd
      go_simp
      refine (even_any _).mono ?_
      rintro e w' ⟨r, rfl, m, f⟩
      exact ⟨r, rfl, MachAt.mono m (fun _ _ => trivial), f⟩
    · intro Q tm df V hR hu hd
      have u1 : tm[1]?.getD undef = .pointer (some ⟨w2.heap.size, 0, none⟩) := hu (1, _) (by simp)
      have hb := hR.blk HB10.out id
      have y0 := hb.cell 0
      have y1 := hb.cell 1
      have y2 := hb.cell 2
      have y3 := hb.cell 3
      clear hu hd hb
      go_simp
      exact ⟨_, rfl, rfl, Frm.refl _ V⟩
    · intro Q tm df V hR hu hd
      have u1 : tm[7]?.getD undef = .slice (some ⟨g7, 0, none⟩) 3 c7 := hu (7, _) (by simp)
      clear hu hd
      go_simp
      exact ⟨_, rfl, rfl, Frm.refl _ V⟩
    · intro Q tm df V hR hu hd
      have e1 : tm[94]?.getD undef = .slice (some ⟨g7, 0, none⟩) 3 c7 := hd 19 (by simp)
      have h2 : (2 : Int) ≤ (c7 : Int) := by omega
      clear hu hd
      go_simp
      exact ⟨_, rfl, rfl, Frm.refl _ V⟩
    · intro Q tm df V hR hu hd
      have d0 : mE (tm[92]?.getD undef) V := hd 17 (by simp)
      have e1 : tm[93]?.getD undef = .agg #[.int .i64 1, .int .i64 0, .slice A1 2 c1, .slice A2 2 c2] := hd 18 (by simp)
      have e2 : tm[95]?.getD undef = .slice (some ⟨g7, 0, none⟩) 2 c7 := hd 20 (by simp)
      clear hu hd
      go_simp
      refine (chk_two d0 (HML10.out.keep0 hR) (hR.row HO10.out (fun _ _ => id) (Nat.le_refl _))).mono ?_
      rintro e w' ⟨rfl, f⟩
      exact ⟨_, rfl, rfl, f⟩
    · intro Q tm df V hR hu hd
      have e0 : tm[96]?.getD undef = .int .i64 8 := hd 21 (by simp)
      clear hu hd
      go_simp
      exact ⟨_, rfl, rfl, Frm.refl _ V⟩
    · intro Q tm df V hR hu hd
      have e0 : tm[91]?.getD undef = .bool true := hd 16 (by simp)
      have e1 : tm[97]?.getD undef = .bool true := hd 22 (by simp)
      clear hu hd
      go_simp
      exact ⟨_, rfl, rfl, Frm.refl _ V⟩
    · intro Q tm df V hR hu hd
      have e0 : tm[98]?.getD undef = .bool true := hd 23 (by simp)
      clear hu hd
      go_simp
      exact ⟨_, rfl, rfl, Frm.refl _ V⟩
  · intro vs V hR hf
    have e24 : vs 24 = .bool true := hf 24 (by decide)
    clear hf
    clear HB10 HML10 HO10
    simp only [putAll, List.size_toArray, List.length_cons, List.length_nil, Nat.zero_add, Nat.reduceAdd, show List.range 25 = [0, 1, 2, 3, 4, 5, 6, 7, 8, 9, 10, 11, 12, 13, 14, 15, 16, 17, 18, 19, 20, 21, 22, 23, 24] from rfl, List.foldl_cons, List.foldl_nil, List.getD_cons_zero, List.getD_cons_succ, List.setIfInBounds_toArray, List.set_cons_zero, List.set_cons_succ, e24]
    go_wp2_with fail
    go_ret
    exact ⟨rfl, HF10.out.trans hR⟩
end Go.Proofs.Ytldmjpnldgekaaa
end
section
namespace Go.Proofs.Ytldmjpnldgekaaa
open Go.RowKit
theorem MachAt.below {w : World} {P : Nat → Prop} {v : Value} {m : A.Mac} (h : MachAt w P v m) : MachAt w (fun b => b < w.heap.size) v m := by
  obtain ⟨nv, ev, e, ⟨A1, c1, e1, h1⟩, ⟨A2, c2, e2, h2⟩⟩ := h
  refine ⟨nv, ev, e, ⟨A1, c1, e1, fun k hk => ?_⟩, ⟨A2, c2, e2, fun k hk => ?_⟩⟩
  · obtain ⟨g, o, rv, a1, a2, a3, A3, c3, e3, h3⟩ := h1 k hk
    refine ⟨g, o, rv, a1, cell_lt a3, a3, A3, c3, e3, fun j hj => ?_⟩
    obtain ⟨g', o', b1, b2, b3⟩ := h3 j hj
    exact ⟨g', o', b1, cell_lt b3, b3⟩
  · obtain ⟨g, o, a1, a2, a3⟩ := h2 k hk
    exact ⟨g, o, a1, cell_lt a3, a3⟩
def zeroM : Array Value := #[.int .i64 0, .int .i64 0, .slice none 0 0, .slice none 0 0]
/-- A machine's block in which the copy's numbers and End stand. -/
def Half (w : World) (n0 ob : Nat) (m : A.Mac) (nv : Value) : Prop := ∃ ev g, n0 ≤ g ∧ Fresh w 4 ev (m.fin.map Value.bool) g ∧ Blk w ob 25 #[.int .i64 m.letters, .int .i64 m.start, nv, ev]
theorem Half.frm {w w' : World} {n0 ob : Nat} {m : A.Mac} {nv : Value} {E : Nat → Prop} (h : Half w n0 ob m nv) (F : Frm E w w') (h1 : ¬ E ob) (h2 : ∀ g cs, Blk w g 4 cs → ¬ E g) : Half w' n0 ob m nv := by
  obtain ⟨ev, g, hg, hf, hb⟩ := h
  obtain ⟨c, cs, e, hb2, _⟩ := id hf
  exact ⟨ev, g, hg, hf.frm F (h2 g cs hb2), F.blk hb h1⟩
def pB (n0 : Nat) (xs : List Value) (e : TypeId) (v : Value) (w : World) : Prop := ∃ g, n0 ≤ g ∧ Fresh w e v xs g
def eB (n0 : Nat) (e : TypeId) (v : Value) (w : World) : Prop := ∃ b, v = .slice (some ⟨b, 0, none⟩) 0 0 ∧ n0 ≤ b ∧ Blk w b e #[]
/-- What a store into a machine's block does. -/
def RS (n0 : Nat) (a b : World) : Prop := ∃ ob c d, n0 ≤ ob ∧ Blk a ob 25 c ∧ Blk b ob 25 d ∧ c.size = 4 ∧ d.size = 4 ∧ Frm (fun x => x = ob) a b
theorem RS.blk {n0 g : Nat} {a b : World} {t : TypeId} {cs : Array Value} (h : RS n0 a b) (hb : Blk a g t cs) (ht : t ≠ 25) : Blk b g t cs := by
  obtain ⟨ob, c, d, _, h1, _, _, _, F⟩ := h
  refine F.blk hb fun e => ht ?_
  subst e
  have := hb.symm.trans h1
  simp only [Option.some.injEq, Obj.cells.injEq] at this
  exact this.2.1
theorem pB.rs {n0 : Nat} {xs : List Value} {e : TypeId} {v : Value} {a b : World} (h : pB n0 xs e v a) (r : RS n0 a b) (ht : e ≠ 25) : pB n0 xs e v b := by
  obtain ⟨g, hg, c, cs, e1, hb, hc⟩ := h
  exact ⟨g, hg, c, cs, e1, r.blk hb ht, hc⟩
theorem pB.q {n0 : Nat} {xs : List Value} {e : TypeId} {v : Value} {a b : World} (h : pB n0 xs e v a) (r : Frm (fun _ => False) a b) : pB n0 xs e v b := by
  obtain ⟨g, hg, hf⟩ := h
  exact ⟨g, hg, hf.frm r id⟩
theorem eB.rs {n0 : Nat} {e : TypeId} {v : Value} {a b : World} (h : eB n0 e v a) (r : RS n0 a b) (ht : e ≠ 25) : eB n0 e v b := by
  obtain ⟨g, e1, hg, hb⟩ := h
  exact ⟨g, e1, hg, r.blk hb ht⟩
theorem eB.q {n0 : Nat} {e : TypeId} {v : Value} {a b : World} (h : eB n0 e v a) (r : Frm (fun _ => False) a b) : eB n0 e v b := by
  obtain ⟨g, e1, hg, hb⟩ := h
  exact ⟨g, e1, hg, r.blk hb id⟩
/-- A pointer to a new machine's block. -/
def pM (n0 : Nat) (v : Value) (w : World) : Prop := ∃ b cs, v = .pointer (some ⟨b, 0, none⟩) ∧ n0 ≤ b ∧ cs.size = 4 ∧ Blk w b 25 cs
theorem pM.rs {n0 : Nat} {v : Value} {a b : World} (h : pM n0 v a) (r : RS n0 a b) : pM n0 v b := by
  obtain ⟨g, cs, e, hg, hs, hb⟩ := h
  obtain ⟨ob, c, d, _, h1, h2, h3, h4, F⟩ := r
  by_cases e' : g = ob
  · subst e'
    exact ⟨g, d, e, hg, h4, h2⟩
  · exact ⟨g, cs, e, hg, hs, F.blk hb e'⟩
theorem pM.q {n0 : Nat} {v : Value} {a b : World} (h : pM n0 v a) (r : Frm (fun _ => False) a b) : pM n0 v b := by
  obtain ⟨g, cs, e, hg, hs, hb⟩ := h
  exact ⟨g, cs, e, hg, hs, r.blk hb id⟩
/-- A machine's value whose End is a new row. -/
def bM (n0 : Nat) (m : A.Mac) (v : Value) (w : World) : Prop := ∃ ev, v = .agg #[.int .i64 m.letters, .int .i64 m.start, .slice none 0 0, ev] ∧ pB n0 (m.fin.map Value.bool) 4 ev w
def hM (n0 : Nat) (m : A.Mac) (v : Value) (w : World) : Prop := ∃ b, v = .pointer (some ⟨b, 0, none⟩) ∧ n0 ≤ b ∧ Half w n0 b m (.slice none 0 0)
theorem hM.q {n0 : Nat} {m : A.Mac} {v : Value} {a b : World} (h : hM n0 m v a) (r : Frm (fun _ => False) a b) : hM n0 m v b := by
  obtain ⟨ob, e, hg, hh⟩ := h
  exact ⟨ob, e, hg, hh.frm r id fun _ _ _ => id⟩
/-- The rows copied so far. -/
def RowsC (w : World) (n0 : Nat) (nv : Value) (rows : List (List Int)) : Prop := ∃ vals : List Value, vals.length = rows.length ∧ w.ownsRow n0 37 1 nv rows.length vals ∧ ∀ i (h : i < rows.length) (h' : i < vals.length), pB n0 (rows[i].map (Value.int .i64)) 3 vals[i] w
theorem own_type {w : World} {n0 n : Nat} {e : TypeId} {v : Value} {xs : List Value} (h : w.ownsRow n0 e 1 v n xs) {g : Nat} (hg : v.ownBlock = some g) : n0 ≤ g ∧ ∃ cs, Blk w g e cs := by
  rcases h.2 with ⟨rfl, _⟩ | ⟨g', cap, cur, rfl, h1, h2, _⟩
  · cases hg
  · injection hg with hg
    subst hg
    exact ⟨h1, cur, h2⟩
theorem blk_type {w : World} {g : Nat} {t t' : TypeId} {cs cs' : Array Value} (h : Blk w g t cs) (h' : Blk w g t' cs') : t = t' := by
  have := h.symm.trans h'
  simp only [Option.some.injEq, Obj.cells.injEq] at this
  exact this.2.1
theorem pB.fr {n0 : Nat} {xs : List Value} {e : TypeId} {v : Value} {a b : World} {E : Nat → Prop} (h : pB n0 xs e v a) (F : Frm E a b) (hE : ∀ g cs, Blk a g e cs → ¬ E g) : pB n0 xs e v b := by
  obtain ⟨g, hg, c, cs, e1, hb, hc⟩ := h
  exact ⟨g, hg, c, cs, e1, F.blk hb (hE g cs hb), hc⟩
theorem pB.bools {n0 : Nat} {l : List Bool} {v : Value} {w : World} (h : pB n0 (l.map Value.bool) 4 v w) : Bools w (fun b => n0 ≤ b) v l := by
  obtain ⟨g, hg, hf⟩ := h
  obtain ⟨A0, c, e, h⟩ := hf.bools
  exact ⟨A0, c, e, fun k hk => by obtain ⟨g', o, e1, e2, h3⟩ := h k hk; exact ⟨g', o, e1, by rw [e2]; exact hg, h3⟩⟩
theorem pB.ints {n0 : Nat} {l : List Int} {v : Value} {w : World} (h : pB n0 (l.map (Value.int .i64)) 3 v w) : Ints w (fun b => n0 ≤ b) v l := by
  obtain ⟨g, hg, hf⟩ := h
  obtain ⟨A0, c, e, h⟩ := hf.ints
  exact ⟨A0, c, e, fun k hk => by obtain ⟨g', o, e1, e2, h3⟩ := h k hk; exact ⟨g', o, e1, by rw [e2]; exact hg, h3⟩⟩
theorem RowsC.rows2 {w : World} {n0 : Nat} {nv : Value} {rows : List (List Int)} (h : RowsC w n0 nv rows) : Rows2 w (fun b => n0 ≤ b) nv rows := by
  obtain ⟨vals, h1, h2, h3⟩ := h
  obtain ⟨A0, c, rfl⟩ := own_form h2
  refine ⟨A0, c, rfl, fun k hk => ?_⟩
  have hk' : k < vals.length := by omega
  rcases h2.2 with ⟨_, hn⟩ | ⟨g, cap, cur, e, hb, _⟩
  · omega
  · injection e with e1 e2 e3
    subst e1
    have hc := @World.ownsRow.cells _ _ _ _ _ _ _ h2 g rfl k vals[k] (by simp [hk'])
    rw [add_zero_off] at hc
    exact ⟨g, 0, _, rfl, hb, by rw [Nat.zero_add]; exact hc, (h3 k hk hk').ints⟩
def oneB (n1 : Nat) (v9 v8 : Value) (w : World) : Prop := ∃ b, v9 = .slice (some ⟨b, 0, none⟩) 1 1 ∧ n1 ≤ b ∧ Blk w b 37 #[v8]
def growB (n0 k : Nat) (vals : List Value) (v10 v8 : Value) (w : World) : Prop := w.ownsRow n0 37 1 v10 (k + 1) (vals ++ [v8])
def RA (own : Option Nat) (a b : World) : Prop := Frm (fun x => own = some x) a b ∧ ∀ x, own = some x → ∃ cs, Blk a x 37 cs
def RB (ob : Nat) (a b : World) : Prop := Frm (fun x => x = ob) a b ∧ ∃ cs, Blk a ob 25 cs
theorem RA.blk {own : Option Nat} {g : Nat} {a b : World} {t : TypeId} {cs : Array Value} (h : RA own a b) (hb : Blk a g t cs) (ht : t ≠ 37) : Blk b g t cs :=
  h.1.blk hb fun e => by obtain ⟨cs', h'⟩ := h.2 g e; exact ht (blk_type hb h')
theorem RB.blk {ob g : Nat} {a b : World} {t : TypeId} {cs : Array Value} (h : RB ob a b) (hb : Blk a g t cs) (ht : t ≠ 25) : Blk b g t cs :=
  h.1.blk hb fun e => by obtain ⟨cs', h'⟩ := h.2; subst e; exact ht (blk_type hb h')
theorem pB.ra {n0 : Nat} {xs : List Value} {e : TypeId} {v : Value} {own : Option Nat} {a b : World} (h : pB n0 xs e v a) (r : RA own a b) (ht : e ≠ 37) : pB n0 xs e v b := by
  obtain ⟨g, hg, c, cs, e1, hb, hc⟩ := h
  exact ⟨g, hg, c, cs, e1, r.blk hb ht, hc⟩
theorem pB.rb {n0 : Nat} {xs : List Value} {e : TypeId} {v : Value} {ob : Nat} {a b : World} (h : pB n0 xs e v a) (r : RB ob a b) (ht : e ≠ 25) : pB n0 xs e v b := by
  obtain ⟨g, hg, c, cs, e1, hb, hc⟩ := h
  exact ⟨g, hg, c, cs, e1, r.blk hb ht, hc⟩
theorem eB.ra {n0 : Nat} {e : TypeId} {v : Value} {own : Option Nat} {a b : World} (h : eB n0 e v a) (r : RA own a b) (ht : e ≠ 37) : eB n0 e v b := by
  obtain ⟨g, e1, hg, hb⟩ := h
  exact ⟨g, e1, hg, r.blk hb ht⟩
theorem eB.rb {n0 : Nat} {e : TypeId} {v : Value} {ob : Nat} {a b : World} (h : eB n0 e v a) (r : RB ob a b) (ht : e ≠ 25) : eB n0 e v b := by
  obtain ⟨g, e1, hg, hb⟩ := h
  exact ⟨g, e1, hg, r.blk hb ht⟩
theorem Half.ra {n0 ob : Nat} {m : A.Mac} {nv : Value} {own : Option Nat} {a b : World} (h : Half a n0 ob m nv) (r : RA own a b) : Half b n0 ob m nv := by
  obtain ⟨ev, g, hg, ⟨c, cs, e, hb2, hc⟩, hb⟩ := h
  exact ⟨ev, g, hg, ⟨c, cs, e, r.blk hb2 (by decide), hc⟩, r.blk hb (by decide)⟩
theorem growB.rb {n0 k ob : Nat} {vals : List Value} {v10 v8 : Value} {a b : World} (h : growB n0 k vals v10 v8 a) (r : RB ob a b) : growB n0 k vals v10 v8 b :=
  r.1.row h (fun g hg e => by
    obtain ⟨_, cs, h1⟩ := own_type h hg
    obtain ⟨cs', h2⟩ := r.2
    subst e
    have := blk_type h1 h2
    revert this
    decide) (Nat.le_refl _)
theorem wp_app_own {P : Program} {o : Oper} {a : Act} {w : World} {K : Act → World → Prop} {Q : Exit → Act → World → Prop} (s x : Operand) {t e : TypeId} {i : TypeInfo} {z : Value} {bytes n0 n b : Nat} {v u : Value} {xs : List Value}
    (ho : o.op = .call { callee := .builtin .append, args := #[s, x], argTypes := #[t, t] }) (ht : P.underlying t = some (.slice e)) (hi : P.info? e = some i) (hz : i.zero = some z) (hsize : i.size = 1) (hby : i.bytes = bytes) (hzs : z.cells.size = 1)
    (hv : a.eval s = v) (hx : a.eval x = .slice (some ⟨b, 0, none⟩) 1 1) (hown : w.ownsRow n0 e 1 v n xs) (hb : Blk w b e #[u]) (h1 : u.oneCell' = true) (h63 : n + 1 ≤ maxLen) (hbytes : (n + 1) * bytes ≤ 140737488355328) (hbase : n0 ≤ w.heap.size)
    (h : ∀ v' w', w'.ownsRow n0 e 1 v' (n + 1) (xs ++ [u]) → w.grownBy w' v.ownBlock → K (a.put o.dst v') w') : o.wp P a w K Q := by
  obtain ⟨v', w', hr, h2, h3, _, _⟩ := run_append_own_at (P := P) w n0 t o.type e i z 1 bytes ht hi hz hsize hby hzs (by decide) v n xs hown ⟨b, 0, none⟩ 1 1 [u] rfl (fun j y hy => by
    match j, hy with
    | 0, hy =>
      simp only [List.getElem?_cons_zero, Option.some.injEq] at hy
      subst hy
      exact hb.cell 0) (fun y hy => by rw [List.mem_singleton.1 hy]; exact h1) h63 hbytes hbase
  unfold Oper.wp execOp
  simp only [ho, resolve, invoke, builtin, Sem.run_bind, Sem.run_pure, Result.andThen_ok, List.map_toArray, List.map_cons, List.map_nil, hv, hx, hr]
  exact h v' w' h2 h3
theorem info_row : (Try.prog.info? 37).map (fun i => (i.zero, i.size, i.bytes)) = some (some (.slice none 0 0), 1, 24) := by kernel_rfl
set_option maxRecDepth 100000 in
set_option maxHeartbeats 16000000 in
theorem copy_any {w : World} {P : Nat → Prop} {v : Value} {m : A.Mac} (h : MachAt w P v m) (hn : m.next.length ≤ 8000) (he : m.fin.length ≤ 140737488355328) (hr : ∀ row ∈ m.next, row.length * 8 ≤ 140737488355328) :
    Calls Try.prog 11 #[v] w fun e w' => ∃ r, e = .returned r ∧ MachAt w' (fun b => w.heap.size ≤ b) r m ∧ Frm (fun _ => False) w w' := by
  obtain ⟨A1, c1, A2, c2, rfl⟩ := h.form
  have F0 : Frm (fun _ => False) w (w.alloc (.cells (macC m A1 c1 A2 c2) 25)) := (Frm.refl _ w).alloc _
  have bx := Blk.new w 25 (macC m A1 c1 A2 c2)
  have HM := Lib.hid h
  have HR := Lib.hid hr
  have x0 := bx.cell 0
  have x1 := bx.cell 1
  have x2 := bx.cell 2
  have x3 := bx.cell 3
  simp only [macC] at x0 x1 x2 x3
  have BX := Lib.hid bx
  have HF0 := Lib.hid F0
  clear bx F0 h hr
  go_enter Try.func11, Try.ntmps11
  go_wp2_with fail
  obtain ⟨W1, hW1⟩ : ∃ W1, W1 = (w.alloc (.cells #[.int .i64 m.letters, .int .i64 m.start, .slice A1 m.next.length c1, .slice A2 m.fin.length c2] 25)).alloc (.cells #[.int .i64 0, .int .i64 0, .slice none 0 0, .slice none 0 0] 25) := ⟨_, rfl⟩
  have BX1 : Hid (Blk W1 w.heap.size 25 (macC m A1 c1 A2 c2)) := by rw [hW1]; exact BX.out.alloc _
  have BZ1 : Hid (Blk W1 (w.heap.size + 1) 25 zeroM) := by rw [hW1]; exact blk_at (by simp)
  have HF1 : Hid (Frm (fun _ => False) w W1) := by rw [hW1]; exact HF0.out.alloc _
  have HN1 := Lib.hid (show W1.heap.size = w.heap.size + 2 by rw [hW1]; simp)
  rw [← hW1]
  clear hW1 BX HF0 x0 x1 x2 x3
  have HM0 := Lib.hid (MachAt.below HM.out)
  refine wp_region_dep [5, 6, 7, 8, 9, 10, 11, 12, 13, 3, 1000] [[0], [1], [2], [3], [4], [5], [6], [7], [8], [9], [9]]
    [f1 (vV (.pointer (some ⟨w.heap.size, 0, none⟩))), f1 (vV (.int .i64 m.letters)), f1 (vV (.pointer (some ⟨w.heap.size, 1, none⟩))), f1 (vV (.int .i64 m.start)), f1 (eB (w.heap.size + 2) 4), f1 (vV (.pointer (some ⟨w.heap.size, 3, none⟩))), f1 (vV (.slice A2 m.fin.length c2)),
     f1 (pB (w.heap.size + 2) (m.fin.map Value.bool) 4), f1 (bM (w.heap.size + 2) m), f1 (pM (w.heap.size + 2)), f1 (hM (w.heap.size + 2) m)]
    (Frm (fun b => w.heap.size + 2 ≤ b)) (fun i => if i = 10 then RS (w.heap.size + 2) else Frm (fun _ => False)) (fun _ _ => True) [] [(1, .pointer (some ⟨w.heap.size, 0, none⟩))] (by kernel_rfl) (by kernel_rfl) (fun _ _ _ => Frm.trans) ?_ ?_ (fun _ _ _ _ _ _ _ _ _ => trivial) (fun _ => trivial) (fun _ h => by cases h) (Frm.refl _ _).drew ?_ ?_ ?_
  · intro i a b h
    split at h
    · obtain ⟨ob, c, d, h1, _, _, _, _, F⟩ := h
      exact F.mono fun x _ e => by rw [e]; exact h1
    · exact h.mono fun _ _ h => h.elim
  · intro j i hj hi hne hna l a b hf hr
    have hj' : j < 11 := hj
    by_cases h10 : i = 10
    · subst h10
      rw [if_pos rfl] at hr
      have hcs : j = 0 ∨ j = 1 ∨ j = 2 ∨ j = 3 ∨ j = 4 ∨ j = 5 ∨ j = 6 ∨ j = 7 ∨ j = 8 ∨ j = 9 := by omega
      rcases hcs with rfl | rfl | rfl | rfl | rfl | rfl | rfl | rfl | rfl | rfl
      · exact hf
      · exact hf
      · exact hf
      · exact hf
      · exact eB.rs hf hr (by decide)
      · exact hf
      · exact hf
      · exact pB.rs hf hr (by decide)
      · obtain ⟨ev, e, he⟩ := hf
        exact ⟨ev, e, he.rs hr (by decide)⟩
      · exact pM.rs hf hr
    · rw [if_neg h10] at hr
      have hcs : j = 0 ∨ j = 1 ∨ j = 2 ∨ j = 3 ∨ j = 4 ∨ j = 5 ∨ j = 6 ∨ j = 7 ∨ j = 8 ∨ j = 9 ∨ j = 10 := by omega
      rcases hcs with rfl | rfl | rfl | rfl | rfl | rfl | rfl | rfl | rfl | rfl | rfl
      · exact hf
      · exact hf
      · exact hf
      · exact hf
      · exact eB.q hf hr
      · exact hf
      · exact hf
      · exact pB.q hf hr
      · obtain ⟨ev, e, he⟩ := hf
        exact ⟨ev, e, he.q hr⟩
      · exact pM.q hf hr
      · exact hM.q hf hr
  · intro x hx
    simp only [List.mem_cons, List.not_mem_nil, or_false] at hx
    subst hx
    exact ⟨by simp, rfl⟩
  · refine ⟨?_, ?_, ?_, ?_, ?_, ?_, ?_, ?_, ?_, ?_, ?_, trivial⟩
    · intro Q tm df V hR _ hu hd
      have u1 : tm[1]?.getD undef = .pointer (some ⟨w.heap.size, 0, none⟩) := hu (1, _) (by simp)
      clear hu hd
      go_simp
      exact ⟨_, rfl, rfl, Frm.refl _ V⟩
    · intro Q tm df V hR _ hu hd
      have e0 : tm[5]?.getD undef = .pointer (some ⟨w.heap.size, 0, none⟩) := hd 0 (by simp)
      have y := (hR.blk BX1.out (show ¬ w.heap.size + 2 ≤ w.heap.size by omega)).cell 0
      simp only [macC] at y
      clear hu hd
      go_simp
      exact ⟨_, rfl, rfl, Frm.refl _ V⟩
    · intro Q tm df V hR _ hu hd
      have u1 : tm[1]?.getD undef = .pointer (some ⟨w.heap.size, 0, none⟩) := hu (1, _) (by simp)
      clear hu hd
      go_simp
      exact ⟨_, rfl, rfl, Frm.refl _ V⟩
    · intro Q tm df V hR _ hu hd
      have e0 : tm[7]?.getD undef = .pointer (some ⟨w.heap.size, 1, none⟩) := hd 2 (by simp)
      have y := (hR.blk BX1.out (show ¬ w.heap.size + 2 ≤ w.heap.size by omega)).cell 1
      simp only [macC] at y
      clear hu hd
      go_simp
      exact ⟨_, rfl, rfl, Frm.refl _ V⟩
    · intro Q tm df V hR _ hu hd
      clear hu hd
      go_simp
      exact ⟨_, rfl, ⟨V.heap.size, rfl, by have := hR.1; have := HN1.out; omega, Blk.new _ _ _⟩, (Frm.refl _ V).alloc _⟩
    · intro Q tm df V hR _ hu hd
      have u1 : tm[1]?.getD undef = .pointer (some ⟨w.heap.size, 0, none⟩) := hu (1, _) (by simp)
      clear hu hd
      go_simp
      exact ⟨_, rfl, rfl, Frm.refl _ V⟩
    · intro Q tm df V hR _ hu hd
      have e0 : tm[10]?.getD undef = .pointer (some ⟨w.heap.size, 3, none⟩) := hd 5 (by simp)
      have y := (hR.blk BX1.out (show ¬ w.heap.size + 2 ≤ w.heap.size by omega)).cell 3
      simp only [macC] at y
      clear hu hd
      go_simp
      exact ⟨_, rfl, rfl, Frm.refl _ V⟩
    · intro Q tm df V hR _ hu hd
      obtain ⟨b, e0, hb1, hb2⟩ : eB (w.heap.size + 2) 4 (tm[9]?.getD undef) V := hd 4 (by simp)
      have e1 : tm[11]?.getD undef = .slice A2 m.fin.length c2 := hd 6 (by simp)
      obtain ⟨i0, hi0, hz0, hz1, hz2⟩ := info_parts info_boolE
      obtain ⟨nv, ev, ee, _, hE⟩ := (HM0.out.keep0 HF1.out).keep hR fun b hb hb' => by omega
      simp only [Value.agg.injEq, Array.mk.injEq, List.cons.injEq, and_true] at ee
      obtain ⟨_, _, _, rfl⟩ := ee
      refine wp_app_empty (.tmp 9) (.tmp 11) rfl Try.underlying23 hi0 hz0 hz1 hz2 (by simpa [Act.eval] using e0) (by simpa [Act.eval] using e1) hb2 (bools_src hE) (by omega) (by omega) fun v' w' g hg F hf => ?_
      exact ⟨_, rfl, (fun h => by cases h), ⟨g, by have := hR.1; have := HN1.out; rcases hg with rfl | rfl <;> omega, hf⟩, F⟩
    · intro Q tm df V hR _ hu hd
      have e0 : tm[6]?.getD undef = .int .i64 m.letters := hd 1 (by simp)
      have e1 : tm[8]?.getD undef = .int .i64 m.start := hd 3 (by simp)
      obtain ⟨g, hg, c, cs, e2, hb2, hc2⟩ : pB (w.heap.size + 2) (m.fin.map Value.bool) 4 (tm[12]?.getD undef) V := hd 7 (by simp)
      rw [List.length_map] at e2
      clear hu hd
      go_simp
      exact ⟨_, rfl, ⟨_, rfl, g, hg, c, cs, by rw [List.length_map], hb2, hc2⟩, Frm.refl _ V⟩
    · intro Q tm df V hR _ hu hd
      clear hu hd
      go_simp
      exact ⟨_, rfl, ⟨V.heap.size, _, rfl, by have := hR.1; have := HN1.out; omega, rfl, Blk.new _ _ _⟩, (Frm.refl _ V).alloc _⟩
    · intro Q tm df V hR _ hu hd
      obtain ⟨ev, e0, g, hg, c, cs', rfl, hb2, hc2⟩ : bM (w.heap.size + 2) m (tm[13]?.getD undef) V := hd 8 (by simp)
      obtain ⟨b, cs, e1, hb, hs, hbk⟩ : pM (w.heap.size + 2) (tm[3]?.getD undef) V := hd 9 (by simp)
      rw [List.length_map] at e0
      obtain ⟨k0, k1, k2, k3, rfl⟩ : ∃ k0 k1 k2 k3, cs = #[k0, k1, k2, k3] := Go.Joins.array4 hs
      have y0 := hbk.cell 0
      have y1 := hbk.cell 1
      have y2 := hbk.cell 2
      have y3 := hbk.cell 3
      have z0 := hbk.frozen 0
      have z1 := hbk.frozen 1
      have z2 := hbk.frozen 2
      have z3 := hbk.frozen 3
      clear hu hd
      have hrs : RS (w.heap.size + 2) V (put4 V b (.int .i64 m.letters) (.int .i64 m.start) (.slice none 0 0) (.slice (some ⟨g, 0, none⟩) m.fin.length c)) := ⟨b, _, _, hb, hbk, put4_blk hbk, rfl, rfl, put4_frm1⟩
      have hh : Half (put4 V b (.int .i64 m.letters) (.int .i64 m.start) (.slice none 0 0) (.slice (some ⟨g, 0, none⟩) m.fin.length c)) (w.heap.size + 2) b m (.slice none 0 0) := ⟨_, g, hg, ⟨c, cs', by rw [List.length_map], hrs.blk hb2 (by decide), hc2⟩, put4_blk hbk⟩
      have HH := Lib.hid hh
      have HRS := Lib.hid hrs
      clear hrs hh
      go_simp
      exact ⟨⟨b, e1, hb, HH.out⟩, HRS.out⟩
  · intro vs V hR hf
    obtain ⟨ob, e9, hob, hh⟩ : hM (w.heap.size + 2) m (vs 9) V := hf 10 (by decide)
    clear hf
    simp only [putAll, List.size_toArray, List.length_cons, List.length_nil, Nat.zero_add, Nat.reduceAdd, show List.range 11 = [0, 1, 2, 3, 4, 5, 6, 7, 8, 9, 10] from rfl, List.foldl_cons, List.foldl_nil, List.getD_cons_zero, List.getD_cons_succ, List.setIfInBounds_toArray, List.set_cons_zero, List.set_cons_succ, e9]
    go_wp2_with fail
    have HFV : Hid (Frm (fun _ => False) w V) := HF1.out.trans (hR.mono fun b hb h => by have := HN1.out; omega)
    have HBX := Lib.hid (hR.blk BX1.out (show ¬ w.heap.size + 2 ≤ w.heap.size by omega))
    have HBZ := Lib.hid (hR.blk BZ1.out (show ¬ w.heap.size + 2 ≤ w.heap.size + 1 by omega))
    have HH := Lib.hid hh
    have HLV : Hid (w.heap.size + 2 ≤ V.heap.size) := show _ ≤ _ by have := hR.1; have := HN1.out; omega
    clear hh hR BX1 BZ1 HF1 HN1 e9
    go_loopg [4] (m.next.length + 1) (fun n i wr => ∃ (k : Nat) (nv : Value), k ≤ m.next.length ∧ n = m.next.length + 1 - k ∧ i = .int .i64 (k : Int) ∧ Hid (Half wr (w.heap.size + 2) ob m nv) ∧ Hid (RowsC wr (w.heap.size + 2) nv (m.next.take k)) ∧ Hid (Blk wr w.heap.size 25 (macC m A1 c1 A2 c2)) ∧ Hid (Blk wr (w.heap.size + 1) 25 zeroM) ∧ Hid (Frm (fun _ => False) w wr) ∧ Hid (w.heap.size + 2 ≤ wr.heap.size))
    case atStart => exact ⟨0, _, Nat.zero_le _, rfl, rfl, HH, ⟨[], rfl, World.ownsRow_nil _ _ _ _, fun _ h => absurd h (by simp)⟩, HBX, HBZ, HFV, HLV⟩
    case round =>
      obtain ⟨k, nv, hk, rfl, rfl, HH, HC, HBX, HBZ, HF, HLW⟩ := hrel
      have y2 := HBX.out.cell 2
      simp only [macC] at y2
      by_cases hlt : k < m.next.length
      · have hlt' : (k : Int) < (m.next.length : Int) := by omega
        go_wp2_with fail
        obtain ⟨g, o, A3, c3, hA, hc, hrow⟩ := HM0.out.next_at hlt
        subst hA
        obtain ⟨vals, hv1, hv2, hv3⟩ := HC.out
        have hkl : (m.next.take k).length = k := by rw [List.length_take]; omega
        rw [hkl] at hv1 hv2
        have HV2 := Lib.hid hv2
        have HV3 := Lib.hid hv3
        have HV1 := Lib.hid hv1
        have HRW := Lib.hid (show Ints w (fun b => b < w.heap.size) (.slice A3 m.next[k].length c3) m.next[k] from ⟨A3, c3, rfl, hrow⟩)
        have HRL := Lib.hid (HR.out _ (List.getElem_mem hlt))
        have HOWN : Hid (∀ x, nv.ownBlock = some x → w.heap.size + 2 ≤ x ∧ x < wr.heap.size) := fun x hx => World.ownsRow.lt HV2.out x hx
        have HOB : Hid (ob < wr.heap.size) := show _ < _ by obtain ⟨_, _, _, _, hb⟩ := HH.out; exact hb.lt
        have HCW := Lib.hid (show g < w.heap.size from cell_lt hc)
        have HC2 := Lib.hid hc
        clear hv1 hv2 hv3 hrow hc
        generalize hrowe : m.next[k] = row at *
        refine wp_region_dep [21, 22, 23, 24, 25, 26, 27, 28, 29, 30, 31, 32, 1000] [[0], [1], [2], [3], [4], [5], [6], [7], [8], [9, 8], [10, 8], [11], [10]]
          [f1 (vV (.pointer (some ⟨ob, 2, none⟩))), f1 (vV nv), f1 (eB wr.heap.size 3), f1 (vV (.pointer (some ⟨w.heap.size, 2, none⟩))), f1 (vV (.slice (some ⟨g, o, none⟩) m.next.length c1)), f1 (vV (.int .i64 (k : Int))), f1 (vV (.pointer (some ⟨g, o + k, none⟩))), f1 (vV (.slice A3 row.length c3)), f1 (pB wr.heap.size (row.map (Value.int .i64)) 3), f2 (oneB wr.heap.size), f2 (growB (w.heap.size + 2) k vals), f1 (vV (.pointer (some ⟨ob, 2, none⟩))), f1 (fun v w' => Half w' (w.heap.size + 2) ob m v)]
          (Frm (fun b => b = ob ∨ nv.ownBlock = some b)) (fun i => if i = 10 then RA nv.ownBlock else if i = 12 then RB ob else Frm (fun _ => False)) (fun i w' => if i = 10 then w'.ownsRow (w.heap.size + 2) 37 1 nv k vals else if i = 12 ∨ i = 1 then Half w' (w.heap.size + 2) ob m nv else True) []
          [(1, .pointer (some ⟨w.heap.size, 0, none⟩)), (3, .pointer (some ⟨ob, 0, none⟩)), (4, .int .i64 (k : Int))] (by kernel_rfl) (by kernel_rfl) (fun _ _ _ => Frm.trans) ?_ ?_ ?_ ?_ (fun _ h => by cases h) (Frm.refl _ _).drew ?_ ?_ ?_
        · intro i a b h
          split at h
          · exact h.1.mono fun _ _ h => .inr h
          · split at h
            · exact h.1.mono fun _ _ h => .inl h
            · exact h.mono fun _ _ h => h.elim
        · intro j i hj hi hne hna l a b hf hr
          have hj' : j < 13 := hj
          by_cases h10 : i = 10
          · subst h10
            rw [if_pos rfl] at hr
            have hcs : j = 0 ∨ j = 1 ∨ j = 2 ∨ j = 3 ∨ j = 4 ∨ j = 5 ∨ j = 6 ∨ j = 7 ∨ j = 8 ∨ j = 9 ∨ j = 11 ∨ j = 12 := by omega
            rcases hcs with rfl | rfl | rfl | rfl | rfl | rfl | rfl | rfl | rfl | rfl | rfl | rfl
            · exact hf
            · exact hf
            · exact eB.ra hf hr (by decide)
            · exact hf
            · exact hf
            · exact hf
            · exact hf
            · exact hf
            · exact pB.ra hf hr (by decide)
            · obtain ⟨b', e, hb1, hb2⟩ := hf
              refine ⟨b', e, hb1, hr.1.blk hb2 fun e' => ?_⟩
              have := (HOWN.out b' e').2
              omega
            · exact hf
            · simp at hna
          · rw [if_neg h10] at hr
            by_cases h12 : i = 12
            · subst h12
              rw [if_pos rfl] at hr
              have hcs : j = 0 ∨ j = 1 ∨ j = 2 ∨ j = 3 ∨ j = 4 ∨ j = 5 ∨ j = 6 ∨ j = 7 ∨ j = 8 ∨ j = 9 ∨ j = 10 ∨ j = 11 := by omega
              rcases hcs with rfl | rfl | rfl | rfl | rfl | rfl | rfl | rfl | rfl | rfl | rfl | rfl
              · exact hf
              · exact hf
              · exact eB.rb hf hr (by decide)
              · exact hf
              · exact hf
              · exact hf
              · exact hf
              · exact hf
              · exact pB.rb hf hr (by decide)
              · obtain ⟨b', e, hb1, hb2⟩ := hf
                exact ⟨b', e, hb1, hr.blk hb2 (by decide)⟩
              · exact growB.rb hf hr
              · exact hf
            · rw [if_neg h12] at hr
              have hcs : j = 0 ∨ j = 1 ∨ j = 2 ∨ j = 3 ∨ j = 4 ∨ j = 5 ∨ j = 6 ∨ j = 7 ∨ j = 8 ∨ j = 9 ∨ j = 10 ∨ j = 11 ∨ j = 12 := by omega
              rcases hcs with rfl | rfl | rfl | rfl | rfl | rfl | rfl | rfl | rfl | rfl | rfl | rfl | rfl
              · exact hf
              · exact hf
              · exact eB.q hf hr
              · exact hf
              · exact hf
              · exact hf
              · exact hf
              · exact hf
              · exact pB.q hf hr
              · obtain ⟨b', e, hb1, hb2⟩ := hf
                exact ⟨b', e, hb1, hr.blk hb2 id⟩
              · exact hr.row hf (fun _ _ => id) (Nat.le_refl _)
              · exact hf
              · exact Half.frm hf hr id fun _ _ _ => id
        · intro i j hj hne hna a b hf hr
          by_cases h10 : i = 10
          · subst h10
            rw [if_pos rfl] at hf ⊢
            rw [if_neg (Ne.symm hne)] at hr
            by_cases h12 : j = 12
            · subst h12
              simp at hna
            · rw [if_neg h12] at hr
              exact hr.row hf (fun _ _ => id) (Nat.le_refl _)
          · rw [if_neg h10] at hf ⊢
            by_cases h12 : i = 12 ∨ i = 1
            · rw [if_pos h12] at hf ⊢
              by_cases j10 : j = 10
              · rw [if_pos j10] at hr
                exact Half.ra hf hr
              · rw [if_neg j10] at hr
                by_cases j12 : j = 12
                · subst j12
                  rcases h12 with h | h
                  · exact absurd h hne
                  · subst h
                    simp at hna
                · rw [if_neg j12] at hr
                  exact Half.frm hf hr id fun _ _ _ => id
            · rw [if_neg h12]
              trivial
        · intro i
          split
          · exact HV2.out
          · split
            · exact HH.out
            · trivial
        · intro x hx
          simp only [List.mem_cons, List.not_mem_nil, or_false] at hx
          rcases hx with rfl | rfl | rfl <;> exact ⟨by simp, rfl⟩
        · refine ⟨?_, ?_, ?_, ?_, ?_, ?_, ?_, ?_, ?_, ?_, ?_, ?_, ?_, trivial⟩
          · intro Q tm df V hR _ hu hd
            have u1 : tm[3]?.getD undef = .pointer (some ⟨ob, 0, none⟩) := hu (3, _) (by simp)
            clear hu hd
            go_simp
            exact ⟨_, rfl, rfl, Frm.refl _ V⟩
          · intro Q tm df V hR hx hu hd
            obtain ⟨ev, g', _, _, hb⟩ : Half V (w.heap.size + 2) ob m nv := hx
            have e0 : tm[21]?.getD undef = .pointer (some ⟨ob, 2, none⟩) := hd 0 (by simp)
            have y := hb.cell 2
            clear hu hd hb
            go_simp
            exact ⟨_, rfl, rfl, Frm.refl _ V⟩
          · intro Q tm df V hR hx hu hd
            clear hu hd hx
            go_simp
            exact ⟨_, rfl, ⟨V.heap.size, rfl, hR.1, Blk.new _ _ _⟩, (Frm.refl _ V).alloc _⟩
          · intro Q tm df V hR hx hu hd
            have u1 : tm[1]?.getD undef = .pointer (some ⟨w.heap.size, 0, none⟩) := hu (1, _) (by simp)
            clear hu hd hx
            go_simp
            exact ⟨_, rfl, rfl, Frm.refl _ V⟩
          · intro Q tm df V hR hx hu hd
            have e0 : tm[24]?.getD undef = .pointer (some ⟨w.heap.size, 2, none⟩) := hd 3 (by simp)
            have y := (hR.blk HBX.out (by intro h; rcases h with h | h; omega; have := (HOWN.out _ h).1; omega)).cell 2
            simp only [macC] at y
            clear hu hd hx
            go_simp
            exact ⟨_, rfl, rfl, Frm.refl _ V⟩
          · intro Q tm df V hR hx hu hd
            have u1 : tm[4]?.getD undef = .int .i64 (k : Int) := hu (4, _) (by simp)
            clear hu hd hx
            go_simp
            exact ⟨_, rfl, rfl, Frm.refl _ V⟩
          · intro Q tm df V hR hx hu hd
            have e0 : tm[25]?.getD undef = .slice (some ⟨g, o, none⟩) m.next.length c1 := hd 4 (by simp)
            have e1 : tm[26]?.getD undef = .int .i64 (k : Int) := hd 5 (by simp)
            clear hu hd hx
            go_simp
            exact ⟨_, rfl, rfl, Frm.refl _ V⟩
          · intro Q tm df V hR hx hu hd
            have e0 : tm[27]?.getD undef = .pointer (some ⟨g, o + k, none⟩) := hd 6 (by simp)
            have y := hR.cell (by intro h; have h9 := HCW.out; rcases h with h | h; dsimp only at h; omega; have := (HOWN.out _ h).1; dsimp only at this; omega) (HF.out.cell id HC2.out)
            clear hu hd hx
            go_simp
            exact ⟨_, rfl, rfl, Frm.refl _ V⟩
          · intro Q tm df V hR hx hu hd
            obtain ⟨b', e0, hb1, hb2⟩ : eB wr.heap.size 3 (tm[23]?.getD undef) V := hd 2 (by simp)
            have e1 : tm[28]?.getD undef = .slice A3 row.length c3 := hd 7 (by simp)
            obtain ⟨i0, hi0, hz0, hz1, hz2⟩ := info_parts info_int
            have hI := (HRW.out.keep HF.out fun _ _ => id).keep hR (by intro x hx' h; rcases h with h | h; omega; have := (HOWN.out _ h).1; omega)
            have hrl := HRL.out
            refine wp_app_empty (.tmp 23) (.tmp 28) rfl Try.underlying37 hi0 hz0 hz1 hz2 (by simpa [Act.eval] using e0) (by simpa [Act.eval] using e1) hb2 (ints_src hI) (by omega) (by omega) fun v' w' g' hg F hf => ?_
            exact ⟨_, rfl, (fun h => by cases h), ⟨g', by have := hR.1; rcases hg with rfl | rfl <;> omega, hf⟩, F⟩
          · intro Q tm df V hR hx hu hd
            obtain ⟨g8, hg8, c8, cs8, e8, hb8, hc8⟩ : pB wr.heap.size (row.map (Value.int .i64)) 3 (tm[29]?.getD undef) V := hd 8 (by simp)
            rw [List.length_map] at e8
            have HB9 : Hid (Blk (V.alloc (.cells #[.slice (some ⟨g8, 0, none⟩) row.length c8] 37)) V.heap.size 37 #[tm[29]?.getD undef]) := by rw [e8]; exact Blk.new _ _ _
            clear hu hd hx
            go_simp
            exact ⟨_, rfl, ⟨V.heap.size, rfl, hR.1, HB9.out⟩, (Frm.refl _ V).alloc _⟩
          · intro Q tm df V hR hx hu hd
            have hown : V.ownsRow (w.heap.size + 2) 37 1 nv k vals := hx
            have e1 : tm[22]?.getD undef = nv := hd 1 (by simp)
            obtain ⟨b', e9, hb1, hb2⟩ : oneB wr.heap.size (tm[30]?.getD undef) (tm[29]?.getD undef) V := hd 9 (by simp)
            obtain ⟨g8, hg8, c8, cs8, e8, hb8, hc8⟩ : pB wr.heap.size (row.map (Value.int .i64)) 3 (tm[29]?.getD undef) V := hd 8 (by simp)
            obtain ⟨i0, hi0, hz0, hz1, hz2⟩ := info_parts info_row
            refine wp_app_own (.tmp 22) (.tmp 30) rfl Try.underlying22 hi0 hz0 hz1 hz2 rfl (by simpa [Act.eval] using e1) (by simpa [Act.eval] using e9) hown hb2 (by rw [e8]; rfl) (by unfold maxLen; omega) (by omega) (by have := hR.1; have := HLW.out; omega) fun v' w' ho hg => ?_
            exact ⟨v', rfl, (fun h => by cases h), ho, (Frm.refl _ V).grown hg (fun g h _ => h), fun x hx' => (own_type hown hx').2⟩
          · intro Q tm df V hR hx hu hd
            have u1 : tm[3]?.getD undef = .pointer (some ⟨ob, 0, none⟩) := hu (3, _) (by simp)
            clear hu hd hx
            go_simp
            exact ⟨_, rfl, rfl, Frm.refl _ V⟩
          · intro Q tm df V hR hx hu hd
            obtain ⟨ev, g', hg', hf', hb⟩ : Half V (w.heap.size + 2) ob m nv := hx
            have e0 : tm[32]?.getD undef = .pointer (some ⟨ob, 2, none⟩) := hd 11 (by simp)
            have ho : growB (w.heap.size + 2) k vals (tm[31]?.getD undef) (tm[29]?.getD undef) V := hd 10 (by simp)
            obtain ⟨A10, c10, e10⟩ := own_form ho
            have y := hb.cell 2
            have z := hb.frozen 2
            have hrb : RB ob V (V.setCell ⟨ob, 2, none⟩ (.slice A10 (k + 1) c10)) := ⟨(Frm.refl (fun x => x = ob) V).set_ (p := ⟨ob, 2, none⟩) (fun _ => rfl) _, _, hb⟩
            have HRB := Lib.hid hrb
            have HH2 : Hid (Half (V.setCell ⟨ob, 2, none⟩ (.slice A10 (k + 1) c10)) (w.heap.size + 2) ob m (.slice A10 (k + 1) c10)) := by
              obtain ⟨c, cs, e, h1, h2⟩ := hf'
              exact ⟨ev, g', hg', ⟨c, cs, e, hrb.blk h1 (by decide), h2⟩, hb.set_ 2 _⟩
            have H10 := Lib.hid e10
            clear hu hd ho hb hf' hrb
            go_simp
            exact ⟨by rw [show f1 _ _ _ = Half _ _ _ _ _ from rfl, show updV _ 12 undef 10 = tm[31]?.getD undef from rfl, H10.out]; exact HH2.out, HRB.out⟩
        · intro vs V hR hf
          have hN : Half V (w.heap.size + 2) ob m (vs 10) := hf 12 (by decide)
          have hG : growB (w.heap.size + 2) k vals (vs 10) (vs 8) V := hf 10 (by decide)
          have hP : pB wr.heap.size (row.map (Value.int .i64)) 3 (vs 8) V := hf 8 (by decide)
          have hob' := hob
          have HBX2 := Lib.hid (hR.blk HBX.out (by intro h; rcases h with h | h; omega; have := (HOWN.out _ h).1; omega))
          have HBZ2 := Lib.hid (hR.blk HBZ.out (by intro h; rcases h with h | h; omega; have := (HOWN.out _ h).1; omega))
          have HF2 : Hid (Frm (fun _ => False) w V) := ((HF.out.mono fun _ _ h => h.elim).trans hR).mono (by intro x hx h; rcases h with h | h; omega; have := (HOWN.out _ h).1; omega)
          have HLW2 : Hid (w.heap.size + 2 ≤ V.heap.size) := show _ ≤ _ by have := hR.1; have := HLW.out; omega
          have HC2 : Hid (RowsC V (w.heap.size + 2) (vs 10) (m.next.take (k + 1))) := by
            rw [List.take_succ_eq_append_getElem hlt, hrowe]
            refine ⟨vals ++ [vs 8], by simp [HV1.out, hkl], ?_, fun i hi hi' => ?_⟩
            · rw [List.length_append, hkl]
              exact hG
            · by_cases hik : i < k
              · rw [List.getElem_append_left (by rw [hkl]; exact hik), List.getElem_append_left (by rw [HV1.out]; exact hik)]
                refine (HV3.out i (by rw [hkl]; exact hik) (by rw [HV1.out]; exact hik)).fr hR fun g' cs hg' h => ?_
                rcases h with rfl | h
                · obtain ⟨_, _, _, _, hb⟩ := HH.out
                  have := blk_type hg' hb
                  revert this
                  decide
                · obtain ⟨_, cs', hb⟩ := own_type HV2.out h
                  have := blk_type hg' hb
                  revert this
                  decide
              · have hi2 : i = k := by simp [hkl] at hi; omega
                subst hi2
                have e1 : (vals ++ [vs 8])[i]'hi' = vs 8 := by
                  rw [List.getElem_append_right (by rw [HV1.out]; exact Nat.le_refl _)]
                  simp [HV1.out]
                have e2 : (m.next.take i ++ [row])[i]'hi = row := by
                  rw [List.getElem_append_right (by rw [hkl]; exact Nat.le_refl _)]
                  simp [hkl]
                rw [e1, e2]
                obtain ⟨g', hg', hf'⟩ := hP
                exact ⟨g', by have := HLW.out; omega, hf'⟩
          have HN := Lib.hid hN
          clear hN hG hP hf hR
          simp only [putAll, List.size_toArray, List.length_cons, List.length_nil, Nat.zero_add, Nat.reduceAdd, show List.range 13 = [0, 1, 2, 3, 4, 5, 6, 7, 8, 9, 10, 11, 12] from rfl, List.foldl_cons, List.foldl_nil, List.getD_cons_zero, List.getD_cons_succ, List.setIfInBounds_toArray, List.set_cons_zero, List.set_cons_succ]
          go_wp2_with fail
          go_roundg (m.next.length + 1 - (k + 1))
          case measure => omega
          case rel => exact ⟨k + 1, vs 10, by omega, rfl, by go_num, HN, HC2, HBX2, HBZ2, HF2, HLW2⟩
      · have hlt' : ¬ (k : Int) < (m.next.length : Int) := by omega
        obtain rfl : k = m.next.length := by omega
        rw [List.take_length] at HC
        obtain ⟨ev, g, hg, hfr, hb⟩ := HH.out
        obtain ⟨c, cs, rfl, hb2, hc2⟩ := id hfr
        rw [List.length_map] at hb hfr
        obtain ⟨A0, c0, rfl⟩ : ∃ A0 c, nv = .slice A0 m.next.length c := by
          obtain ⟨vals, _, hv2, _⟩ := HC.out
          exact own_form hv2
        have hmach : MachAt wr (fun b => w.heap.size + 2 ≤ b) (.agg #[.int .i64 m.letters, .int .i64 m.start, .slice A0 m.next.length c0, .slice (some ⟨g, 0, none⟩) m.fin.length c]) m := ⟨_, _, rfl, HC.out.rows2, pB.bools ⟨g, hg, hfr⟩⟩
        have HMA := Lib.hid hmach
        have y0 := hb.cell 0
        have y1 := hb.cell 1
        have y2' := hb.cell 2
        have y3 := hb.cell 3
        have z0 := HBZ.out.cell 0
        have z1 := HBZ.out.cell 1
        have z2 := HBZ.out.cell 2
        have z3 := HBZ.out.cell 3
        have q0 := HBZ.out.frozen 0
        have q1 := HBZ.out.frozen 1
        have q2 := HBZ.out.frozen 2
        have q3 := HBZ.out.frozen 3
        simp only [zeroM] at z0 z1 z2 z3
        clear hfr hb2 hc2 hb hmach
        go_wp2_with fail
        have hm2 : MachAt (put4 wr (w.heap.size + 1) (.int .i64 m.letters) (.int .i64 m.start) (.slice A0 m.next.length c0) (.slice (some ⟨g, 0, none⟩) m.fin.length c)) (fun b => w.heap.size ≤ b) (.agg #[.int .i64 m.letters, .int .i64 m.start, .slice A0 m.next.length c0, .slice (some ⟨g, 0, none⟩) m.fin.length c]) m := (HMA.out.keep put4_frm1 fun b hb h => by omega).mono fun b hb => by omega
        refine bodyPost_ret (w := put4 wr (w.heap.size + 1) (.int .i64 m.letters) (.int .i64 m.start) (.slice A0 m.next.length c0) (.slice (some ⟨g, 0, none⟩) m.fin.length c)) (v := .agg #[.int .i64 m.letters, .int .i64 m.start, .slice A0 m.next.length c0, .slice (some ⟨g, 0, none⟩) m.fin.length c]) ?_ rfl ⟨_, rfl, hm2, put4_frm HF.out (by omega)⟩
        have h4 := put4_blk (l := .int .i64 m.letters) (s := .int .i64 m.start) (n := .slice A0 m.next.length c0) (e := .slice (some ⟨g, 0, none⟩) m.fin.length c) HBZ.out
        generalize put4 wr (w.heap.size + 1) (.int .i64 m.letters) (.int .i64 m.start) (.slice A0 m.next.length c0) (.slice (some ⟨g, 0, none⟩) m.fin.length c) = w4 at *
        clear y0 y1 y2 y2' y3 z0 z1 z2 z3 q0 q1 q2 q3
        have y0 := h4.cell 0
        have y1 := h4.cell 1
        have y2 := h4.cell 2
        have y3 := h4.cell 3
        simp [results, Try.results11, go_sem, y0, y1, y2, y3]
end Go.Proofs.Ytldmjpnldgekaaa
end
