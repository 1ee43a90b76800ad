/- Terms read within what binds their names, as plain functions. What is read is as terms are, and has no more nodes than bytes were read. Contracts of the program's functions, with no condition beyond what each theorem states. -/
import Derived.Test.YtpdbkdcdlafobaaGreatDoorC01
section
namespace Go.Proofs.YtpdbkdcdlafobaaGreatDoor.L
def ofParam (p : Bytes × Int) : Bnd := if p.2 = 2 then ⟨3, p.1, [], 0⟩ else ⟨2, p.1, [], p.2⟩
def innerOf (ps : List (Bytes × Int)) : List Bnd := ps.map ofParam
def outerOf (n : Bytes) (ps : List (Bytes × Int)) (r : Int) : Bnd := ⟨1, n, ps.map (·.2), r⟩
/-- What is done at each node, with what binds names there, and the error so far: the error then, and what stands in the node's place. -/
abbrev Vst := List Bnd → Tm → Int → Int × Option Tm
def at_ (V : Vst) (bs : List Bnd) (t : Tm) (e : Int) (k : Int → Tm × Int) : Tm × Int := match V bs t e with
  | (e1, some u) => (u, e1)
  | (e1, none) => k e1
mutual
def rd (V : Vst) (bs : List Bnd) : Tm → Int → Tm × Int
  | .row ts, e => (inRow (rdL V bs ts e).1, (rdL V bs ts e).2)
  | .assign n x, e => at_ V bs (.assign n x) e fun e => (.assign n (rd V bs x e).1, (rd V bs x e).2)
  | .choice of x y z, e => at_ V bs (.choice of x y z) e fun e =>
    (.choice of (rd V bs x e).1 (rd V bs y (rd V bs x e).2).1 (rd V bs z (rd V bs y (rd V bs x e).2).2).1, (rd V bs z (rd V bs y (rd V bs x e).2).2).2)
  | .loop x y, e => at_ V bs (.loop x y) e fun e => (.loop (rd V bs x e).1 (rd V bs y (rd V bs x e).2).1, (rd V bs y (rd V bs x e).2).2)
  | .fresh of n x y, e => at_ V bs (.fresh of n x y) e fun e =>
    (.fresh of n (rd V bs x e).1 (rd V (bs ++ [⟨3, n, [], 0⟩]) y (rd V bs x e).2).1, (rd V (bs ++ [⟨3, n, [], 0⟩]) y (rd V bs x e).2).2)
  | .call of n ts, e => at_ V bs (.call of n ts) e fun e => (.call of n (rdL V bs ts e).1, (rdL V bs ts e).2)
  | .proc of n ps r x y, e => at_ V bs (.proc of n ps r x y) e fun e =>
    (.proc of n ps r (rd V (bs ++ innerOf ps) x e).1 (rd V (bs ++ [outerOf n ps r]) y (rd V (bs ++ innerOf ps) x e).2).1, (rd V (bs ++ [outerOf n ps r]) y (rd V (bs ++ innerOf ps) x e).2).2)
  | .binary k x y, e => at_ V bs (.binary k x y) e fun e => (.binary k (rd V bs x e).1 (rd V bs y (rd V bs x e).2).1, (rd V bs y (rd V bs x e).2).2)
  | .doing x y, e => at_ V bs (.doing x y) e fun e => (.doing (rd V bs x e).1 (rd V bs y (rd V bs x e).2).1, (rd V bs y (rd V bs x e).2).2)
  | .labelled n x, e => at_ V bs (.labelled n x) e fun e => (.labelled n (rd V (bs ++ [⟨4, n, [], 0⟩]) x e).1, (rd V (bs ++ [⟨4, n, [], 0⟩]) x e).2)
  | .skip, e => at_ V bs .skip e fun e => (.skip, e)
  | .stop t, e => at_ V bs (.stop t) e fun e => (.stop t, e)
  | .fault t, e => at_ V bs (.fault t) e fun e => (.fault t, e)
  | .num i, e => at_ V bs (.num i) e fun e => (.num i, e)
  | .read n, e => at_ V bs (.read n) e fun e => (.read n, e)
  | .exit t n, e => at_ V bs (.exit t n) e fun e => (.exit t n, e)
def rdL (V : Vst) (bs : List Bnd) : List Tm → Int → List Tm × Int
  | [], e => ([], e)
  | t :: ts, e => ((rd V bs t e).1 :: (rdL V bs ts (rd V bs t e).2).1, (rdL V bs ts (rd V bs t e).2).2)
end
theorem rdL_append (V : Vst) (bs : List Bnd) (b : List Tm) : ∀ (a : List Tm) (e : Int), rdL V bs (a ++ b) e = ((rdL V bs a e).1 ++ (rdL V bs b (rdL V bs a e).2).1, (rdL V bs b (rdL V bs a e).2).2)
  | [], e => by simp [rdL]
  | t :: a, e => by rw [List.cons_append, rdL, rdL, rdL_append V bs b a]; rfl
theorem rdL_len (V : Vst) (bs : List Bnd) : ∀ (a : List Tm) (e : Int), (rdL V bs a e).1.length = a.length
  | [], e => rfl
  | t :: a, e => by rw [rdL]; simp [rdL_len V bs a]
theorem rdL_take (V : Vst) (bs : List Bnd) (ts : List Tm) (e : Int) (k : Nat) (hk : k < ts.length) :
    rdL V bs (ts.take (k + 1)) e = ((rdL V bs (ts.take k) e).1 ++ [(rd V bs ts[k] (rdL V bs (ts.take k) e).2).1], (rd V bs ts[k] (rdL V bs (ts.take k) e).2).2) := by
  rw [List.take_succ_eq_append_getElem hk, rdL_append]; simp [rdL]
/-- Rows have two steps or more. -/
inductive Ok : Tm → Prop
  | skip : Ok .skip
  | stop (t : Int) : Ok (.stop t)
  | fault (t : Int) : Ok (.fault t)
  | row (ts : List Tm) : 2 ≤ ts.length → (∀ t ∈ ts, Ok t) → Ok (.row ts)
  | assign (n : Bytes) (x : Tm) : Ok x → Ok (.assign n x)
  | choice (t : Int) (x y z : Tm) : Ok x → Ok y → Ok z → Ok (.choice t x y z)
  | loop (x y : Tm) : Ok x → Ok y → Ok (.loop x y)
  | fresh (t : Int) (n : Bytes) (x y : Tm) : Ok x → Ok y → Ok (.fresh t n x y)
  | call (t : Int) (n : Bytes) (ts : List Tm) : (∀ t ∈ ts, Ok t) → Ok (.call t n ts)
  | proc (t : Int) (n : Bytes) (ps : List (Bytes × Int)) (r : Int) (x y : Tm) : Ok x → Ok y → Ok (.proc t n ps r x y)
  | num (i : Int) : Ok (.num i)
  | read (n : Bytes) : Ok (.read n)
  | binary (k : Int) (x y : Tm) : Ok x → Ok y → Ok (.binary k x y)
  | doing (x y : Tm) : Ok x → Ok y → Ok (.doing x y)
  | labelled (n : Bytes) (x : Tm) : Ok x → Ok (.labelled n x)
  | exit (t : Int) (n : Bytes) : Ok (.exit t n)
theorem nodesL_pos {l : List Tm} (h : ∀ t ∈ l, 1 ≤ nodes t) : l.length ≤ nodesL l := by
  induction l with
  | nil => simp [nodesL]
  | cons t l ih =>
    have := ih fun u hu => h u (List.mem_cons_of_mem _ hu)
    have := h t (List.mem_cons_self ..)
    simp [nodesL]; omega
theorem Ok.pos {t : Tm} (h : Ok t) : 1 ≤ nodes t := by
  induction h <;> simp only [nodes] <;> try omega
theorem levelsL_max {l : List Tm} {k : Nat} (h : ∀ t ∈ l, levels t ≤ k) : levelsL l ≤ k := by
  induction l with
  | nil => simp [levelsL]
  | cons t l ih =>
    have := ih fun u hu => h u (List.mem_cons_of_mem _ hu)
    have := h t (List.mem_cons_self ..)
    simp only [levelsL]; omega
theorem nodesL_mem {l : List Tm} {t : Tm} (h : t ∈ l) : nodes t ≤ nodesL l := by
  induction l with
  | nil => cases h
  | cons u l ih =>
    rcases List.mem_cons.1 h with rfl | h
    · simp only [nodesL]; omega
    · have := ih h; simp only [nodesL]; omega
theorem Ok.levels {t : Tm} (h : Ok t) : levels t ≤ nodes t := by
  induction h with
  | row ts h2 hk ih =>
    have := levelsL_max (k := nodesL ts) fun t ht => Nat.le_trans (ih t ht) (nodesL_mem ht)
    simp only [L.levels, nodes]; omega
  | call t n ts hk ih =>
    have := levelsL_max (k := nodesL ts) fun t ht => Nat.le_trans (ih t ht) (nodesL_mem ht)
    simp only [L.levels, nodes]; omega
  | _ => simp only [L.levels, nodes]; omega
theorem levelsL_mem {l : List Tm} {t : Tm} (h : t ∈ l) : levels t ≤ levelsL l := by
  induction l with
  | nil => cases h
  | cons u l ih =>
    rcases List.mem_cons.1 h with rfl | h
    · simp only [levelsL]; omega
    · have := ih h; simp only [levelsL]; omega
/-- No row stands directly in it. -/
def Flat (t : Tm) : Prop := ∀ u ∈ stepsOf t, isRow u = false
theorem flat_of {t : Tm} (h : isRow t = false) : Flat t := fun u hu => by
  cases t <;> first | (simp [isRow] at h; done) | (simp only [stepsOf, List.mem_singleton] at hu; rw [hu]; exact h)
theorem steps_one {t : Tm} (h : isRow t = false) : stepsOf t = [t] := by
  cases t <;> first | rfl | simp [isRow] at h
theorem inRow_cases {l : List Tm} (h : ∀ t ∈ l, Flat t) : (∃ u, l.flatMap stepsOf = [u] ∧ isRow u = false ∧ inRow l = u) ∨ inRow l = .row (l.flatMap stepsOf) := by
  match e : l.flatMap stepsOf with
  | [] => right; unfold inRow; rw [e]
  | [u] =>
    refine .inl ⟨u, rfl, ?_, by unfold inRow; rw [e]⟩
    have hu : u ∈ l.flatMap stepsOf := by rw [e]; exact List.mem_singleton.2 rfl
    obtain ⟨t, ht, hu⟩ := List.mem_flatMap.1 hu
    exact h t ht u hu
  | _ :: _ :: _ => right; unfold inRow; rw [e]
theorem inRow_flat {l : List Tm} (h : ∀ t ∈ l, Flat t) : Flat (inRow l) := by
  rcases inRow_cases h with ⟨u, _, hu, e⟩ | e
  · rw [e]; exact flat_of hu
  · rw [e]; intro u hu
    obtain ⟨t, ht, hu⟩ := List.mem_flatMap.1 (show u ∈ l.flatMap stepsOf from hu)
    exact h t ht u hu
theorem inRow_steps {l : List Tm} (h : ∀ t ∈ l, Flat t) : stepsOf (inRow l) = l.flatMap stepsOf := by
  rcases inRow_cases h with ⟨u, e1, hu, e⟩ | e
  · rw [e, e1, steps_one hu]
  · rw [e]; rfl
theorem stepsOf_ok {t : Tm} (h : Ok t) : 1 ≤ (stepsOf t).length ∧ ∀ u ∈ stepsOf t, Ok u := by
  cases h with
  | row ts h2 hk => exact ⟨by simp only [stepsOf]; omega, hk⟩
  | _ => refine ⟨Nat.le_refl _, fun u hu => ?_⟩; simp only [stepsOf, List.mem_singleton] at hu; subst hu; constructor <;> assumption
theorem flat_len {l : List Tm} (h : ∀ t ∈ l, Ok t) : l.length ≤ (l.flatMap stepsOf).length := by
  induction l with
  | nil => simp
  | cons t l ih =>
    have := ih fun u hu => h u (List.mem_cons_of_mem _ hu)
    have := (stepsOf_ok (h t (List.mem_cons_self ..))).1
    rw [List.flatMap_cons, List.length_append, List.length_cons]; omega
theorem inRow_ok {l : List Tm} (hf : ∀ t ∈ l, Flat t) (h : ∀ t ∈ l, Ok t) (hne : l ≠ []) : Ok (inRow l) := by
  have hm : ∀ u ∈ l.flatMap stepsOf, Ok u := fun u hu => by
    obtain ⟨t, ht, hu⟩ := List.mem_flatMap.1 hu
    exact (stepsOf_ok (h t ht)).2 u hu
  rcases inRow_cases hf with ⟨u, e1, hu, e⟩ | e
  · rw [e]; exact hm u (by rw [e1]; exact List.mem_singleton.2 rfl)
  · by_cases h1 : (l.flatMap stepsOf).length = 1
    · obtain ⟨u, hu⟩ := List.length_eq_one_iff.1 h1
      have : inRow l = u := by unfold inRow; rw [hu]
      rw [this]; exact hm u (by rw [hu]; exact List.mem_singleton.2 rfl)
    · rw [e]
      have := flat_len h
      have : 0 < l.length := List.length_pos_iff.2 hne
      exact .row _ (by omega) hm
theorem steps_nodes {t : Tm} (h : Ok t) : (stepsOf t).length + nodesL (stepsOf t) = nodes t + 1 := by
  cases h with
  | row ts h2 hk => simp only [stepsOf, nodes]; omega
  | _ => simp [stepsOf, nodesL]; omega
theorem flat_nodes {l : List Tm} (h : ∀ t ∈ l, Ok t) : (l.flatMap stepsOf).length + nodesL (l.flatMap stepsOf) = nodesL l + l.length := by
  induction l with
  | nil => simp [nodesL]
  | cons t l ih =>
    have := ih fun u hu => h u (List.mem_cons_of_mem _ hu)
    have := steps_nodes (h t (List.mem_cons_self ..))
    rw [List.flatMap_cons, List.length_append, nodesL_append, List.length_cons]; simp only [nodesL]; omega
theorem inRow_nodes {l : List Tm} (hf : ∀ t ∈ l, Flat t) (h : ∀ t ∈ l, Ok t) (hne : l ≠ []) : nodes (inRow l) + 1 = nodesL l + l.length := by
  have h1 := flat_nodes h
  have := flat_len h
  have : 0 < l.length := List.length_pos_iff.2 hne
  rcases inRow_cases hf with ⟨u, e1, hu, e⟩ | e
  · rw [e]; rw [e1, List.length_singleton] at h1; simp only [nodesL] at h1; omega
  · rw [e]; simp only [nodes]; omega
theorem steps_le_nodes {t : Tm} (h : Ok t) : (stepsOf t).length ≤ nodes t := by
  cases h with
  | row ts h2 hk => have := nodesL_pos (l := ts) fun t ht => (hk t ht).pos; simp only [stepsOf, nodes]; omega
  | _ => simp [stepsOf, nodes] <;> omega
theorem nodesL_scale {P : Nat} {f : Tm → Tm} {l : List Tm} (h : ∀ t ∈ l, nodes (f t) ≤ P * nodes t) : nodesL (l.map f) ≤ P * nodesL l := by
  induction l with
  | nil => simp [nodesL]
  | cons t l ih =>
    have := ih fun u hu => h u (List.mem_cons_of_mem _ hu)
    have := h t (List.mem_cons_self ..)
    simp only [List.map_cons, nodesL, Nat.mul_add]; omega
/-- What stands in a node's place is as terms are, and small. -/
def Good (P : Nat) (V : Vst) : Prop := ∀ bs t e u, (V bs t e).2 = some u → Ok u ∧ Flat u ∧ nodes u ≤ P
def Fine (P k : Nat) (u : Tm) : Prop := Ok u ∧ Flat u ∧ nodes u ≤ P * k
theorem at_fine {P k : Nat} {V : Vst} (hV : Good P V) {bs : List Bnd} {t : Tm} {e : Int} {f : Int → Tm × Int} (hk : 1 ≤ k) (hf : ∀ e, Fine P k (f e).1) : Fine P k (at_ V bs t e f).1 := by
  unfold at_
  split
  · rename_i u h
    obtain ⟨h1, h2, h3⟩ := hV bs t e _ (by rw [h])
    exact ⟨h1, h2, Nat.le_trans h3 (Nat.le_mul_of_pos_right _ hk)⟩
  · exact hf _
theorem rd_fine {P : Nat} {V : Vst} (hP : 1 ≤ P) (hV : Good P V) {t : Tm} (h : Ok t) : ∀ (bs : List Bnd) (e : Int), Fine P (nodes t) (rd V bs t e).1 := by
  have hL : ∀ (ts : List Tm) (bs : List Bnd), (∀ t ∈ ts, ∀ (bs : List Bnd) (e : Int), Fine P (nodes t) (rd V bs t e).1) → ∀ e, (∀ u ∈ (rdL V bs ts e).1, Ok u ∧ Flat u) ∧ nodesL (rdL V bs ts e).1 ≤ P * nodesL ts := by
    intro ts bs
    induction ts with
    | nil => intro _ e; simp [rdL, nodesL]
    | cons t ts ih =>
      intro h e
      obtain ⟨h1, h2⟩ := ih (fun u hu => h u (List.mem_cons_of_mem _ hu)) (rd V bs t e).2
      obtain ⟨g1, g2, g3⟩ := h t (List.mem_cons_self ..) bs e
      rw [rdL]
      refine ⟨fun u hu => ?_, by simp only [nodesL, Nat.mul_add]; omega⟩
      rcases List.mem_cons.1 hu with rfl | hu
      · exact ⟨g1, g2⟩
      · exact h1 u hu
  induction h with
  | row ts h2 hk ih =>
    intro bs e
    rw [rd]
    obtain ⟨h1, h3⟩ := hL ts bs ih e
    have hl := rdL_len V bs ts e
    have hne : (rdL V bs ts e).1 ≠ [] := List.ne_nil_of_length_pos (by omega)
    have := inRow_nodes (fun t ht => (h1 t ht).2) (fun t ht => (h1 t ht).1) hne
    refine ⟨inRow_ok (fun t ht => (h1 t ht).2) (fun t ht => (h1 t ht).1) hne, inRow_flat fun t ht => (h1 t ht).2, ?_⟩
    have : ts.length - 1 ≤ P * (ts.length - 1) := Nat.le_mul_of_pos_left _ hP
    simp only [nodes, Nat.mul_add]; omega
  | call t n ts hk ih =>
    intro bs e
    rw [rd]
    refine at_fine hV (by simp only [nodes]; omega) fun e => ?_
    obtain ⟨h1, h3⟩ := hL ts bs ih e
    exact ⟨.call _ _ _ fun t ht => (h1 t ht).1, flat_of rfl, by simp only [nodes, Nat.mul_add]; omega⟩
  | assign n x _ ih =>
    intro bs e
    rw [rd]
    refine at_fine hV (by simp only [nodes]; omega) fun e => ?_
    have h1 := ih bs e
    exact ⟨.assign _ _ h1.1, flat_of rfl, by have := h1.2.2; simp only [nodes, Nat.mul_add]; omega⟩
  | choice t x y z _ _ _ ihx ihy ihz =>
    intro bs e
    rw [rd]
    refine at_fine hV (by simp only [nodes]; omega) fun e => ?_
    have h1 := ihx bs e
    have h2 := ihy bs (rd V bs x e).2
    have h3 := ihz bs (rd V bs y (rd V bs x e).2).2
    exact ⟨.choice _ _ _ _ h1.1 h2.1 h3.1, flat_of rfl, by have := h1.2.2; have := h2.2.2; have := h3.2.2; simp only [nodes, Nat.mul_add]; omega⟩
  | loop x y _ _ ihx ihy =>
    intro bs e
    rw [rd]
    refine at_fine hV (by simp only [nodes]; omega) fun e => ?_
    have h1 := ihx bs e
    have h2 := ihy bs (rd V bs x e).2
    exact ⟨.loop _ _ h1.1 h2.1, flat_of rfl, by have := h1.2.2; have := h2.2.2; simp only [nodes, Nat.mul_add]; omega⟩
  | fresh t n x y _ _ ihx ihy =>
    intro bs e
    rw [rd]
    refine at_fine hV (by simp only [nodes]; omega) fun e => ?_
    have h1 := ihx bs e
    have h2 := ihy (bs ++ [⟨3, n, [], 0⟩]) (rd V bs x e).2
    exact ⟨.fresh _ _ _ _ h1.1 h2.1, flat_of rfl, by have := h1.2.2; have := h2.2.2; simp only [nodes, Nat.mul_add]; omega⟩
  | proc t n ps r x y _ _ ihx ihy =>
    intro bs e
    rw [rd]
    refine at_fine hV (by simp only [nodes]; omega) fun e => ?_
    have h1 := ihx (bs ++ innerOf ps) e
    have h2 := ihy (bs ++ [outerOf n ps r]) (rd V (bs ++ innerOf ps) x e).2
    exact ⟨.proc _ _ _ _ _ _ h1.1 h2.1, flat_of rfl, by have := h1.2.2; have := h2.2.2; simp only [nodes, Nat.mul_add]; omega⟩
  | binary k x y _ _ ihx ihy =>
    intro bs e
    rw [rd]
    refine at_fine hV (by simp only [nodes]; omega) fun e => ?_
    have h1 := ihx bs e
    have h2 := ihy bs (rd V bs x e).2
    exact ⟨.binary _ _ _ h1.1 h2.1, flat_of rfl, by have := h1.2.2; have := h2.2.2; simp only [nodes, Nat.mul_add]; omega⟩
  | doing x y _ _ ihx ihy =>
    intro bs e
    rw [rd]
    refine at_fine hV (by simp only [nodes]; omega) fun e => ?_
    have h1 := ihx bs e
    have h2 := ihy bs (rd V bs x e).2
    exact ⟨.doing _ _ h1.1 h2.1, flat_of rfl, by have := h1.2.2; have := h2.2.2; simp only [nodes, Nat.mul_add]; omega⟩
  | labelled n x _ ih =>
    intro bs e
    rw [rd]
    refine at_fine hV (by simp only [nodes]; omega) fun e => ?_
    have h1 := ih (bs ++ [⟨4, n, [], 0⟩]) e
    exact ⟨.labelled _ _ h1.1, flat_of rfl, by have := h1.2.2; simp only [nodes, Nat.mul_add]; omega⟩
  | _ =>
    intro bs e
    rw [rd]
    refine at_fine hV (by simp only [nodes]; omega) fun e => ⟨by constructor, flat_of rfl, by simp only [nodes]; omega⟩
theorem rdL_fine {P : Nat} {V : Vst} (hP : 1 ≤ P) (hV : Good P V) : ∀ {ts : List Tm} (_ : ∀ t ∈ ts, Ok t) (bs : List Bnd) (e : Int), (∀ u ∈ (rdL V bs ts e).1, Ok u ∧ Flat u) ∧ nodesL (rdL V bs ts e).1 ≤ P * nodesL ts
  | [], _, _, _ => by simp [rdL, nodesL]
  | t :: ts, h, bs, e => by
    obtain ⟨h1, h2⟩ := rdL_fine hP hV (ts := ts) (fun u hu => h u (List.mem_cons_of_mem _ hu)) bs (rd V bs t e).2
    obtain ⟨g1, g2, g3⟩ := rd_fine hP hV (h t (List.mem_cons_self ..)) bs e
    rw [rdL]
    refine ⟨fun u hu => ?_, by simp only [nodesL, Nat.mul_add]; omega⟩
    rcases List.mem_cons.1 hu with rfl | hu
    · exact ⟨g1, g2⟩
    · exact h1 u hu
theorem rdL_steps {P : Nat} {V : Vst} (hP : 1 ≤ P) (hV : Good P V) {ts : List Tm} (h : ∀ t ∈ ts, Ok t) (bs : List Bnd) (e : Int) : ((rdL V bs ts e).1.flatMap stepsOf).length ≤ P * nodesL ts + ts.length := by
  obtain ⟨h1, h2⟩ := rdL_fine hP hV h bs e
  have := flat_nodes fun t ht => (h1 t ht).1
  have := rdL_len V bs ts e
  omega
theorem at_none {V : Vst} {bs : List Bnd} {t : Tm} {e : Int} (h : (V bs t e).2 = none) (k : Int → Tm × Int) : at_ V bs t e k = k (V bs t e).1 := by
  unfold at_
  generalize V bs t e = r at *
  obtain ⟨r1, r2⟩ := r
  subst h
  rfl
theorem at_some {V : Vst} {bs : List Bnd} {t u : Tm} {e : Int} (h : (V bs t e).2 = some u) (k : Int → Tm × Int) : at_ V bs t e k = (u, (V bs t e).1) := by
  unfold at_
  generalize V bs t e = r at *
  obtain ⟨r1, r2⟩ := r
  subst h
  rfl
end Go.Proofs.YtpdbkdcdlafobaaGreatDoor.L
end
section
namespace Go.Proofs.YtpdbkdcdlafobaaGreatDoor.L
/-- What a way of reading gives: a term of at most so many nodes beyond the bytes that it takes; nr: no row. -/
def Cn (nr : Bool) (b : Nat) (r : Rd Tm) : Prop := ∀ s x s', r s = some (x, s') → (Ok x ∧ Flat x ∧ (nr = true → isRow x = false)) ∧ nodes x + s'.m ≤ s.m + b
section
variable {α : Type} {nr nr' : Bool} {b : Nat}
theorem cn_no : Cn nr b Rd.no := fun _ _ _ e => by simp [Rd.no] at e
theorem cn_ret {t : Tm} (h1 : Ok t) (h2 : isRow t = false) (h3 : nodes t ≤ b) : Cn nr b (Rd.ret t) := fun s x s' e => by
  simp only [Rd.ret, Option.some.injEq, Prod.mk.injEq] at e
  obtain ⟨rfl, rfl⟩ := e
  exact ⟨⟨h1, flat_of h2, fun _ => h2⟩, by omega⟩
theorem cn_ret' {t : Tm} (h1 : Ok t) (h2 : Flat t) (h3 : nodes t ≤ b) : Cn false b (Rd.ret t) := fun s x s' e => by
  simp only [Rd.ret, Option.some.injEq, Prod.mk.injEq] at e
  obtain ⟨rfl, rfl⟩ := e
  exact ⟨⟨h1, h2, fun h => by cases h⟩, by omega⟩
theorem cn_le {m : Rd α} {f : α → Rd Tm} (hm : Le m) (hf : ∀ x, Cn nr b (f x)) : Cn nr b (m.bind f) := fun s y s' e => by
  obtain ⟨x, s1, e1, e2⟩ := bind_some e
  have := hm _ _ _ e1
  obtain ⟨h1, h2⟩ := hf x _ _ _ e2
  exact ⟨h1, by omega⟩
theorem cn_lt {m : Rd α} {f : α → Rd Tm} (hm : Lt m) (hf : ∀ x, Cn nr (b + 1) (f x)) : Cn nr b (m.bind f) := fun s y s' e => by
  obtain ⟨x, s1, e1, e2⟩ := bind_some e
  have := hm _ _ _ e1
  obtain ⟨h1, h2⟩ := hf x _ _ _ e2
  exact ⟨h1, by omega⟩
theorem cn_tm {m : Rd Tm} {f : Tm → Rd Tm} (hm : Cn nr' 0 m) (hf : ∀ x, Ok x → Flat x → (nr' = true → isRow x = false) → Cn nr (b + nodes x) (f x)) : Cn nr b (m.bind f) := fun s y s' e => by
  obtain ⟨x, s1, e1, e2⟩ := bind_some e
  obtain ⟨⟨g1, g2, g3⟩, g4⟩ := hm _ _ _ e1
  obtain ⟨h1, h2⟩ := hf x g1 g2 g3 _ _ _ e2
  exact ⟨h1, by omega⟩
theorem cn_take {p : Bytes} (hp : p ≠ []) {A B : Rd Tm} (hA : Cn nr (b + 1) A) (hB : Cn nr b B) : Cn nr b ((take p).bind fun c => if c then A else B) := fun s y s' e => by
  obtain ⟨c, s1, e1, e2⟩ := bind_some e
  have hle := take_le p _ _ _ e1
  cases c
  · obtain ⟨h1, h2⟩ := hB _ _ _ e2
    exact ⟨h1, by omega⟩
  · obtain ⟨h1, h2⟩ := hA _ _ _ e2
    have := take_lt hp e1
    exact ⟨h1, by omega⟩
theorem cn_ite {c : Prop} [Decidable c] {A B : Rd Tm} (hA : Cn nr b A) (hB : Cn nr b B) : Cn nr b (if c then A else B) := by split <;> assumption
theorem cn_more {c : Nat} {r : Rd Tm} (h : Cn nr b r) (hc : b ≤ c) : Cn nr c r := fun s x s' e => ⟨(h s x s' e).1, by have := (h s x s' e).2; omega⟩
theorem cn_any {r : Rd Tm} (h : Cn nr b r) : Cn false b r := fun s x s' e => ⟨⟨(h s x s' e).1.1, (h s x s' e).1.2.1, fun h => by cases h⟩, (h s x s' e).2⟩
/-- The same of what commands and expressions have in common. -/
def Co (b : Nat) (r : Rd (Option Tm)) : Prop := ∀ s x s', r s = some (x, s') → s'.m ≤ s.m ∧ ∀ t, x = some t → (Ok t ∧ isRow t = false) ∧ nodes t + s'.m ≤ s.m + b
theorem co_take {p : Bytes} (hp : p ≠ []) {A : Rd Tm} {A' B : Rd (Option Tm)} (he : A' = A.bind fun x => Rd.ret (some x)) (hl : Le A) (hA : Cn true (b + 1) A) (hB : Co b B) : Co b ((take p).bind fun c => if c then A' else B) := fun s y s' e => by
  obtain ⟨c, s1, e1, e2⟩ := bind_some e
  have hle := take_le p _ _ _ e1
  cases c
  · obtain ⟨h1, h2⟩ := hB _ _ _ e2
    exact ⟨by omega, fun t ht => ⟨(h2 t ht).1, by have := (h2 t ht).2; omega⟩⟩
  · simp only [if_true, he] at e2
    obtain ⟨x, s2, e3, e4⟩ := bind_some e2
    simp only [Rd.ret, Option.some.injEq, Prod.mk.injEq] at e4
    obtain ⟨rfl, rfl⟩ := e4
    have := take_lt hp e1
    have h3 := hl _ _ _ e3
    obtain ⟨⟨h1, h2, h4⟩, h5⟩ := hA _ _ _ e3
    refine ⟨by omega, fun t ht => ?_⟩
    cases ht
    exact ⟨⟨h1, h4 rfl⟩, by omega⟩
theorem co_none : Co b (Rd.ret none) := fun s y s' e => by
  simp only [Rd.ret, Option.some.injEq, Prod.mk.injEq] at e
  obtain ⟨rfl, rfl⟩ := e
  exact ⟨Nat.le_refl _, fun t ht => by cases ht⟩
theorem cn_opt {m : Rd (Option Tm)} {f : Option Tm → Rd Tm} (hm : Co 0 m) (hs : ∀ x, f (some x) = Rd.ret x) (hn : Cn nr b (f none)) : Cn nr b (m.bind f) := fun s y s' e => by
  obtain ⟨x, s1, e1, e2⟩ := bind_some e
  obtain ⟨h1, h2⟩ := hm _ _ _ e1
  cases x with
  | none => obtain ⟨h3, h4⟩ := hn _ _ _ e2; exact ⟨h3, by omega⟩
  | some x =>
    rw [hs] at e2
    simp only [Rd.ret, Option.some.injEq, Prod.mk.injEq] at e2
    obtain ⟨rfl, rfl⟩ := e2
    obtain ⟨⟨h3, h4⟩, h5⟩ := h2 _ rfl
    exact ⟨⟨h3, flat_of h4, fun _ => h4⟩, by omega⟩
end
theorem rd_bind_assoc {α β γ : Type} (m : Rd α) (f : α → Rd β) (g : β → Rd γ) : (m.bind f).bind g = m.bind fun x => (f x).bind g := by
  funext s
  simp only [Rd.bind]
  cases m s <;> rfl
theorem rd_ret_bind {α β : Type} (x : α) (f : α → Rd β) : (Rd.ret x).bind f = f x := rfl
structure Cnt (n : Nat) : Prop where
  body : ∀ t, Cn false 0 (body n t)
  block : ∀ t, Cn false 0 (block n t)
  com : Cn false 0 (com n)
  comFrom : ∀ acc, (∀ t ∈ acc, Ok t ∧ isRow t = false) → Cn false (nodesL acc + acc.length) (comFrom n acc)
  step : Cn true 0 (step n)
  either : ∀ t, Co 0 (either n t)
  proc : ∀ t, Cn true 1 (proc n t)
  call : ∀ t k, Cn true 1 (call n t k)
  argsFrom : ∀ t k acc, (∀ t ∈ acc, Ok t) → Cn true (1 + nodesL acc) (argsFrom n t k acc)
  arg : Cn false 0 (arg n)
  exp : Cn false 0 (exp n)
  sum : Cn false 0 (sum n)
  sumFrom : ∀ x, Ok x → Flat x → Cn false (nodes x) (sumFrom n x)
  product : Cn false 0 (product n)
  productFrom : ∀ x, Ok x → Flat x → Cn false (nodes x) (productFrom n x)
  atom : Cn false 0 (atom n)
  atom2 : Cn false 0 (atom2 n)
theorem cn_pair {m : Rd (Int × Bool)} {b : Nat} {f : Int × Bool → Rd Tm} (hm : ∀ s x s', m s = some (x, s') → s'.m ≤ s.m ∧ (x.2 = true → s'.m < s.m)) (h1 : ∀ k, Cn false (b + 1) (f (k, true))) (h0 : ∀ k, Cn false b (f (k, false))) : Cn false b (m.bind f) := fun s y s' e => by
  obtain ⟨⟨k, c⟩, s1, e1, e2⟩ := bind_some e
  obtain ⟨g1, g2⟩ := hm _ _ _ e1
  cases c
  · obtain ⟨h3, h4⟩ := h0 k _ _ _ e2; exact ⟨h3, by omega⟩
  · obtain ⟨h3, h4⟩ := h1 k _ _ _ e2; have := g2 rfl; exact ⟨h3, by omega⟩
theorem comparison_lt : ∀ s x s', comparison s = some (x, s') → s'.m ≤ s.m ∧ (x.2 = true → s'.m < s.m) := fun s x s' e => by
  refine ⟨comparison_le _ _ _ e, fun hx => ?_⟩
  unfold comparison at e
  obtain ⟨c, s1, e1, e2⟩ := bind_some e
  cases c
  · obtain ⟨c, s2, e3, e4⟩ := bind_some e2
    cases c
    · simp [Rd.ret] at e4; rw [← e4.1] at hx; cases hx
    · simp [Rd.ret] at e4; rw [← e4.2]; have := take_lt (by simp) e3; have := take_le _ _ _ _ e1; omega
  · simp [Rd.ret] at e2; rw [← e2.2]; exact take_lt (by simp) e1
theorem plusOrMinus_lt : ∀ s x s', plusOrMinus s = some (x, s') → s'.m ≤ s.m ∧ (x.2 = true → s'.m < s.m) := fun s x s' e => by
  refine ⟨plusOrMinus_le _ _ _ e, fun hx => ?_⟩
  unfold plusOrMinus at e
  obtain ⟨c, s1, e1, e2⟩ := bind_some e
  cases c
  · obtain ⟨c, s2, e3, e4⟩ := bind_some e2
    cases c
    · simp [Rd.ret] at e4; rw [← e4.1] at hx; cases hx
    · simp [Rd.ret] at e4; rw [← e4.2]; have := take_lt (by simp) e3; have := take_le _ _ _ _ e1; omega
  · simp [Rd.ret] at e2; rw [← e2.2]; exact take_lt (by simp) e1
theorem times_lt : ∀ s x s', times s = some (x, s') → s'.m ≤ s.m ∧ (x.2 = true → s'.m < s.m) := fun s x s' e => by
  refine ⟨times_le _ _ _ e, fun hx => ?_⟩
  unfold times at e
  obtain ⟨c, s1, e1, e2⟩ := bind_some e
  simp [Rd.ret] at e2
  rw [← e2.1] at hx
  cases hx
  rw [← e2.2]; exact take_lt (by simp) e1
theorem cnt : ∀ n, Cnt n
  | 0 => ⟨fun _ => cn_no, fun _ => cn_no, cn_no, fun _ _ => cn_no, cn_no, fun _ => fun _ _ _ e => by simp [L.either, Rd.no] at e, fun _ => cn_no, fun _ _ => cn_no, fun _ _ _ _ => cn_no, cn_no, cn_no, cn_no, fun _ _ _ => cn_no, cn_no, fun _ _ _ => cn_no, cn_no, cn_no⟩
  | n + 1 => by
    have h := cnt n
    have hl := eats n
    refine ⟨fun t => ?_, fun t => ?_, ?_, fun acc ha => ?_, ?_, fun t => ?_, fun t => ?_, fun t k => ?_, fun t k acc ha => ?_, ?_, ?_, ?_, fun x h1 h2 => ?_, ?_, fun x h1 h2 => ?_, ?_, ?_⟩
    · rw [L.body]; exact cn_ite h.com h.exp
    · rw [L.block]; exact cn_le (want_le _) fun _ => cn_tm (h.body t) fun x hx hf _ => cn_le (want_le _) fun _ => cn_ret' hx hf (by omega)
    · rw [L.com]; exact h.comFrom [] (fun _ ht => by cases ht)
    · rw [L.comFrom]
      refine cn_tm h.step fun x hx _ hr => ?_
      have hall : ∀ t ∈ acc ++ [x], Ok t ∧ isRow t = false := fun t ht => by
        rcases List.mem_append.1 ht with ht | ht
        · exact ha t ht
        · rw [List.mem_singleton.1 ht]; exact ⟨hx, hr rfl⟩
      have hn : nodesL (acc ++ [x]) = nodesL acc + nodes x := by rw [nodesL_append]; simp [nodesL]
      have hlen : (acc ++ [x]).length = acc.length + 1 := by simp
      refine cn_take (by simp) (cn_more (h.comFrom _ hall) (by omega)) ?_
      have hf : ∀ t ∈ acc ++ [x], Flat t := fun t ht => flat_of (hall t ht).2
      have hk : ∀ t ∈ acc ++ [x], Ok t := fun t ht => (hall t ht).1
      have := inRow_nodes hf hk (by simp)
      exact cn_ret' (inRow_ok hf hk (by simp)) (inRow_flat hf) (by omega)
    · rw [L.step]
      refine cn_opt (h.either 0) (fun _ => rfl) ?_
      refine cn_take (by simp) (cn_ret .skip rfl (by simp [nodes])) (cn_take (by simp) ?_ (cn_take (by simp) ?_ (cn_lt getName_lt fun k => cn_take (by simp) ?_ (h.call 0 k))))
      · exact cn_tm h.exp fun x hx _ _ => cn_tm (h.block 0) fun y hy _ _ => cn_ret (.loop _ _ hx hy) rfl (by simp only [nodes]; omega)
      · exact cn_le getName_lt.le fun k => cn_tm (h.block 0) fun y hy _ _ => cn_ret (.labelled _ _ hy) rfl (by simp only [nodes]; omega)
      · exact cn_tm h.exp fun x hx _ _ => cn_ret (.assign _ _ hx) rfl (by simp only [nodes]; omega)
    · rw [L.either]
      refine co_take (A := Rd.ret (.stop t)) (by simp) rfl (le_ret _) (cn_ret (.stop _) rfl (by simp [nodes])) ?_
      refine co_take (A := Rd.ret (.fault t)) (by simp) rfl (le_ret _) (cn_ret (.fault _) rfl (by simp [nodes])) ?_
      refine co_take (A := getName.bind fun k => Rd.ret (.exit t k)) (by simp) (by simp only [rd_bind_assoc, rd_ret_bind]) (le_bind getName_lt.le fun _ => le_ret _) (cn_le getName_lt.le fun _ => cn_ret (.exit _ _) rfl (by simp [nodes])) ?_
      refine co_take (A := (exp n).bind fun x => (block n t).bind fun y => (block n t).bind fun z => Rd.ret (.choice t x y z)) (by simp) (by simp only [rd_bind_assoc, rd_ret_bind]) (le_bind hl.exp.le fun _ => le_bind (hl.block _).le fun _ => le_bind (hl.block _).le fun _ => le_ret _)
        (cn_tm h.exp fun x hx _ _ => cn_tm (h.block t) fun y hy _ _ => cn_tm (h.block t) fun z hz _ _ => cn_ret (.choice _ _ _ _ hx hy hz) rfl (by simp only [nodes]; omega)) ?_
      refine co_take (A := getName.bind fun k => (want [61]).bind fun _ => (exp n).bind fun x => (block n t).bind fun y => Rd.ret (.fresh t k x y)) (by simp) (by simp only [rd_bind_assoc, rd_ret_bind]) (le_bind getName_lt.le fun _ => le_bind (want_le _) fun _ => le_bind hl.exp.le fun _ => le_bind (hl.block _).le fun _ => le_ret _)
        (cn_le getName_lt.le fun k => cn_le (want_le _) fun _ => cn_tm h.exp fun x hx _ _ => cn_tm (h.block t) fun y hy _ _ => cn_ret (.fresh _ _ _ _ hx hy) rfl (by simp only [nodes]; omega)) ?_
      exact co_take (A := proc n t) (by simp) rfl (hl.proc _).le (h.proc t) co_none
    · rw [L.proc]
      exact cn_le getName_lt.le fun _ => cn_le (want_le _) fun _ => cn_le params_le fun _ => cn_le (want_le _) fun _ => cn_le (want_le _) fun _ => cn_le result_le fun _ => cn_tm (h.block _) fun x hx _ _ => cn_tm (h.block _) fun y hy _ _ => cn_ret (.proc _ _ _ _ _ _ hx hy) rfl (by simp only [nodes]; omega)
    · rw [L.call]; exact cn_take (by simp) (cn_more (h.argsFrom _ _ [] (fun _ ht => by cases ht)) (by simp [nodesL])) (cn_ret (.call _ _ _ fun _ ht => by cases ht) rfl (by simp [nodes, nodesL]))
    · rw [L.argsFrom]
      refine cn_tm h.arg fun x hx _ _ => ?_
      have hall : ∀ t ∈ acc ++ [x], Ok t := fun t ht => by
        rcases List.mem_append.1 ht with ht | ht
        · exact ha t ht
        · rw [List.mem_singleton.1 ht]; exact hx
      have hn : nodesL (acc ++ [x]) = nodesL acc + nodes x := by rw [nodesL_append]; simp [nodesL]
      exact cn_take (by simp) (cn_more (h.argsFrom _ _ _ hall) (by omega)) (cn_le (want_le _) fun _ => cn_ite (cn_ret (.call _ _ _ hall) rfl (by simp only [nodes]; omega)) cn_no)
    · rw [L.arg]
      intro s x s' e
      dsimp only at e
      split at e
      · exact h.block 0 s x s' e
      · exact h.exp s x s' e
    · rw [L.exp]
      exact cn_tm h.sum fun x hx hf _ => cn_pair comparison_lt (fun k => cn_tm h.sum fun y hy _ _ => cn_ret (.binary _ _ _ hx hy) rfl (by simp only [nodes]; omega)) (fun k => cn_ret' hx hf (by omega))
    · rw [L.sum]; exact cn_tm h.product fun x hx hf _ => cn_more (h.sumFrom x hx hf) (by omega)
    · rw [L.sumFrom]
      exact cn_pair plusOrMinus_lt (fun k => cn_tm h.product fun y hy _ _ => cn_more (h.sumFrom _ (.binary _ _ _ h1 hy) (flat_of rfl)) (by simp only [nodes]; omega)) (fun k => cn_ret' h1 h2 (by omega))
    · rw [L.product]; exact cn_tm h.atom fun x hx hf _ => cn_more (h.productFrom x hx hf) (by omega)
    · rw [L.productFrom]
      exact cn_pair times_lt (fun k => cn_tm h.atom fun y hy _ _ => cn_more (h.productFrom _ (.binary _ _ _ h1 hy) (flat_of rfl)) (by simp only [nodes]; omega)) (fun k => cn_ret' h1 h2 (by omega))
    · rw [L.atom]
      refine cn_opt (h.either 1) (fun _ => rfl) ?_
      intro s x s' e
      dsimp only at e
      split at e
      · rename_i c hc
        split at e
        · obtain ⟨y, s1, e1, e2⟩ := bind_some e
          simp only [Rd.ret, Option.some.injEq, Prod.mk.injEq] at e2
          obtain ⟨rfl, rfl⟩ := e2
          have := next_m e1
          rw [hc, List.length_singleton] at this
          exact ⟨⟨.num _, flat_of rfl, fun _ => rfl⟩, by simp only [nodes]; omega⟩
        · exact h.atom2 s x s' e
      · exact h.atom2 s x s' e
    · rw [L.atom2]
      exact cn_take (by simp) (cn_tm h.exp fun x hx hf _ => cn_le (want_le _) fun _ => cn_ret' hx hf (by omega)) (cn_take (by simp) (cn_tm (h.block 0) fun x hx _ _ => cn_tm (h.block 1) fun y hy _ _ => cn_ret (.doing _ _ hx hy) rfl (by simp only [nodes]; omega)) (cn_lt getName_lt fun k => cn_any (h.call 1 k)))
theorem declsFrom_ok : ∀ (n : Nat) (acc : List Decl) (s : St) (x : List Decl) (s' : St), declsFrom n acc s = some (x, s') → okDecls x = true
  | 0, _, _, _, _, h => by simp [declsFrom, Rd.no] at h
  | n + 1, acc, s, x, s', h => by
    rw [declsFrom] at h
    obtain ⟨d, s1, _, h⟩ := bind_some h
    obtain ⟨c, s2, _, h⟩ := bind_some h
    split at h
    · exact declsFrom_ok n _ _ _ _ h
    · split at h
      · rename_i hok
        simp only [Rd.ret, Option.some.injEq, Prod.mk.injEq] at h
        rw [← h.1]; exact hok
      · simp [Rd.no] at h
theorem decls_ok {s : St} {x : List Decl} {s' : St} (h : decls s = some (x, s')) : okDecls x = true := by
  unfold decls at h
  split at h
  · simp only [Option.some.injEq, Prod.mk.injEq] at h
    rw [← h.1]; rfl
  · exact declsFrom_ok _ _ _ _ _ h
theorem declsFrom_m : ∀ (n : Nat) (acc : List Decl) (s : St) (x : List Decl) (s' : St), declsFrom n acc s = some (x, s') → s'.m ≤ s.m
  | 0, _, _, _, _, h => by simp [declsFrom, Rd.no] at h
  | n + 1, acc, s, x, s', h => by
    rw [declsFrom] at h
    obtain ⟨d, s1, e1, h⟩ := bind_some h
    obtain ⟨c, s2, e2, h⟩ := bind_some h
    have := decl_lt _ _ _ e1
    have := take_le _ _ _ _ e2
    split at h
    · have := declsFrom_m n _ _ _ _ h; omega
    · split at h
      · simp only [Rd.ret, Option.some.injEq, Prod.mk.injEq] at h
        rw [← h.2]; omega
      · simp [Rd.no] at h
theorem decls_m {s : St} {x : List Decl} {s' : St} (h : decls s = some (x, s')) : s'.m ≤ s.m := by
  unfold decls at h
  split at h
  · simp only [Option.some.injEq, Prod.mk.injEq] at h
    rw [← h.2]; exact Nat.le_refl _
  · exact declsFrom_m _ _ _ _ _ h
theorem parse_good {l : Bytes} {ds : List Decl} {ty : Int} {t : Tm} (h : parse l = some (ds, ty, t)) : Ok t ∧ Flat t ∧ nodes t ≤ 4000 ∧ okDecls ds = true ∧ l.length ≤ 4000 := by
  unfold parse at h
  split at h
  · cases h
  · rename_i hlen
    split at h
    · rename_i y s' hw
      simp only [Option.some.injEq] at h
      subst h
      unfold whole at hw
      obtain ⟨_, s1, e1, hw⟩ := bind_some hw
      obtain ⟨d, s2, e2, hw⟩ := bind_some hw
      obtain ⟨_, s3, e3, hw⟩ := bind_some hw
      obtain ⟨r, s4, e4, hw⟩ := bind_some hw
      obtain ⟨_, s5, e5, hw⟩ := bind_some hw
      obtain ⟨x, s6, e6, hw⟩ := bind_some hw
      obtain ⟨_, s7, e7, hw⟩ := bind_some hw
      simp only [Rd.ret, Option.some.injEq, Prod.mk.injEq] at hw
      obtain ⟨⟨rfl, rfl, rfl⟩, rfl⟩ := hw
      obtain ⟨⟨h1, h2, _⟩, h3⟩ := (cnt _).body _ _ _ _ e6
      have g1 := next_le _ _ _ e1
      have g2 := decls_m e2
      have g3 := want_le _ _ _ _ e3
      have g4 := result_le _ _ _ e4
      have g5 := want_le _ _ _ _ e5
      simp only [St.m, List.length_nil] at *
      exact ⟨h1, h2, by omega, decls_ok e2, by omega⟩
    · cases h
end Go.Proofs.YtpdbkdcdlafobaaGreatDoor.L
end
