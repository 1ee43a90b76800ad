/- What is read is as terms are, and has no more nodes than bytes were read. What is done at each node when a term is checked, resolved or filled, as plain functions. Assertions of a term's type. Contracts of the program's functions, with no condition beyond what each theorem states. -/
import Derived.Test.YtpdbkdcdlafobaaGreatDoorM10
section
namespace Go.Proofs.YtpdbkdcdlafobaaGreatDoor.L
/-- What a way of reading gives: a term of at most so many nodes beyond the bytes that it takes; nr: no row. -/
def Cn (nr : Bool) (b : Nat) (r : Rd Tm) : Prop := ∀ s x s', r s = some (x, s') → (Ok x ∧ Flat x ∧ (nr = true → isRow x = false)) ∧ nodes x + s'.m ≤ s.m + b
section
variable {α : Type} {nr nr' : Bool} {b : Nat}
theorem cn_no : Cn nr b Rd.no := fun _ _ _ e => by simp [Rd.no] at e
theorem cn_ret {t : Tm} (h1 : Ok t) (h2 : isRow t = false) (h3 : nodes t ≤ b) : Cn nr b (Rd.ret t) := fun s x s' e => by
  simp only [Rd.ret, Option.some.injEq, Prod.mk.injEq] at e
  obtain ⟨rfl, rfl⟩ := e
  exact ⟨⟨h1, flat_of h2, fun _ => h2⟩, by omega⟩
theorem cn_ret' {t : Tm} (h1 : Ok t) (h2 : Flat t) (h3 : nodes t ≤ b) : Cn false b (Rd.ret t) := fun s x s' e => by
  simp only [Rd.ret, Option.some.injEq, Prod.mk.injEq] at e
  obtain ⟨rfl, rfl⟩ := e
  exact ⟨⟨h1, h2, fun h => by cases h⟩, by omega⟩
theorem cn_le {m : Rd α} {f : α → Rd Tm} (hm : Le m) (hf : ∀ x, Cn nr b (f x)) : Cn nr b (m.bind f) := fun s y s' e => by
  obtain ⟨x, s1, e1, e2⟩ := bind_some e
  have := hm _ _ _ e1
  obtain ⟨h1, h2⟩ := hf x _ _ _ e2
  exact ⟨h1, by omega⟩
theorem cn_lt {m : Rd α} {f : α → Rd Tm} (hm : Lt m) (hf : ∀ x, Cn nr (b + 1) (f x)) : Cn nr b (m.bind f) := fun s y s' e => by
  obtain ⟨x, s1, e1, e2⟩ := bind_some e
  have := hm _ _ _ e1
  obtain ⟨h1, h2⟩ := hf x _ _ _ e2
  exact ⟨h1, by omega⟩
theorem cn_tm {m : Rd Tm} {f : Tm → Rd Tm} (hm : Cn nr' 0 m) (hf : ∀ x, Ok x → Flat x → (nr' = true → isRow x = false) → Cn nr (b + nodes x) (f x)) : Cn nr b (m.bind f) := fun s y s' e => by
  obtain ⟨x, s1, e1, e2⟩ := bind_some e
  obtain ⟨⟨g1, g2, g3⟩, g4⟩ := hm _ _ _ e1
  obtain ⟨h1, h2⟩ := hf x g1 g2 g3 _ _ _ e2
  exact ⟨h1, by omega⟩
theorem cn_take {p : Bytes} (hp : p ≠ []) {A B : Rd Tm} (hA : Cn nr (b + 1) A) (hB : Cn nr b B) : Cn nr b ((take p).bind fun c => if c then A else B) := fun s y s' e => by
  obtain ⟨c, s1, e1, e2⟩ := bind_some e
  have hle := take_le p _ _ _ e1
  cases c
  · obtain ⟨h1, h2⟩ := hB _ _ _ e2
    exact ⟨h1, by omega⟩
  · obtain ⟨h1, h2⟩ := hA _ _ _ e2
    have := take_lt hp e1
    exact ⟨h1, by omega⟩
theorem cn_ite {c : Prop} [Decidable c] {A B : Rd Tm} (hA : Cn nr b A) (hB : Cn nr b B) : Cn nr b (if c then A else B) := by split <;> assumption
theorem cn_more {c : Nat} {r : Rd Tm} (h : Cn nr b r) (hc : b ≤ c) : Cn nr c r := fun s x s' e => ⟨(h s x s' e).1, by have := (h s x s' e).2; omega⟩
theorem cn_any {r : Rd Tm} (h : Cn nr b r) : Cn false b r := fun s x s' e => ⟨⟨(h s x s' e).1.1, (h s x s' e).1.2.1, fun h => by cases h⟩, (h s x s' e).2⟩
/-- The same of what commands and expressions have in common. -/
def Co (b : Nat) (r : Rd (Option Tm)) : Prop := ∀ s x s', r s = some (x, s') → s'.m ≤ s.m ∧ ∀ t, x = some t → (Ok t ∧ isRow t = false) ∧ nodes t + s'.m ≤ s.m + b
theorem co_take {p : Bytes} (hp : p ≠ []) {A : Rd Tm} {A' B : Rd (Option Tm)} (he : A' = A.bind fun x => Rd.ret (some x)) (hl : Le A) (hA : Cn true (b + 1) A) (hB : Co b B) : Co b ((take p).bind fun c => if c then A' else B) := fun s y s' e => by
  obtain ⟨c, s1, e1, e2⟩ := bind_some e
  have hle := take_le p _ _ _ e1
  cases c
  · obtain ⟨h1, h2⟩ := hB _ _ _ e2
    exact ⟨by omega, fun t ht => ⟨(h2 t ht).1, by have := (h2 t ht).2; omega⟩⟩
  · simp only [if_true, he] at e2
    obtain ⟨x, s2, e3, e4⟩ := bind_some e2
    simp only [Rd.ret, Option.some.injEq, Prod.mk.injEq] at e4
    obtain ⟨rfl, rfl⟩ := e4
    have := take_lt hp e1
    have h3 := hl _ _ _ e3
    obtain ⟨⟨h1, h2, h4⟩, h5⟩ := hA _ _ _ e3
    refine ⟨by omega, fun t ht => ?_⟩
    cases ht
    exact ⟨⟨h1, h4 rfl⟩, by omega⟩
theorem co_none : Co b (Rd.ret none) := fun s y s' e => by
  simp only [Rd.ret, Option.some.injEq, Prod.mk.injEq] at e
  obtain ⟨rfl, rfl⟩ := e
  exact ⟨Nat.le_refl _, fun t ht => by cases ht⟩
theorem cn_opt {m : Rd (Option Tm)} {f : Option Tm → Rd Tm} (hm : Co 0 m) (hs : ∀ x, f (some x) = Rd.ret x) (hn : Cn nr b (f none)) : Cn nr b (m.bind f) := fun s y s' e => by
  obtain ⟨x, s1, e1, e2⟩ := bind_some e
  obtain ⟨h1, h2⟩ := hm _ _ _ e1
  cases x with
  | none => obtain ⟨h3, h4⟩ := hn _ _ _ e2; exact ⟨h3, by omega⟩
  | some x =>
    rw [hs] at e2
    simp only [Rd.ret, Option.some.injEq, Prod.mk.injEq] at e2
    obtain ⟨rfl, rfl⟩ := e2
    obtain ⟨⟨h3, h4⟩, h5⟩ := h2 _ rfl
    exact ⟨⟨h3, flat_of h4, fun _ => h4⟩, by omega⟩
end
theorem rd_bind_assoc {α β γ : Type} (m : Rd α) (f : α → Rd β) (g : β → Rd γ) : (m.bind f).bind g = m.bind fun x => (f x).bind g := by
  funext s
  simp only [Rd.bind]
  cases m s <;> rfl
theorem rd_ret_bind {α β : Type} (x : α) (f : α → Rd β) : (Rd.ret x).bind f = f x := rfl
structure Cnt (n : Nat) : Prop where
  body : ∀ t, Cn false 0 (body n t)
  block : ∀ t, Cn false 0 (block n t)
  com : Cn false 0 (com n)
  comFrom : ∀ acc, (∀ t ∈ acc, Ok t ∧ isRow t = false) → Cn false (nodesL acc + acc.length) (comFrom n acc)
  step : Cn true 0 (step n)
  either : ∀ t, Co 0 (either n t)
  proc : ∀ t, Cn true 1 (proc n t)
  call : ∀ t k, Cn true 1 (call n t k)
  argsFrom : ∀ t k acc, (∀ t ∈ acc, Ok t) → Cn true (1 + nodesL acc) (argsFrom n t k acc)
  arg : Cn false 0 (arg n)
  exp : Cn false 0 (exp n)
  sum : Cn false 0 (sum n)
  sumFrom : ∀ x, Ok x → Flat x → Cn false (nodes x) (sumFrom n x)
  product : Cn false 0 (product n)
  productFrom : ∀ x, Ok x → Flat x → Cn false (nodes x) (productFrom n x)
  atom : Cn false 0 (atom n)
  atom2 : Cn false 0 (atom2 n)
theorem cn_pair {m : Rd (Int × Bool)} {b : Nat} {f : Int × Bool → Rd Tm} (hm : ∀ s x s', m s = some (x, s') → s'.m ≤ s.m ∧ (x.2 = true → s'.m < s.m)) (h1 : ∀ k, Cn false (b + 1) (f (k, true))) (h0 : ∀ k, Cn false b (f (k, false))) : Cn false b (m.bind f) := fun s y s' e => by
  obtain ⟨⟨k, c⟩, s1, e1, e2⟩ := bind_some e
  obtain ⟨g1, g2⟩ := hm _ _ _ e1
  cases c
  · obtain ⟨h3, h4⟩ := h0 k _ _ _ e2; exact ⟨h3, by omega⟩
  · obtain ⟨h3, h4⟩ := h1 k _ _ _ e2; have := g2 rfl; exact ⟨h3, by omega⟩
theorem comparison_lt : ∀ s x s', comparison s = some (x, s') → s'.m ≤ s.m ∧ (x.2 = true → s'.m < s.m) := fun s x s' e => by
  refine ⟨comparison_le _ _ _ e, fun hx => ?_⟩
  unfold comparison at e
  obtain ⟨c, s1, e1, e2⟩ := bind_some e
  cases c
  · obtain ⟨c, s2, e3, e4⟩ := bind_some e2
    cases c
    · simp [Rd.ret] at e4; rw [← e4.1] at hx; cases hx
    · simp [Rd.ret] at e4; rw [← e4.2]; have := take_lt (by simp) e3; have := take_le _ _ _ _ e1; omega
  · simp [Rd.ret] at e2; rw [← e2.2]; exact take_lt (by simp) e1
theorem plusOrMinus_lt : ∀ s x s', plusOrMinus s = some (x, s') → s'.m ≤ s.m ∧ (x.2 = true → s'.m < s.m) := fun s x s' e => by
  refine ⟨plusOrMinus_le _ _ _ e, fun hx => ?_⟩
  unfold plusOrMinus at e
  obtain ⟨c, s1, e1, e2⟩ := bind_some e
  cases c
  · obtain ⟨c, s2, e3, e4⟩ := bind_some e2
    cases c
    · simp [Rd.ret] at e4; rw [← e4.1] at hx; cases hx
    · simp [Rd.ret] at e4; rw [← e4.2]; have := take_lt (by simp) e3; have := take_le _ _ _ _ e1; omega
  · simp [Rd.ret] at e2; rw [← e2.2]; exact take_lt (by simp) e1
theorem times_lt : ∀ s x s', times s = some (x, s') → s'.m ≤ s.m ∧ (x.2 = true → s'.m < s.m) := fun s x s' e => by
  refine ⟨times_le _ _ _ e, fun hx => ?_⟩
  unfold times at e
  obtain ⟨c, s1, e1, e2⟩ := bind_some e
  simp [Rd.ret] at e2
  rw [← e2.1] at hx
  cases hx
  rw [← e2.2]; exact take_lt (by simp) e1
theorem cnt : ∀ n, Cnt n
  | 0 => ⟨fun _ => cn_no, fun _ => cn_no, cn_no, fun _ _ => cn_no, cn_no, fun _ => fun _ _ _ e => by simp [L.either, Rd.no] at e, fun _ => cn_no, fun _ _ => cn_no, fun _ _ _ _ => cn_no, cn_no, cn_no, cn_no, fun _ _ _ => cn_no, cn_no, fun _ _ _ => cn_no, cn_no, cn_no⟩
  | n + 1 => by
    have h := cnt n
    have hl := eats n
    refine ⟨fun t => ?_, fun t => ?_, ?_, fun acc ha => ?_, ?_, fun t => ?_, fun t => ?_, fun t k => ?_, fun t k acc ha => ?_, ?_, ?_, ?_, fun x h1 h2 => ?_, ?_, fun x h1 h2 => ?_, ?_, ?_⟩
    · rw [L.body]; exact cn_ite h.com h.exp
    · rw [L.block]; exact cn_le (want_le _) fun _ => cn_tm (h.body t) fun x hx hf _ => cn_le (want_le _) fun _ => cn_ret' hx hf (by omega)
    · rw [L.com]; exact h.comFrom [] (fun _ ht => by cases ht)
    · rw [L.comFrom]
      refine cn_tm h.step fun x hx _ hr => ?_
      have hall : ∀ t ∈ acc ++ [x], Ok t ∧ isRow t = false := fun t ht => by
        rcases List.mem_append.1 ht with ht | ht
        · exact ha t ht
        · rw [List.mem_singleton.1 ht]; exact ⟨hx, hr rfl⟩
      have hn : nodesL (acc ++ [x]) = nodesL acc + nodes x := by rw [nodesL_append]; simp [nodesL]
      have hlen : (acc ++ [x]).length = acc.length + 1 := by simp
      refine cn_take (by simp) (cn_more (h.comFrom _ hall) (by omega)) ?_
      have hf : ∀ t ∈ acc ++ [x], Flat t := fun t ht => flat_of (hall t ht).2
      have hk : ∀ t ∈ acc ++ [x], Ok t := fun t ht => (hall t ht).1
      have := inRow_nodes hf hk (by simp)
      exact cn_ret' (inRow_ok hf hk (by simp)) (inRow_flat hf) (by omega)
    · rw [L.step]
      refine cn_opt (h.either 0) (fun _ => rfl) ?_
      refine cn_take (by simp) (cn_ret .skip rfl (by simp [nodes])) (cn_take (by simp) ?_ (cn_take (by simp) ?_ (cn_lt getName_lt fun k => cn_take (by simp) ?_ (h.call 0 k))))
      · exact cn_tm h.exp fun x hx _ _ => cn_tm (h.block 0) fun y hy _ _ => cn_ret (.loop _ _ hx hy) rfl (by simp only [nodes]; omega)
      · exact cn_le getName_lt.le fun k => cn_tm (h.block 0) fun y hy _ _ => cn_ret (.labelled _ _ hy) rfl (by simp only [nodes]; omega)
      · exact cn_tm h.exp fun x hx _ _ => cn_ret (.assign _ _ hx) rfl (by simp only [nodes]; omega)
    · rw [L.either]
      refine co_take (A := Rd.ret (.stop t)) (by simp) rfl (le_ret _) (cn_ret (.stop _) rfl (by simp [nodes])) ?_
      refine co_take (A := Rd.ret (.fault t)) (by simp) rfl (le_ret _) (cn_ret (.fault _) rfl (by simp [nodes])) ?_
      refine co_take (A := getName.bind fun k => Rd.ret (.exit t k)) (by simp) (by simp only [rd_bind_assoc, rd_ret_bind]) (le_bind getName_lt.le fun _ => le_ret _) (cn_le getName_lt.le fun _ => cn_ret (.exit _ _) rfl (by simp [nodes])) ?_
      refine co_take (A := (exp n).bind fun x => (block n t).bind fun y => (block n t).bind fun z => Rd.ret (.choice t x y z)) (by simp) (by simp only [rd_bind_assoc, rd_ret_bind]) (le_bind hl.exp.le fun _ => le_bind (hl.block _).le fun _ => le_bind (hl.block _).le fun _ => le_ret _)
        (cn_tm h.exp fun x hx _ _ => cn_tm (h.block t) fun y hy _ _ => cn_tm (h.block t) fun z hz _ _ => cn_ret (.choice _ _ _ _ hx hy hz) rfl (by simp only [nodes]; omega)) ?_
      refine co_take (A := getName.bind fun k => (want [61]).bind fun _ => (exp n).bind fun x => (block n t).bind fun y => Rd.ret (.fresh t k x y)) (by simp) (by simp only [rd_bind_assoc, rd_ret_bind]) (le_bind getName_lt.le fun _ => le_bind (want_le _) fun _ => le_bind hl.exp.le fun _ => le_bind (hl.block _).le fun _ => le_ret _)
        (cn_le getName_lt.le fun k => cn_le (want_le _) fun _ => cn_tm h.exp fun x hx _ _ => cn_tm (h.block t) fun y hy _ _ => cn_ret (.fresh _ _ _ _ hx hy) rfl (by simp only [nodes]; omega)) ?_
      exact co_take (A := proc n t) (by simp) rfl (hl.proc _).le (h.proc t) co_none
    · rw [L.proc]
      exact cn_le getName_lt.le fun _ => cn_le (want_le _) fun _ => cn_le params_le fun _ => cn_le (want_le _) fun _ => cn_le (want_le _) fun _ => cn_le result_le fun _ => cn_tm (h.block _) fun x hx _ _ => cn_tm (h.block _) fun y hy _ _ => cn_ret (.proc _ _ _ _ _ _ hx hy) rfl (by simp only [nodes]; omega)
    · rw [L.call]; exact cn_take (by simp) (cn_more (h.argsFrom _ _ [] (fun _ ht => by cases ht)) (by simp [nodesL])) (cn_ret (.call _ _ _ fun _ ht => by cases ht) rfl (by simp [nodes, nodesL]))
    · rw [L.argsFrom]
      refine cn_tm h.arg fun x hx _ _ => ?_
      have hall : ∀ t ∈ acc ++ [x], Ok t := fun t ht => by
        rcases List.mem_append.1 ht with ht | ht
        · exact ha t ht
        · rw [List.mem_singleton.1 ht]; exact hx
      have hn : nodesL (acc ++ [x]) = nodesL acc + nodes x := by rw [nodesL_append]; simp [nodesL]
      exact cn_take (by simp) (cn_more (h.argsFrom _ _ _ hall) (by omega)) (cn_le (want_le _) fun _ => cn_ite (cn_ret (.call _ _ _ hall) rfl (by simp only [nodes]; omega)) cn_no)
    · rw [L.arg]
      intro s x s' e
      dsimp only at e
      split at e
      · exact h.block 0 s x s' e
      · exact h.exp s x s' e
    · rw [L.exp]
      exact cn_tm h.sum fun x hx hf _ => cn_pair comparison_lt (fun k => cn_tm h.sum fun y hy _ _ => cn_ret (.binary _ _ _ hx hy) rfl (by simp only [nodes]; omega)) (fun k => cn_ret' hx hf (by omega))
    · rw [L.sum]; exact cn_tm h.product fun x hx hf _ => cn_more (h.sumFrom x hx hf) (by omega)
    · rw [L.sumFrom]
      exact cn_pair plusOrMinus_lt (fun k => cn_tm h.product fun y hy _ _ => cn_more (h.sumFrom _ (.binary _ _ _ h1 hy) (flat_of rfl)) (by simp only [nodes]; omega)) (fun k => cn_ret' h1 h2 (by omega))
    · rw [L.product]; exact cn_tm h.atom fun x hx hf _ => cn_more (h.productFrom x hx hf) (by omega)
    · rw [L.productFrom]
      exact cn_pair times_lt (fun k => cn_tm h.atom fun y hy _ _ => cn_more (h.productFrom _ (.binary _ _ _ h1 hy) (flat_of rfl)) (by simp only [nodes]; omega)) (fun k => cn_ret' h1 h2 (by omega))
    · rw [L.atom]
      refine cn_opt (h.either 1) (fun _ => rfl) ?_
      intro s x s' e
      dsimp only at e
      split at e
      · rename_i c hc
        split at e
        · obtain ⟨y, s1, e1, e2⟩ := bind_some e
          simp only [Rd.ret, Option.some.injEq, Prod.mk.injEq] at e2
          obtain ⟨rfl, rfl⟩ := e2
          have := next_m e1
          rw [hc, List.length_singleton] at this
          exact ⟨⟨.num _, flat_of rfl, fun _ => rfl⟩, by simp only [nodes]; omega⟩
        · exact h.atom2 s x s' e
      · exact h.atom2 s x s' e
    · rw [L.atom2]
      exact cn_take (by simp) (cn_tm h.exp fun x hx hf _ => cn_le (want_le _) fun _ => cn_ret' hx hf (by omega)) (cn_take (by simp) (cn_tm (h.block 0) fun x hx _ _ => cn_tm (h.block 1) fun y hy _ _ => cn_ret (.doing _ _ hx hy) rfl (by simp only [nodes]; omega)) (cn_lt getName_lt fun k => cn_any (h.call 1 k)))
theorem declsFrom_ok : ∀ (n : Nat) (acc : List Decl) (s : St) (x : List Decl) (s' : St), declsFrom n acc s = some (x, s') → okDecls x = true
  | 0, _, _, _, _, h => by simp [declsFrom, Rd.no] at h
  | n + 1, acc, s, x, s', h => by
    rw [declsFrom] at h
    obtain ⟨d, s1, _, h⟩ := bind_some h
    obtain ⟨c, s2, _, h⟩ := bind_some h
    split at h
    · exact declsFrom_ok n _ _ _ _ h
    · split at h
      · rename_i hok
        simp only [Rd.ret, Option.some.injEq, Prod.mk.injEq] at h
        rw [← h.1]; exact hok
      · simp [Rd.no] at h
theorem decls_ok {s : St} {x : List Decl} {s' : St} (h : decls s = some (x, s')) : okDecls x = true := by
  unfold decls at h
  split at h
  · simp only [Option.some.injEq, Prod.mk.injEq] at h
    rw [← h.1]; rfl
  · exact declsFrom_ok _ _ _ _ _ h
theorem declsFrom_m : ∀ (n : Nat) (acc : List Decl) (s : St) (x : List Decl) (s' : St), declsFrom n acc s = some (x, s') → s'.m ≤ s.m
  | 0, _, _, _, _, h => by simp [declsFrom, Rd.no] at h
  | n + 1, acc, s, x, s', h => by
    rw [declsFrom] at h
    obtain ⟨d, s1, e1, h⟩ := bind_some h
    obtain ⟨c, s2, e2, h⟩ := bind_some h
    have := decl_lt _ _ _ e1
    have := take_le _ _ _ _ e2
    split at h
    · have := declsFrom_m n _ _ _ _ h; omega
    · split at h
      · simp only [Rd.ret, Option.some.injEq, Prod.mk.injEq] at h
        rw [← h.2]; omega
      · simp [Rd.no] at h
theorem decls_m {s : St} {x : List Decl} {s' : St} (h : decls s = some (x, s')) : s'.m ≤ s.m := by
  unfold decls at h
  split at h
  · simp only [Option.some.injEq, Prod.mk.injEq] at h
    rw [← h.2]; exact Nat.le_refl _
  · exact declsFrom_m _ _ _ _ _ h
theorem parse_good {l : Bytes} {ds : List Decl} {ty : Int} {t : Tm} (h : parse l = some (ds, ty, t)) : Ok t ∧ Flat t ∧ nodes t ≤ 4000 ∧ okDecls ds = true ∧ l.length ≤ 4000 := by
  unfold parse at h
  split at h
  · cases h
  · rename_i hlen
    split at h
    · rename_i y s' hw
      simp only [Option.some.injEq] at h
      subst h
      unfold whole at hw
      obtain ⟨_, s1, e1, hw⟩ := bind_some hw
      obtain ⟨d, s2, e2, hw⟩ := bind_some hw
      obtain ⟨_, s3, e3, hw⟩ := bind_some hw
      obtain ⟨r, s4, e4, hw⟩ := bind_some hw
      obtain ⟨_, s5, e5, hw⟩ := bind_some hw
      obtain ⟨x, s6, e6, hw⟩ := bind_some hw
      obtain ⟨_, s7, e7, hw⟩ := bind_some hw
      simp only [Rd.ret, Option.some.injEq, Prod.mk.injEq] at hw
      obtain ⟨⟨rfl, rfl, rfl⟩, rfl⟩ := hw
      obtain ⟨⟨h1, h2, _⟩, h3⟩ := (cnt _).body _ _ _ _ e6
      have g1 := next_le _ _ _ e1
      have g2 := decls_m e2
      have g3 := want_le _ _ _ _ e3
      have g4 := result_le _ _ _ e4
      have g5 := want_le _ _ _ _ e5
      simp only [St.m, List.length_nil] at *
      exact ⟨h1, h2, by omega, decls_ok e2, by omega⟩
    · cases h
end Go.Proofs.YtpdbkdcdlafobaaGreatDoor.L
end
section
namespace Go.Proofs.YtpdbkdcdlafobaaGreatDoor.L
/-- What is wrong with the name that a node uses. -/
def wrong (bs : List Bnd) : Tm → Int
  | .assign n _ => wrongSort bs n 3
  | .read n => wrongSort bs n 3
  | .exit _ n => wrongSort bs n 4
  | .call of n ts => match look bs n with
    | none => 3
    | some b => if takes b of ts then 0 else 4
  | _ => 0
def isRead : Tm → Bool
  | .read _ => true
  | _ => false
def visCheck : Vst := fun bs t e => (if e = 0 then wrong bs t else e, none)
def visResolve : Vst := fun bs t e => (if e = 0 then wrong bs (meant bs t) else e, if isRead (meant bs t) then some (meant bs t) else none)
theorem visCheck_good : Good 1 visCheck := fun bs t e u h => by simp [visCheck] at h
theorem visResolve_good : Good 1 visResolve := fun bs t e u h => by
  simp only [visResolve] at h
  split at h
  · rename_i hr
    simp only [Option.some.injEq] at h
    subst h
    generalize meant bs t = m at *
    cases m <;> first | exact ⟨.read _, flat_of rfl, by simp [nodes]⟩ | simp [isRead] at hr
  · cases h
/-- What is bound around a term by declarations. -/
def check (ds : List Decl) (t : Tm) : Int := (rd visCheck (ds.map ofDecl) t 0).2
def resolve (ds : List Decl) (t : Tm) : Tm × Int := rd visResolve (ds.map ofDecl) t 0
end Go.Proofs.YtpdbkdcdlafobaaGreatDoor.L
end
section
namespace Go.Proofs.YtpdbkdcdlafobaaGreatDoor
open Go.RowKit
theorem zero_skip (W : World) : (do pure (Value.tuple #[← zeroValue 166, .bool false]) : Sem Value).run Tryz.prog W = .ok (.tuple #[.agg #[], .bool false]) W := by kernel_rfl
theorem assert_skip_yes (W : World) (v : Value) : (Instr.typeAssert (.iface 166 v) 34 166 true).run Tryz.prog W = .ok (.tuple #[v, .bool true]) W := by kernel_rfl
theorem assert_skip_no (W : World) (u : TypeId) (v : Value) (h : u ≠ 166) : (Instr.typeAssert (.iface u v) 34 166 true).run Tryz.prog W = .ok (.tuple #[.agg #[], .bool false]) W := by
  have e : (Instr.typeAssert (.iface u v) 34 166 true).run Tryz.prog W = (if u = 166 then (pure (Value.tuple #[v, .bool true]) : Sem Value) else (do pure (Value.tuple #[← zeroValue 166, .bool false]))).run Tryz.prog W := by kernel_rfl
  rw [e, if_neg h]
  exact zero_skip W
theorem zero_stop (W : World) : (do pure (Value.tuple #[← zeroValue 168, .bool false]) : Sem Value).run Tryz.prog W = .ok (.tuple #[.agg #[.int .i64 0], .bool false]) W := by kernel_rfl
theorem assert_stop_yes (W : World) (v : Value) : (Instr.typeAssert (.iface 168 v) 34 168 true).run Tryz.prog W = .ok (.tuple #[v, .bool true]) W := by kernel_rfl
theorem assert_stop_no (W : World) (u : TypeId) (v : Value) (h : u ≠ 168) : (Instr.typeAssert (.iface u v) 34 168 true).run Tryz.prog W = .ok (.tuple #[.agg #[.int .i64 0], .bool false]) W := by
  have e : (Instr.typeAssert (.iface u v) 34 168 true).run Tryz.prog W = (if u = 168 then (pure (Value.tuple #[v, .bool true]) : Sem Value) else (do pure (Value.tuple #[← zeroValue 168, .bool false]))).run Tryz.prog W := by kernel_rfl
  rw [e, if_neg h]
  exact zero_stop W
theorem zero_fault (W : World) : (do pure (Value.tuple #[← zeroValue 169, .bool false]) : Sem Value).run Tryz.prog W = .ok (.tuple #[.agg #[.int .i64 0], .bool false]) W := by kernel_rfl
theorem assert_fault_yes (W : World) (v : Value) : (Instr.typeAssert (.iface 169 v) 34 169 true).run Tryz.prog W = .ok (.tuple #[v, .bool true]) W := by kernel_rfl
theorem assert_fault_no (W : World) (u : TypeId) (v : Value) (h : u ≠ 169) : (Instr.typeAssert (.iface u v) 34 169 true).run Tryz.prog W = .ok (.tuple #[.agg #[.int .i64 0], .bool false]) W := by
  have e : (Instr.typeAssert (.iface u v) 34 169 true).run Tryz.prog W = (if u = 169 then (pure (Value.tuple #[v, .bool true]) : Sem Value) else (do pure (Value.tuple #[← zeroValue 169, .bool false]))).run Tryz.prog W := by kernel_rfl
  rw [e, if_neg h]
  exact zero_fault W
theorem zero_assign (W : World) : (do pure (Value.tuple #[← zeroValue 116, .bool false]) : Sem Value).run Tryz.prog W = .ok (.tuple #[.agg #[.string ⟨#[]⟩, .nilIface], .bool false]) W := by kernel_rfl
theorem assert_assign_yes (W : World) (v : Value) : (Instr.typeAssert (.iface 116 v) 34 116 true).run Tryz.prog W = .ok (.tuple #[v, .bool true]) W := by kernel_rfl
theorem assert_assign_no (W : World) (u : TypeId) (v : Value) (h : u ≠ 116) : (Instr.typeAssert (.iface u v) 34 116 true).run Tryz.prog W = .ok (.tuple #[.agg #[.string ⟨#[]⟩, .nilIface], .bool false]) W := by
  have e : (Instr.typeAssert (.iface u v) 34 116 true).run Tryz.prog W = (if u = 116 then (pure (Value.tuple #[v, .bool true]) : Sem Value) else (do pure (Value.tuple #[← zeroValue 116, .bool false]))).run Tryz.prog W := by kernel_rfl
  rw [e, if_neg h]
  exact zero_assign W
theorem zero_choice (W : World) : (do pure (Value.tuple #[← zeroValue 118, .bool false]) : Sem Value).run Tryz.prog W = .ok (.tuple #[.agg #[.int .i64 0, .nilIface, .nilIface, .nilIface], .bool false]) W := by kernel_rfl
theorem assert_choice_yes (W : World) (v : Value) : (Instr.typeAssert (.iface 118 v) 34 118 true).run Tryz.prog W = .ok (.tuple #[v, .bool true]) W := by kernel_rfl
theorem assert_choice_no (W : World) (u : TypeId) (v : Value) (h : u ≠ 118) : (Instr.typeAssert (.iface u v) 34 118 true).run Tryz.prog W = .ok (.tuple #[.agg #[.int .i64 0, .nilIface, .nilIface, .nilIface], .bool false]) W := by
  have e : (Instr.typeAssert (.iface u v) 34 118 true).run Tryz.prog W = (if u = 118 then (pure (Value.tuple #[v, .bool true]) : Sem Value) else (do pure (Value.tuple #[← zeroValue 118, .bool false]))).run Tryz.prog W := by kernel_rfl
  rw [e, if_neg h]
  exact zero_choice W
theorem zero_loop (W : World) : (do pure (Value.tuple #[← zeroValue 120, .bool false]) : Sem Value).run Tryz.prog W = .ok (.tuple #[.agg #[.nilIface, .nilIface], .bool false]) W := by kernel_rfl
theorem assert_loop_yes (W : World) (v : Value) : (Instr.typeAssert (.iface 120 v) 34 120 true).run Tryz.prog W = .ok (.tuple #[v, .bool true]) W := by kernel_rfl
theorem assert_loop_no (W : World) (u : TypeId) (v : Value) (h : u ≠ 120) : (Instr.typeAssert (.iface u v) 34 120 true).run Tryz.prog W = .ok (.tuple #[.agg #[.nilIface, .nilIface], .bool false]) W := by
  have e : (Instr.typeAssert (.iface u v) 34 120 true).run Tryz.prog W = (if u = 120 then (pure (Value.tuple #[v, .bool true]) : Sem Value) else (do pure (Value.tuple #[← zeroValue 120, .bool false]))).run Tryz.prog W := by kernel_rfl
  rw [e, if_neg h]
  exact zero_loop W
theorem zero_fresh (W : World) : (do pure (Value.tuple #[← zeroValue 126, .bool false]) : Sem Value).run Tryz.prog W = .ok (.tuple #[.agg #[.int .i64 0, .string ⟨#[]⟩, .nilIface, .nilIface], .bool false]) W := by kernel_rfl
theorem assert_fresh_yes (W : World) (v : Value) : (Instr.typeAssert (.iface 126 v) 34 126 true).run Tryz.prog W = .ok (.tuple #[v, .bool true]) W := by kernel_rfl
theorem assert_fresh_no (W : World) (u : TypeId) (v : Value) (h : u ≠ 126) : (Instr.typeAssert (.iface u v) 34 126 true).run Tryz.prog W = .ok (.tuple #[.agg #[.int .i64 0, .string ⟨#[]⟩, .nilIface, .nilIface], .bool false]) W := by
  have e : (Instr.typeAssert (.iface u v) 34 126 true).run Tryz.prog W = (if u = 126 then (pure (Value.tuple #[v, .bool true]) : Sem Value) else (do pure (Value.tuple #[← zeroValue 126, .bool false]))).run Tryz.prog W := by kernel_rfl
  rw [e, if_neg h]
  exact zero_fresh W
theorem zero_proc (W : World) : (do pure (Value.tuple #[← zeroValue 129, .bool false]) : Sem Value).run Tryz.prog W = .ok (.tuple #[.agg #[.int .i64 0, .string ⟨#[]⟩, .slice none 0 0, .int .i64 0, .nilIface, .nilIface], .bool false]) W := by kernel_rfl
theorem assert_proc_yes (W : World) (v : Value) : (Instr.typeAssert (.iface 129 v) 34 129 true).run Tryz.prog W = .ok (.tuple #[v, .bool true]) W := by kernel_rfl
theorem assert_proc_no (W : World) (u : TypeId) (v : Value) (h : u ≠ 129) : (Instr.typeAssert (.iface u v) 34 129 true).run Tryz.prog W = .ok (.tuple #[.agg #[.int .i64 0, .string ⟨#[]⟩, .slice none 0 0, .int .i64 0, .nilIface, .nilIface], .bool false]) W := by
  have e : (Instr.typeAssert (.iface u v) 34 129 true).run Tryz.prog W = (if u = 129 then (pure (Value.tuple #[v, .bool true]) : Sem Value) else (do pure (Value.tuple #[← zeroValue 129, .bool false]))).run Tryz.prog W := by kernel_rfl
  rw [e, if_neg h]
  exact zero_proc W
theorem zero_num (W : World) : (do pure (Value.tuple #[← zeroValue 175, .bool false]) : Sem Value).run Tryz.prog W = .ok (.tuple #[.agg #[.int .i64 0], .bool false]) W := by kernel_rfl
theorem assert_num_yes (W : World) (v : Value) : (Instr.typeAssert (.iface 175 v) 34 175 true).run Tryz.prog W = .ok (.tuple #[v, .bool true]) W := by kernel_rfl
theorem assert_num_no (W : World) (u : TypeId) (v : Value) (h : u ≠ 175) : (Instr.typeAssert (.iface u v) 34 175 true).run Tryz.prog W = .ok (.tuple #[.agg #[.int .i64 0], .bool false]) W := by
  have e : (Instr.typeAssert (.iface u v) 34 175 true).run Tryz.prog W = (if u = 175 then (pure (Value.tuple #[v, .bool true]) : Sem Value) else (do pure (Value.tuple #[← zeroValue 175, .bool false]))).run Tryz.prog W := by kernel_rfl
  rw [e, if_neg h]
  exact zero_num W
theorem zero_read (W : World) : (do pure (Value.tuple #[← zeroValue 93, .bool false]) : Sem Value).run Tryz.prog W = .ok (.tuple #[.agg #[.string ⟨#[]⟩], .bool false]) W := by kernel_rfl
theorem assert_read_yes (W : World) (v : Value) : (Instr.typeAssert (.iface 93 v) 34 93 true).run Tryz.prog W = .ok (.tuple #[v, .bool true]) W := by kernel_rfl
theorem assert_read_no (W : World) (u : TypeId) (v : Value) (h : u ≠ 93) : (Instr.typeAssert (.iface u v) 34 93 true).run Tryz.prog W = .ok (.tuple #[.agg #[.string ⟨#[]⟩], .bool false]) W := by
  have e : (Instr.typeAssert (.iface u v) 34 93 true).run Tryz.prog W = (if u = 93 then (pure (Value.tuple #[v, .bool true]) : Sem Value) else (do pure (Value.tuple #[← zeroValue 93, .bool false]))).run Tryz.prog W := by kernel_rfl
  rw [e, if_neg h]
  exact zero_read W
theorem zero_binary (W : World) : (do pure (Value.tuple #[← zeroValue 122, .bool false]) : Sem Value).run Tryz.prog W = .ok (.tuple #[.agg #[.int .i64 0, .nilIface, .nilIface], .bool false]) W := by kernel_rfl
theorem assert_binary_yes (W : World) (v : Value) : (Instr.typeAssert (.iface 122 v) 34 122 true).run Tryz.prog W = .ok (.tuple #[v, .bool true]) W := by kernel_rfl
theorem assert_binary_no (W : World) (u : TypeId) (v : Value) (h : u ≠ 122) : (Instr.typeAssert (.iface u v) 34 122 true).run Tryz.prog W = .ok (.tuple #[.agg #[.int .i64 0, .nilIface, .nilIface], .bool false]) W := by
  have e : (Instr.typeAssert (.iface u v) 34 122 true).run Tryz.prog W = (if u = 122 then (pure (Value.tuple #[v, .bool true]) : Sem Value) else (do pure (Value.tuple #[← zeroValue 122, .bool false]))).run Tryz.prog W := by kernel_rfl
  rw [e, if_neg h]
  exact zero_binary W
theorem zero_doing (W : World) : (do pure (Value.tuple #[← zeroValue 124, .bool false]) : Sem Value).run Tryz.prog W = .ok (.tuple #[.agg #[.nilIface, .nilIface], .bool false]) W := by kernel_rfl
theorem assert_doing_yes (W : World) (v : Value) : (Instr.typeAssert (.iface 124 v) 34 124 true).run Tryz.prog W = .ok (.tuple #[v, .bool true]) W := by kernel_rfl
theorem assert_doing_no (W : World) (u : TypeId) (v : Value) (h : u ≠ 124) : (Instr.typeAssert (.iface u v) 34 124 true).run Tryz.prog W = .ok (.tuple #[.agg #[.nilIface, .nilIface], .bool false]) W := by
  have e : (Instr.typeAssert (.iface u v) 34 124 true).run Tryz.prog W = (if u = 124 then (pure (Value.tuple #[v, .bool true]) : Sem Value) else (do pure (Value.tuple #[← zeroValue 124, .bool false]))).run Tryz.prog W := by kernel_rfl
  rw [e, if_neg h]
  exact zero_doing W
theorem zero_labelled (W : World) : (do pure (Value.tuple #[← zeroValue 133, .bool false]) : Sem Value).run Tryz.prog W = .ok (.tuple #[.agg #[.string ⟨#[]⟩, .nilIface], .bool false]) W := by kernel_rfl
theorem assert_labelled_yes (W : World) (v : Value) : (Instr.typeAssert (.iface 133 v) 34 133 true).run Tryz.prog W = .ok (.tuple #[v, .bool true]) W := by kernel_rfl
theorem assert_labelled_no (W : World) (u : TypeId) (v : Value) (h : u ≠ 133) : (Instr.typeAssert (.iface u v) 34 133 true).run Tryz.prog W = .ok (.tuple #[.agg #[.string ⟨#[]⟩, .nilIface], .bool false]) W := by
  have e : (Instr.typeAssert (.iface u v) 34 133 true).run Tryz.prog W = (if u = 133 then (pure (Value.tuple #[v, .bool true]) : Sem Value) else (do pure (Value.tuple #[← zeroValue 133, .bool false]))).run Tryz.prog W := by kernel_rfl
  rw [e, if_neg h]
  exact zero_labelled W
theorem zero_exit (W : World) : (do pure (Value.tuple #[← zeroValue 150, .bool false]) : Sem Value).run Tryz.prog W = .ok (.tuple #[.agg #[.int .i64 0, .string ⟨#[]⟩], .bool false]) W := by kernel_rfl
theorem assert_exit_yes (W : World) (v : Value) : (Instr.typeAssert (.iface 150 v) 34 150 true).run Tryz.prog W = .ok (.tuple #[v, .bool true]) W := by kernel_rfl
theorem assert_exit_no (W : World) (u : TypeId) (v : Value) (h : u ≠ 150) : (Instr.typeAssert (.iface u v) 34 150 true).run Tryz.prog W = .ok (.tuple #[.agg #[.int .i64 0, .string ⟨#[]⟩], .bool false]) W := by
  have e : (Instr.typeAssert (.iface u v) 34 150 true).run Tryz.prog W = (if u = 150 then (pure (Value.tuple #[v, .bool true]) : Sem Value) else (do pure (Value.tuple #[← zeroValue 150, .bool false]))).run Tryz.prog W := by kernel_rfl
  rw [e, if_neg h]
  exact zero_exit W
/-- The type of a term's value. -/
def tyOf : L.Tm → TypeId
  | .skip => 166
  | .stop _ => 168
  | .fault _ => 169
  | .row _ => 111
  | .assign _ _ => 116
  | .choice _ _ _ _ => 118
  | .loop _ _ => 120
  | .fresh _ _ _ _ => 126
  | .call _ _ _ => 106
  | .proc _ _ _ _ _ _ => 129
  | .num _ => 175
  | .read _ => 93
  | .binary _ _ _ => 122
  | .doing _ _ => 124
  | .labelled _ _ => 133
  | .exit _ _ => 150
theorem Rep.ty {w : World} {A : Nat → Prop} : ∀ {t : L.Tm} {v : Value}, Rep w A t v → ∃ cs, v = .iface (tyOf t) (.agg cs)
  | .skip, _, h => ⟨_, h⟩
  | .stop _, _, h => ⟨_, h⟩
  | .fault _, _, h => ⟨_, h⟩
  | .row _, _, ⟨_, _, e, _⟩ => ⟨_, e⟩
  | .assign _ _, _, ⟨_, e, _⟩ => ⟨_, e⟩
  | .choice _ _ _ _, _, ⟨_, _, _, e, _⟩ => ⟨_, e⟩
  | .loop _ _, _, ⟨_, _, e, _⟩ => ⟨_, e⟩
  | .fresh _ _ _ _, _, ⟨_, _, e, _⟩ => ⟨_, e⟩
  | .call _ _ _, _, ⟨_, _, e, _⟩ => ⟨_, e⟩
  | .proc _ _ _ _ _ _, _, ⟨_, _, _, e, _⟩ => ⟨_, e⟩
  | .num _, _, h => ⟨_, h⟩
  | .read _, _, h => ⟨_, h⟩
  | .binary _ _ _, _, ⟨_, _, e, _⟩ => ⟨_, e⟩
  | .doing _ _, _, ⟨_, _, e, _⟩ => ⟨_, e⟩
  | .labelled _ _, _, ⟨_, e, _⟩ => ⟨_, e⟩
  | .exit _ _, _, h => ⟨_, h⟩
end Go.Proofs.YtpdbkdcdlafobaaGreatDoor
end
