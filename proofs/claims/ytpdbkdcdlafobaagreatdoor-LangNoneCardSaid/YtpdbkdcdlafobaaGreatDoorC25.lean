/- What is read has short names and numbers of one digit, so its text is short. The text of what is read is short, so Text serves at it. The closed inputs of awake, and what the plain functions give at them. Contracts of the program's functions, with no condition beyond what each theorem states. -/
import Derived.Test.YtpdbkdcdlafobaaGreatDoorC24
import Derived.Test.YtpdbkdcdlafobaaGreatDoorC23
section
namespace Go.Proofs.YtpdbkdcdlafobaaGreatDoor.L
def okPs (ps : List (Bytes × Int)) : Prop := ps.length ≤ 3 ∧ ∀ p ∈ ps, p.1.length ≤ 8
inductive Nice : Tm → Prop
  | skip : Nice .skip
  | stop (t : Int) : Nice (.stop t)
  | fault (t : Int) : Nice (.fault t)
  | row (ts : List Tm) : (∀ t ∈ ts, Nice t) → Nice (.row ts)
  | assign (n : Bytes) (x : Tm) : n.length ≤ 8 → Nice x → Nice (.assign n x)
  | choice (t : Int) (x y z : Tm) : Nice x → Nice y → Nice z → Nice (.choice t x y z)
  | loop (x y : Tm) : Nice x → Nice y → Nice (.loop x y)
  | fresh (t : Int) (n : Bytes) (x y : Tm) : n.length ≤ 8 → Nice x → Nice y → Nice (.fresh t n x y)
  | call (t : Int) (n : Bytes) (ts : List Tm) : n.length ≤ 8 → (∀ t ∈ ts, Nice t) → Nice (.call t n ts)
  | proc (t : Int) (n : Bytes) (ps : List (Bytes × Int)) (r : Int) (x y : Tm) : n.length ≤ 8 → okPs ps → Nice x → Nice y → Nice (.proc t n ps r x y)
  | num (i : Int) : 0 ≤ i → i < 4 → Nice (.num i)
  | read (n : Bytes) : n.length ≤ 8 → Nice (.read n)
  | binary (k : Int) (x y : Tm) : Nice x → Nice y → Nice (.binary k x y)
  | doing (x y : Tm) : Nice x → Nice y → Nice (.doing x y)
  | labelled (n : Bytes) (x : Tm) : n.length ≤ 8 → Nice x → Nice (.labelled n x)
  | exit (t : Int) (n : Bytes) : n.length ≤ 8 → Nice (.exit t n)
theorem numsL_of : ∀ {l : List Tm}, (∀ t ∈ l, nums t = true) → numsL l = true
  | [], _ => rfl
  | a :: l, h => by rw [numsL, h a (List.mem_cons_self ..), numsL_of fun t ht => h t (List.mem_cons_of_mem _ ht)]; rfl
theorem Nice.nums {t : Tm} (h : Nice t) : nums t = true := by
  induction h with
  | row ts _ ih => rw [L.nums]; exact numsL_of ih
  | call _ _ ts _ _ ih => rw [L.nums]; exact numsL_of ih
  | num i h0 h1 => simp [L.nums, h0, h1]
  | _ => simp [L.nums, *]
theorem stepsOf_nice {t : Tm} (h : Nice t) : ∀ u ∈ stepsOf t, Nice u := by
  cases h with
  | row ts h => exact h
  | _ => intro u hu; simp only [stepsOf, List.mem_singleton] at hu; subst hu; constructor <;> assumption
theorem inRow_nice {l : List Tm} (h : ∀ t ∈ l, Nice t) : Nice (inRow l) := by
  have hf : ∀ u ∈ l.flatMap stepsOf, Nice u := fun u hu => by
    obtain ⟨t, ht, hu⟩ := List.mem_flatMap.1 hu
    exact stepsOf_nice (h t ht) u hu
  unfold inRow
  split
  · rename_i t ht
    exact hf t (by rw [ht]; exact List.mem_singleton.2 rfl)
  · exact .row _ hf
/-- What a way of reading gives. -/
def Pn (r : Rd Tm) : Prop := ∀ s x s', r s = some (x, s') → Nice x
def Po (r : Rd (Option Tm)) : Prop := ∀ s x s', r s = some (some x, s') → Nice x
section
variable {α : Type}
theorem pn_no : Pn Rd.no := fun _ _ _ e => by simp [Rd.no] at e
theorem pn_ret {t : Tm} (h : Nice t) : Pn (Rd.ret t) := fun s x s' e => by
  simp only [Rd.ret, Option.some.injEq, Prod.mk.injEq] at e
  obtain ⟨rfl, rfl⟩ := e
  exact h
theorem pn_any {m : Rd α} {f : α → Rd Tm} (hf : ∀ x, Pn (f x)) : Pn (m.bind f) := fun s y s' e => by
  obtain ⟨x, s1, _, e2⟩ := bind_some e
  exact hf x _ _ _ e2
theorem pn_tm {m : Rd Tm} {f : Tm → Rd Tm} (hm : Pn m) (hf : ∀ x, Nice x → Pn (f x)) : Pn (m.bind f) := fun s y s' e => by
  obtain ⟨x, s1, e1, e2⟩ := bind_some e
  exact hf x (hm _ _ _ e1) _ _ _ e2
theorem pn_of {m : Rd α} {Q : α → Prop} {f : α → Rd Tm} (hm : ∀ s x s', m s = some (x, s') → Q x) (hf : ∀ x, Q x → Pn (f x)) : Pn (m.bind f) := fun s y s' e => by
  obtain ⟨x, s1, e1, e2⟩ := bind_some e
  exact hf x (hm _ _ _ e1) _ _ _ e2
theorem pn_ite {c : Prop} [Decidable c] {A B : Rd Tm} (hA : Pn A) (hB : Pn B) : Pn (if c then A else B) := by split <;> assumption
theorem pn_opt {m : Rd (Option Tm)} {f : Option Tm → Rd Tm} (hm : Po m) (hs : ∀ x, f (some x) = Rd.ret x) (hn : Pn (f none)) : Pn (m.bind f) := fun s y s' e => by
  obtain ⟨x, s1, e1, e2⟩ := bind_some e
  cases x with
  | none => exact hn _ _ _ e2
  | some x =>
    rw [hs] at e2
    simp only [Rd.ret, Option.some.injEq, Prod.mk.injEq] at e2
    obtain ⟨rfl, rfl⟩ := e2
    exact hm _ _ _ e1
theorem po_take {p : Bytes} {A : Rd Tm} {A' B : Rd (Option Tm)} (he : A' = A.bind fun x => Rd.ret (some x)) (hA : Pn A) (hB : Po B) : Po ((take p).bind fun c => if c then A' else B) := fun s y s' e => by
  obtain ⟨c, s1, e1, e2⟩ := bind_some e
  cases c
  · exact hB _ _ _ e2
  · simp only [if_true, he] at e2
    obtain ⟨x, s2, e3, e4⟩ := bind_some e2
    simp only [Rd.ret, Option.some.injEq, Prod.mk.injEq] at e4
    obtain ⟨rfl, rfl⟩ := e4
    exact hA _ _ _ e3
theorem po_none : Po (Rd.ret none) := fun s y s' e => by simp [Rd.ret] at e
end
theorem name_len {l : Bytes} (h : name l = true) : l.length ≤ 8 := by
  simp only [name, Bool.and_eq_true, decide_eq_true_eq] at h
  exact h.1.1.2
theorem getName_len : ∀ s x s', getName s = some (x, s') → x.length ≤ 8 := fun s x s' h => by
  unfold getName at h
  split at h
  · rename_i hn
    obtain ⟨_, s1, _, e⟩ := bind_some h
    simp only [Rd.ret, Option.some.injEq, Prod.mk.injEq] at e
    rw [← e.1]; exact name_len hn
  · cases h
theorem okParamsFrom_len : ∀ (l : List (Bytes × Int)) (seen : List Bytes), okParamsFrom seen l = true → ∀ p ∈ l, p.1.length ≤ 8
  | [], _, _ => fun p hp => by cases hp
  | (n, t) :: l, seen, h => by
    simp only [okParamsFrom, Bool.and_eq_true] at h
    intro p hp
    rcases List.mem_cons.1 hp with rfl | hp
    · exact name_len h.1.1.1
    · exact okParamsFrom_len l _ h.2 p hp
theorem okParams_ok {l : List (Bytes × Int)} (h : okParams l = true) : okPs l := by
  simp only [okParams, Bool.and_eq_true, decide_eq_true_eq] at h
  exact ⟨h.1, okParamsFrom_len _ _ h.2⟩
theorem paramsFrom_ok : ∀ (n : Nat) (acc : List (Bytes × Int)) (s : St) (x : List (Bytes × Int)) (s' : St), paramsFrom n acc s = some (x, s') → okPs x
  | 0, _, _, _, _, h => by simp [paramsFrom, Rd.no] at h
  | n + 1, acc, s, x, s', h => by
    rw [paramsFrom] at h
    obtain ⟨_, _, _, h⟩ := bind_some h
    obtain ⟨_, _, _, h⟩ := bind_some h
    obtain ⟨_, _, _, h⟩ := bind_some h
    obtain ⟨_, _, _, h⟩ := bind_some h
    split at h
    · exact paramsFrom_ok n _ _ _ _ h
    · split at h
      · rename_i hok
        simp only [Rd.ret, Option.some.injEq, Prod.mk.injEq] at h
        rw [← h.1]; exact okParams_ok hok
      · simp [Rd.no] at h
theorem params_ok : ∀ s x s', params s = some (x, s') → okPs x := fun s x s' h => by
  unfold params at h
  split at h
  · simp only [Option.some.injEq, Prod.mk.injEq] at h
    rw [← h.1]; exact ⟨by simp, fun p hp => by cases hp⟩
  · exact paramsFrom_ok _ _ _ _ _ h
structure Nic (n : Nat) : Prop where
  body : ∀ t, Pn (body n t)
  block : ∀ t, Pn (block n t)
  com : Pn (com n)
  comFrom : ∀ acc, (∀ t ∈ acc, Nice t) → Pn (comFrom n acc)
  step : Pn (step n)
  either : ∀ t, Po (either n t)
  proc : ∀ t, Pn (proc n t)
  call : ∀ t k, k.length ≤ 8 → Pn (call n t k)
  argsFrom : ∀ t k acc, k.length ≤ 8 → (∀ t ∈ acc, Nice t) → Pn (argsFrom n t k acc)
  arg : Pn (arg n)
  exp : Pn (exp n)
  sum : Pn (sum n)
  sumFrom : ∀ x, Nice x → Pn (sumFrom n x)
  product : Pn (product n)
  productFrom : ∀ x, Nice x → Pn (productFrom n x)
  atom : Pn (atom n)
  atom2 : Pn (atom2 n)
theorem nice_snoc {acc : List Tm} {x : Tm} (ha : ∀ t ∈ acc, Nice t) (hx : Nice x) : ∀ t ∈ acc ++ [x], Nice t := fun t ht => by
  rcases List.mem_append.1 ht with ht | ht
  · exact ha t ht
  · rw [List.mem_singleton.1 ht]; exact hx
theorem nic : ∀ n, Nic n
  | 0 => ⟨fun _ => pn_no, fun _ => pn_no, pn_no, fun _ _ => pn_no, pn_no, fun _ => fun _ _ _ e => by simp [L.either, Rd.no] at e, fun _ => pn_no, fun _ _ _ => pn_no, fun _ _ _ _ _ => pn_no, pn_no, pn_no, pn_no, fun _ _ => pn_no, pn_no, fun _ _ => pn_no, pn_no, pn_no⟩
  | n + 1 => by
    have h := nic n
    refine ⟨fun t => ?_, fun t => ?_, ?_, fun acc ha => ?_, ?_, fun t => ?_, fun t => ?_, fun t k hk => ?_, fun t k acc hk ha => ?_, ?_, ?_, ?_, fun x h1 => ?_, ?_, fun x h1 => ?_, ?_, ?_⟩
    · rw [L.body]; exact pn_ite h.com h.exp
    · rw [L.block]; exact pn_any fun _ => pn_tm (h.body t) fun x hx => pn_any fun _ => pn_ret hx
    · rw [L.com]; exact h.comFrom [] (fun _ ht => by cases ht)
    · rw [L.comFrom]; exact pn_tm h.step fun x hx => pn_any fun _ => pn_ite (h.comFrom _ (nice_snoc ha hx)) (pn_ret (inRow_nice (nice_snoc ha hx)))
    · rw [L.step]
      refine pn_opt (h.either 0) (fun _ => rfl) ?_
      refine pn_any fun _ => pn_ite (pn_ret .skip) (pn_any fun _ => pn_ite ?_ (pn_any fun _ => pn_ite ?_ (pn_of getName_len fun k hk => pn_any fun _ => pn_ite ?_ (h.call 0 k hk))))
      · exact pn_tm h.exp fun x hx => pn_tm (h.block 0) fun y hy => pn_ret (.loop _ _ hx hy)
      · exact pn_of getName_len fun k hk => pn_tm (h.block 0) fun y hy => pn_ret (.labelled _ _ hk hy)
      · exact pn_tm h.exp fun x hx => pn_ret (.assign _ _ hk hx)
    · rw [L.either]
      refine po_take (A := Rd.ret (.stop t)) rfl (pn_ret (.stop _)) ?_
      refine po_take (A := Rd.ret (.fault t)) rfl (pn_ret (.fault _)) ?_
      refine po_take (A := getName.bind fun k => Rd.ret (.exit t k)) (by simp only [rd_bind_assoc, rd_ret_bind]) (pn_of getName_len fun _ hk => pn_ret (.exit _ _ hk)) ?_
      refine po_take (A := (exp n).bind fun x => (block n t).bind fun y => (block n t).bind fun z => Rd.ret (.choice t x y z)) (by simp only [rd_bind_assoc, rd_ret_bind])
        (pn_tm h.exp fun x hx => pn_tm (h.block t) fun y hy => pn_tm (h.block t) fun z hz => pn_ret (.choice _ _ _ _ hx hy hz)) ?_
      refine po_take (A := getName.bind fun k => (want [61]).bind fun _ => (exp n).bind fun x => (block n t).bind fun y => Rd.ret (.fresh t k x y)) (by simp only [rd_bind_assoc, rd_ret_bind])
        (pn_of getName_len fun k hk => pn_any fun _ => pn_tm h.exp fun x hx => pn_tm (h.block t) fun y hy => pn_ret (.fresh _ _ _ _ hk hx hy)) ?_
      exact po_take (A := proc n t) rfl (h.proc t) po_none
    · rw [L.proc]
      exact pn_of getName_len fun _ hk => pn_any fun _ => pn_of params_ok fun ps hp => pn_any fun _ => pn_any fun _ => pn_any fun _ => pn_tm (h.block _) fun x hx => pn_tm (h.block _) fun y hy => pn_ret (.proc _ _ _ _ _ _ hk hp hx hy)
    · rw [L.call]; exact pn_any fun _ => pn_ite (h.argsFrom _ _ [] hk (fun _ ht => by cases ht)) (pn_ret (.call _ _ _ hk fun _ ht => by cases ht))
    · rw [L.argsFrom]
      exact pn_tm h.arg fun x hx => pn_any fun _ => pn_ite (h.argsFrom _ _ _ hk (nice_snoc ha hx)) (pn_any fun _ => pn_ite (pn_ret (.call _ _ _ hk (nice_snoc ha hx))) pn_no)
    · rw [L.arg]
      intro s x s' e
      dsimp only at e
      split at e
      · exact h.block 0 s x s' e
      · exact h.exp s x s' e
    · rw [L.exp]
      exact pn_tm h.sum fun x hx => pn_any fun _ => pn_ite (pn_tm h.sum fun y hy => pn_ret (.binary _ _ _ hx hy)) (pn_ret hx)
    · rw [L.sum]; exact pn_tm h.product fun x hx => h.sumFrom x hx
    · rw [L.sumFrom]
      exact pn_any fun _ => pn_ite (pn_tm h.product fun y hy => h.sumFrom _ (.binary _ _ _ h1 hy)) (pn_ret h1)
    · rw [L.product]; exact pn_tm h.atom fun x hx => h.productFrom x hx
    · rw [L.productFrom]
      exact pn_any fun _ => pn_ite (pn_tm h.atom fun y hy => h.productFrom _ (.binary _ _ _ h1 hy)) (pn_ret h1)
    · rw [L.atom]
      refine pn_opt (h.either 1) (fun _ => rfl) ?_
      intro s x s' e
      dsimp only at e
      split at e
      · rename_i c hc
        split at e
        · rename_i hd
          obtain ⟨y, s1, e1, e2⟩ := bind_some e
          simp only [Rd.ret, Option.some.injEq, Prod.mk.injEq] at e2
          obtain ⟨rfl, rfl⟩ := e2
          simp only [Bool.and_eq_true, decide_eq_true_eq] at hd
          have h48 : 48 ≤ c.toNat := by have := hd.1; simpa [UInt8.le_iff_toNat_le] using this
          have h52 : c.toNat < 52 := by have := hd.2; simpa [UInt8.lt_iff_toNat_lt] using this
          exact .num _ (by omega) (by omega)
        · exact h.atom2 s x s' e
      · exact h.atom2 s x s' e
    · rw [L.atom2]
      exact pn_any fun _ => pn_ite (pn_tm h.exp fun x hx => pn_any fun _ => pn_ret hx) (pn_any fun _ => pn_ite (pn_tm (h.block 0) fun x hx => pn_tm (h.block 1) fun y hy => pn_ret (.doing _ _ hx hy)) (pn_of getName_len fun k hk => h.call 1 k hk))
theorem okDeclsFrom_len : ∀ (l : List Decl) (seen : List Bytes), okDeclsFrom seen l = true → ∀ d ∈ l, d.name.length ≤ 8
  | [], _, _ => fun d hd => by cases hd
  | d :: l, seen, h => by
    simp only [okDeclsFrom, Bool.and_eq_true] at h
    intro e he
    rcases List.mem_cons.1 he with rfl | he
    · exact name_len h.1.1.1.1.1
    · exact okDeclsFrom_len l _ h.2 e he
theorem parse_nice {l : Bytes} {ds : List Decl} {ty : Int} {t : Tm} (h : parse l = some (ds, ty, t)) : Nice t ∧ ∀ d ∈ ds, d.name.length ≤ 8 := by
  have hod := (parse_good h).2.2.2.1
  unfold parse at h
  split at h
  · cases h
  · split at h
    · rename_i y s' hw
      simp only [Option.some.injEq] at h
      subst h
      unfold whole at hw
      obtain ⟨_, s1, e1, hw⟩ := bind_some hw
      obtain ⟨d, s2, e2, hw⟩ := bind_some hw
      obtain ⟨_, s3, e3, hw⟩ := bind_some hw
      obtain ⟨r, s4, e4, hw⟩ := bind_some hw
      obtain ⟨_, s5, e5, hw⟩ := bind_some hw
      obtain ⟨x, s6, e6, hw⟩ := bind_some hw
      obtain ⟨_, s7, e7, hw⟩ := bind_some hw
      simp only [Rd.ret, Option.some.injEq, Prod.mk.injEq] at hw
      obtain ⟨⟨rfl, rfl, rfl⟩, rfl⟩ := hw
      refine ⟨(nic _).body _ _ _ _ e6, ?_⟩
      simp only [okDecls, Bool.and_eq_true] at hod
      exact okDeclsFrom_len _ _ hod.2
    · cases h
/-- What stands in a node's place is as terms are. -/
def GoodN (V : Vst) : Prop := ∀ bs t e u, Nice t → (V bs t e).2 = some u → Nice u
theorem at_nice {V : Vst} (hV : GoodN V) {bs : List Bnd} {t : Tm} {e : Int} {f : Int → Tm × Int} (ht : Nice t) (hf : ∀ e, Nice (f e).1) : Nice (at_ V bs t e f).1 := by
  unfold at_
  split
  · rename_i u h; exact hV bs t e _ ht (by rw [h])
  · exact hf _
theorem rd_nice {V : Vst} (hV : GoodN V) {t : Tm} (h : Nice t) : ∀ (bs : List Bnd) (e : Int), Nice (rd V bs t e).1 := by
  have hL : ∀ (ts : List Tm) (bs : List Bnd), (∀ t ∈ ts, ∀ (bs : List Bnd) (e : Int), Nice (rd V bs t e).1) → ∀ e, ∀ u ∈ (rdL V bs ts e).1, Nice u := by
    intro ts bs
    induction ts with
    | nil => intro _ e u hu; simp [rdL] at hu
    | cons t ts ih =>
      intro h e u hu
      rw [rdL] at hu
      rcases List.mem_cons.1 hu with rfl | hu
      · exact h t (List.mem_cons_self ..) bs e
      · exact ih (fun t ht => h t (List.mem_cons_of_mem _ ht)) _ u hu
  induction h with
  | skip => intro bs e; rw [rd]; exact at_nice hV .skip fun _ => .skip
  | stop t => intro bs e; rw [rd]; exact at_nice hV (.stop t) fun _ => .stop t
  | fault t => intro bs e; rw [rd]; exact at_nice hV (.fault t) fun _ => .fault t
  | row ts _ ih => intro bs e; rw [rd]; exact inRow_nice (hL ts bs ih e)
  | assign n x hn hx ih => intro bs e; rw [rd]; exact at_nice hV (.assign n x hn hx) fun _ => .assign _ _ hn (ih _ _)
  | choice t x y z hx hy hz ix iy iz => intro bs e; rw [rd]; exact at_nice hV (.choice t x y z hx hy hz) fun _ => .choice _ _ _ _ (ix _ _) (iy _ _) (iz _ _)
  | loop x y hx hy ix iy => intro bs e; rw [rd]; exact at_nice hV (.loop x y hx hy) fun _ => .loop _ _ (ix _ _) (iy _ _)
  | fresh t n x y hn hx hy ix iy => intro bs e; rw [rd]; exact at_nice hV (.fresh t n x y hn hx hy) fun _ => .fresh _ _ _ _ hn (ix _ _) (iy _ _)
  | call t n ts hn hts ih => intro bs e; rw [rd]; exact at_nice hV (.call t n ts hn hts) fun _ => .call _ _ _ hn (hL ts bs ih _)
  | proc t n ps r x y hn hp hx hy ix iy => intro bs e; rw [rd]; exact at_nice hV (.proc t n ps r x y hn hp hx hy) fun _ => .proc _ _ _ _ _ _ hn hp (ix _ _) (iy _ _)
  | num i h0 h1 => intro bs e; rw [rd]; exact at_nice hV (.num i h0 h1) fun _ => .num i h0 h1
  | read n hn => intro bs e; rw [rd]; exact at_nice hV (.read n hn) fun _ => .read n hn
  | binary k x y hx hy ix iy => intro bs e; rw [rd]; exact at_nice hV (.binary k x y hx hy) fun _ => .binary _ _ _ (ix _ _) (iy _ _)
  | doing x y hx hy ix iy => intro bs e; rw [rd]; exact at_nice hV (.doing x y hx hy) fun _ => .doing _ _ (ix _ _) (iy _ _)
  | labelled n x hn hx ih => intro bs e; rw [rd]; exact at_nice hV (.labelled n x hn hx) fun _ => .labelled _ _ hn (ih _ _)
  | exit t n hn => intro bs e; rw [rd]; exact at_nice hV (.exit t n hn) fun _ => .exit t n hn
theorem meant_nice {bs : List Bnd} {t : Tm} (h : Nice t) : Nice (meant bs t) := by
  unfold meant
  split
  · rename_i of nm
    cases h with
    | call _ _ _ hn hts => split; exact .read _ hn; exact .call _ _ _ hn hts
  · exact h
theorem visResolve_nice : GoodN visResolve := fun bs t e u ht h => by
  simp only [visResolve] at h
  split at h
  · simp only [Option.some.injEq] at h
    rw [← h]; exact meant_nice ht
  · cases h
theorem visFill_nice {P : Piece} (hP : Nice P.root) : GoodN (visFill P) := fun bs t e u _ h => by
  unfold visFill at h
  split at h
  · simp only [Option.some.injEq] at h
    rw [← h]; exact hP
  · cases h
end Go.Proofs.YtpdbkdcdlafobaaGreatDoor.L
end
section
namespace Go.Proofs.YtpdbkdcdlafobaaGreatDoor
namespace L
theorem typeWord_len (t : Int) : (typeWord t).length = 3 := by unfold typeWord; split; rfl; split <;> rfl
theorem joinC_len {B : Nat} : ∀ {l : List Bytes}, (∀ x ∈ l, x.length ≤ B) → (joinC l).length ≤ l.length * (B + 2)
  | [], _ => by simp [joinC]
  | [x], h => by have := h x (List.mem_singleton.2 rfl); simp only [joinC, List.length_singleton]; omega
  | x :: y :: l, h => by
    have h1 := h x (List.mem_cons_self ..)
    have h2 := joinC_len (l := y :: l) fun z hz => h z (List.mem_cons_of_mem _ hz)
    simp only [joinC, List.length_append, List.length_cons, List.length_nil] at h2 ⊢
    rw [Nat.add_mul (l.length + 1) 1]
    omega
theorem brack_len (t : Tm) (x : Bytes) : (brack t x).length = x.length + 4 := by
  unfold brack; split <;> simp <;> omega
theorem paren_len (t : Tm) (k : Int) (x : Bytes) : (paren t k x).length ≤ x.length + 2 := by
  unfold paren; split
  · split <;> simp <;> omega
  · omega
theorem txParams_len {ps : List (Bytes × Int)} (h : okPs ps) : (txParams ps).length ≤ 48 := by
  unfold txParams
  have := joinC_len (B := 14) (l := ps.map fun p => p.1 ++ ([32, 58, 32] ++ typeWord p.2)) (by
    intro x hx
    obtain ⟨p, hp, rfl⟩ := List.mem_map.1 hx
    have := h.2 p hp
    simp [typeWord_len]; omega)
  have h3 := h.1
  rw [List.length_map] at this
  omega
theorem txRow'_len : ∀ {ts : List Tm}, (∀ t ∈ ts, (tx t).length + 8 ≤ 120 * nodes t) → (txRow' ts).length + 6 * ts.length ≤ 120 * nodesL ts
  | [], _ => by simp [txRow', nodesL]
  | t :: ts, h => by
    have h1 := h t (List.mem_cons_self ..)
    have h2 := txRow'_len fun u hu => h u (List.mem_cons_of_mem _ hu)
    simp only [txRow', nodesL, List.length_append, List.length_cons, List.length_nil] at *
    omega
theorem txArgs'_len : ∀ {ts : List Tm}, (∀ t ∈ ts, (tx t).length + 8 ≤ 120 * nodes t) → (txArgs' ts).length + 2 * ts.length ≤ 120 * nodesL ts
  | [], _ => by simp [txArgs', nodesL]
  | t :: ts, h => by
    have h1 := h t (List.mem_cons_self ..)
    have h2 := txArgs'_len fun u hu => h u (List.mem_cons_of_mem _ hu)
    have h3 : (if typeOf t = 0 then brack t (tx t) else tx t).length ≤ (tx t).length + 4 := by split; rw [brack_len]; exact Nat.le_refl _; omega
    simp only [txArgs', nodesL, List.length_append, List.length_cons, List.length_nil] at *
    omega
theorem txArgs_len : ∀ {ts : List Tm}, (∀ t ∈ ts, (tx t).length + 8 ≤ 120 * nodes t) → (txArgs ts).length ≤ 120 * nodesL ts
  | [], _ => by simp [txArgs]
  | t :: ts, h => by
    have h1 := h t (List.mem_cons_self ..)
    have h2 := txArgs'_len (ts := ts) fun u hu => h u (List.mem_cons_of_mem _ hu)
    have h3 : (if typeOf t = 0 then brack t (tx t) else tx t).length ≤ (tx t).length + 4 := by split; rw [brack_len]; exact Nat.le_refl _; omega
    simp only [txArgs, nodesL, List.length_append] at *
    omega
theorem tx_len {t : Tm} (h : Nice t) : Ok t → (tx t).length + 8 ≤ 120 * nodes t := by
  induction h with
  | row ts _ ih =>
    intro ho
    cases ho with
    | row _ h2 hk =>
      match ts, h2 with
      | a :: ts, h2 =>
        have ha := ih a (List.mem_cons_self ..) (hk a (List.mem_cons_self ..))
        have hr := txRow'_len (ts := ts) fun u hu => ih u (List.mem_cons_of_mem _ hu) (hk u (List.mem_cons_of_mem _ hu))
        simp only [tx, txRow, nodes, nodesL, List.length_append, List.length_cons] at *
        omega
  | assign n x hn hx ih => intro ho; cases ho with | assign _ _ h1 => have := ih h1; simp only [tx, nodes, List.length_append, List.length_cons, List.length_nil] at *; omega
  | choice t x y z hx hy hz ix iy iz =>
    intro ho; cases ho with | choice _ _ _ _ h1 h2 h3 => have := ix h1; have := iy h2; have := iz h3; simp only [tx, nodes, brack_len, List.length_append, List.length_cons, List.length_nil] at *; omega
  | loop x y hx hy ix iy => intro ho; cases ho with | loop _ _ h1 h2 => have := ix h1; have := iy h2; simp only [tx, nodes, brack_len, List.length_append, List.length_cons, List.length_nil] at *; omega
  | fresh t n x y hn hx hy ix iy => intro ho; cases ho with | fresh _ _ _ _ h1 h2 => have := ix h1; have := iy h2; simp only [tx, nodes, brack_len, List.length_append, List.length_cons, List.length_nil] at *; omega
  | call t n ts hn hts ih =>
    intro ho
    cases ho with
    | call _ _ _ hk =>
      have hr := txArgs_len (ts := ts) fun u hu => ih u hu (hk u hu)
      have h3 : (if ts.length = 0 then [] else [40] ++ (txArgs ts ++ [41])).length ≤ (txArgs ts).length + 2 := by split; simp; simp
      simp only [tx, nodes, List.length_append] at *
      omega
  | proc t n ps r x y hn hp hx hy ix iy =>
    intro ho; cases ho with | proc _ _ _ _ _ _ h1 h2 => have := ix h1; have := iy h2; have := txParams_len hp; simp only [tx, nodes, brack_len, typeWord_len, List.length_append, List.length_cons, List.length_nil] at *; omega
  | binary k x y hx hy ix iy =>
    intro ho
    cases ho with
    | binary _ _ _ h1 h2 =>
      have := ix h1
      have := iy h2
      have p1 := paren_len x (if rank k = 0 then 1 else rank k) (tx x)
      have p2 := paren_len y (rank k + 1) (tx y)
      have p3 : (mark k).length ≤ 2 := by unfold mark; split; decide; split; decide; split; decide; split <;> decide
      simp only [tx, nodes, List.length_append, List.length_cons] at *
      omega
  | doing x y hx hy ix iy => intro ho; cases ho with | doing _ _ h1 h2 => have := ix h1; have := iy h2; simp only [tx, nodes, brack_len, List.length_append, List.length_cons, List.length_nil] at *; omega
  | labelled n x hn hx ih => intro ho; cases ho with | labelled _ _ h1 => have := ih h1; simp only [tx, nodes, brack_len, List.length_append, List.length_cons, List.length_nil] at *; omega
  | _ => intro _; simp only [tx, nodes, List.length_append, List.length_cons, List.length_nil] at *; omega
theorem joinD_len {ds : List Decl} (hn : ∀ d ∈ ds, d.name.length ≤ 8) (ha : ∀ d ∈ ds, d.args.length ≤ 3) : (joinD ds).length ≤ ds.length * 33 := by
  unfold joinD
  have := joinC_len (B := 31) (l := ds.map txDecl) (by
    intro x hx
    obtain ⟨d, hd, rfl⟩ := List.mem_map.1 hx
    have h1 := hn d hd
    have h2 := ha d hd
    have h3 := joinC_len (B := 3) (l := d.args.map typeWord) (by
      intro x hx
      obtain ⟨t, _, rfl⟩ := List.mem_map.1 hx
      rw [typeWord_len]; exact Nat.le_refl _)
    rw [List.length_map] at h3
    have h4 : (if d.args.length = 0 then [] else [40] ++ (joinC (d.args.map typeWord) ++ [41])).length ≤ (joinC (d.args.map typeWord)).length + 2 := by split; simp; simp
    simp only [txDecl, List.length_append, List.length_cons, List.length_nil, typeWord_len] at *
    omega)
  rw [List.length_map] at this
  exact this
/-- What is known of a piece that Read or Fill hands back. -/
structure Fit (P : Piece) : Prop where
  ok : Ok P.root
  flat : Flat P.root
  nice : Nice P.root
  nodes : nodes P.root ≤ 600
  levels : levels P.root ≤ 60
  decls : P.decls.length ≤ 4
  names : Names P.decls
  lens : ∀ d ∈ P.decls, d.name.length ≤ 8
  args : ∀ d ∈ P.decls, d.args.length ≤ 3
theorem newPiece_fit {ds : List Decl} {ty e : Int} {t : Tm} {P : Piece} (h : newPiece ds ty t = (e, some P)) (ho : Ok t) (hf : Flat t) (hN : Nice t) (h4 : ds.length ≤ 4) (hn : Names ds) (hl : ∀ d ∈ ds, d.name.length ≤ 8) (ha : ∀ d ∈ ds, d.args.length ≤ 3) : Fit P := by
  unfold newPiece at h
  split at h
  · simp at h
  · rename_i hc
    simp only [Prod.mk.injEq, Option.some.injEq] at h
    obtain ⟨_, rfl⟩ := h
    have hp := sortD_perm ds
    exact ⟨ho, hf, hN, by dsimp only; omega, by dsimp only; omega, by dsimp only; rw [hp.length_eq]; exact h4, (hp.map _).nodup_iff.2 hn, fun d hd => hl d (hp.mem_iff.1 hd), fun d hd => ha d (hp.mem_iff.1 hd)⟩
theorem readText_fit {l : Bytes} {e : Int} {P : Piece} (h : readText l = (e, some P)) : Fit P := by
  unfold readText at h
  split at h
  · simp at h
  · rename_i ds ty t hp
    split at h
    · simp at h
    · obtain ⟨hok, hfl, hnd, hod, _⟩ := parse_good hp
      obtain ⟨hN, hl⟩ := parse_nice hp
      obtain ⟨hn, h4, ha⟩ := okDecls_all hod
      have hf := rd_fine (P := 1) (Nat.le_refl _) visResolve_good hok (ds.map ofDecl) 0
      exact newPiece_fit h hf.1 hf.2.1 (rd_nice visResolve_nice hN _ _) h4 hn hl ha
theorem fill_fit {C P Q : Piece} {e : Int} (hC : Fit C) (hP : Fit P) (h : fill C P = (e, some Q)) : Fit Q := by
  unfold fill at h
  split at h
  · simp at h
  · split at h
    · simp at h
    · split at h
      · simp at h
      · have hG : Good 600 (visFill P) := fun bs t e u hu => by
          unfold visFill at hu
          split at hu
          · dsimp only at hu
            injection hu with hu
            subst hu
            exact ⟨hP.ok, hP.flat, hP.nodes⟩
          · exact absurd hu (by simp)
        have hf := rd_fine (P := 600) (by omega) hG hC.ok (holed (holeAt C.decls).toNat (C.decls.map ofDecl)) 0
        have hs : ∀ d, d ∈ C.decls.take (holeAt C.decls).toNat ++ C.decls.drop ((holeAt C.decls).toNat + 1) → d ∈ C.decls := fun d hd => by
          rcases List.mem_append.1 hd with hd | hd
          · exact List.mem_of_mem_take hd
          · exact List.mem_of_mem_drop hd
        refine newPiece_fit h hf.1 hf.2.1 (rd_nice (visFill_nice hP.nice) hC.nice _ _) ?_ ?_ (fun d hd => hC.lens d (hs d hd)) (fun d hd => hC.args d (hs d hd))
        · have := hC.decls
          simp only [List.length_append, List.length_take, List.length_drop]
          omega
        · have hsub : (C.decls.take (holeAt C.decls).toNat ++ C.decls.drop ((holeAt C.decls).toNat + 1)).Sublist C.decls := by
            have h1 : (C.decls.drop ((holeAt C.decls).toNat + 1)).Sublist (C.decls.drop (holeAt C.decls).toNat) := by
              rw [← List.drop_drop]; exact List.drop_sublist _ _
            have h2 := (List.Sublist.refl (C.decls.take (holeAt C.decls).toNat)).append h1
            rwa [List.take_append_drop] at h2
          exact List.Sublist.nodup (List.Sublist.map (fun d : Decl => d.name) hsub) hC.names
end L
theorem L.Fit.tame {P : L.Piece} (h : L.Fit P) : Tame P := by
  refine ⟨h.nice.nums, by have := h.decls; omega, fun d hd => by have := h.args d hd; omega, ?_⟩
  have h1 := L.joinD_len h.lens h.args
  have h2 := L.tx_len h.nice h.ok
  have h3 := h.nodes
  have h4 := h.decls
  omega
end Go.Proofs.YtpdbkdcdlafobaaGreatDoor
end
section
namespace Go.Proofs.YtpdbkdcdlafobaaGreatDoor.L
def isOk (r : Int × Option Piece) (f : Piece → Bool) : Bool := decide (r.1 = 0) && match r.2 with | some p => f p | none => false
def isErr (r : Int × Option Piece) (e : Int) : Bool := decide (r.1 = e) && match r.2 with | some _ => false | none => true
theorem isOk_out {r : Int × Option Piece} {f : Piece → Bool} (h : isOk r f = true) : ∃ p, r = (0, some p) ∧ f p = true := by
  obtain ⟨e, o⟩ := r
  simp only [isOk, Bool.and_eq_true, decide_eq_true_eq] at h
  cases o with
  | none => simp at h
  | some p => exact ⟨p, by rw [h.1], h.2⟩
theorem isErr_out {r : Int × Option Piece} {e : Int} (h : isErr r e = true) : r = (e, none) := by
  obtain ⟨e, o⟩ := r
  simp only [isErr, Bool.and_eq_true, decide_eq_true_eq] at h
  cases o with
  | none => rw [h.1]
  | some p => simp at h
def t1 : Bytes := [112, 32, 58, 32, 99, 111, 109, 32, 124, 45, 32, 99, 111, 109, 32, 58, 32, 112, 32, 59, 32, 115, 107, 105, 112]
def t2 : Bytes := [98, 32, 58, 32, 101, 120, 112, 44, 32, 97, 40, 99, 111, 109, 44, 101, 120, 112, 41, 58, 99, 111, 109, 32, 124, 45, 32, 99, 111, 109, 32, 58, 32, 97, 40, 123, 32, 115, 116, 111, 112, 32, 125, 44, 40, 98, 45, 40, 98, 45, 49, 41, 41, 61, 61, 40, 49, 41, 41]
def t3 : Bytes := [124, 45, 32, 101, 120, 112, 32, 58, 32, 52]
def t4 : Bytes := [124, 45, 32, 99, 111, 109, 32, 58, 32, 120, 32, 58, 61, 32, 121]
def t5 : Bytes := [112, 32, 58, 32, 99, 111, 109, 32, 124, 45, 32, 101, 120, 112, 32, 58, 32, 112]
def t6 : Bytes := [104, 111, 108, 101, 32, 58, 32, 99, 111, 109, 44, 32, 112, 32, 58, 32, 99, 111, 109, 32, 124, 45, 32, 99, 111, 109, 32, 58, 32, 104, 111, 108, 101, 59, 32, 104, 111, 108, 101]
def x1 : Bytes := [112, 32, 58, 32, 99, 111, 109, 32, 124, 45, 32, 99, 111, 109, 32, 58, 32, 112, 59, 32, 115, 107, 105, 112]
def x2 : Bytes := [97, 40, 99, 111, 109, 44, 32, 101, 120, 112, 41, 32, 58, 32, 99, 111, 109, 44, 32, 98, 32, 58, 32, 101, 120, 112, 32, 124, 45, 32, 99, 111, 109, 32, 58, 32, 97, 40, 123, 32, 115, 116, 111, 112, 32, 125, 44, 32, 98, 32, 45, 32, 40, 98, 32, 45, 32, 49, 41, 32, 61, 61, 32, 49, 41]
def x3 : Bytes := [112, 32, 58, 32, 99, 111, 109, 32, 124, 45, 32, 99, 111, 109, 32, 58, 32, 112, 59, 32, 115, 107, 105, 112, 59, 32, 112, 59, 32, 115, 107, 105, 112]
def awakeB : Bool := isOk (readText t1) fun p => isOk (readText t2) fun q => isErr (readText t3) 2 && (isErr (readText t4) 3 && (isErr (readText t5) 4 && isOk (readText t6) fun c => isOk (fill c p) fun r =>
  decide (nodes p.root = 3) && (decide (q.decls.length = 2) && (decide (text p.decls p.typ p.root = x1) && (decide (text q.decls q.typ q.root = x2) && decide (text r.decls r.typ r.root = x3))))))
theorem awakeB_true : awakeB = true := by decide +kernel
theorem awake_facts : ∃ p q c r, readText t1 = (0, some p) ∧ readText t2 = (0, some q) ∧ readText t3 = (2, none) ∧ readText t4 = (3, none) ∧ readText t5 = (4, none) ∧ readText t6 = (0, some c) ∧ fill c p = (0, some r) ∧
    nodes p.root = 3 ∧ q.decls.length = 2 ∧ text p.decls p.typ p.root = x1 ∧ text q.decls q.typ q.root = x2 ∧ text r.decls r.typ r.root = x3 := by
  have h := awakeB_true
  unfold awakeB at h
  obtain ⟨p, h1, h⟩ := isOk_out h
  obtain ⟨q, h2, h⟩ := isOk_out h
  rw [Bool.and_eq_true, Bool.and_eq_true, Bool.and_eq_true] at h
  obtain ⟨h3, h4, h5, h⟩ := h
  obtain ⟨c, h6, h⟩ := isOk_out h
  obtain ⟨r, h7, h⟩ := isOk_out h
  simp only [Bool.and_eq_true, decide_eq_true_eq] at h
  exact ⟨p, q, c, r, h1, h2, isErr_out h3, isErr_out h4, isErr_out h5, h6, h7, h⟩
theorem x1_str : str x1 = ⟨#[112, 32, 58, 32, 99, 111, 109, 32, 124, 45, 32, 99, 111, 109, 32, 58, 32, 112, 59, 32, 115, 107, 105, 112]⟩ := rfl
theorem x2_str : str x2 = ⟨#[97, 40, 99, 111, 109, 44, 32, 101, 120, 112, 41, 32, 58, 32, 99, 111, 109, 44, 32, 98, 32, 58, 32, 101, 120, 112, 32, 124, 45, 32, 99, 111, 109, 32, 58, 32, 97, 40, 123, 32, 115, 116, 111, 112, 32, 125, 44, 32, 98, 32, 45, 32, 40, 98, 32, 45, 32, 49, 41, 32, 61, 61, 32, 49, 41]⟩ := rfl
theorem x3_str : str x3 = ⟨#[112, 32, 58, 32, 99, 111, 109, 32, 124, 45, 32, 99, 111, 109, 32, 58, 32, 112, 59, 32, 115, 107, 105, 112, 59, 32, 112, 59, 32, 115, 107, 105, 112]⟩ := rfl
end Go.Proofs.YtpdbkdcdlafobaaGreatDoor.L
end
