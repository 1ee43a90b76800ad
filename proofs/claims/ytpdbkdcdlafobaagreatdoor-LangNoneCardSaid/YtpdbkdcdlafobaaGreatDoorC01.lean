/- The plain functions that the contracts of package lang speak of: letters, names, parts of a text. They import nothing of the program. The parser of package lang as plain functions on lists of bytes. They import nothing of the program. What the parser reads, it does not read again: each way of reading leaves no more than there was. Each way of reading a term reads something. Nodes of terms, as plain functions. They import nothing of the program. The data of package lang: what binds names. Contracts of the program's functions, with no condition beyond what each theorem states. -/
section
namespace Go.Proofs.YtpdbkdcdlafobaaGreatDoor.L

abbrev Bytes := List UInt8

def letter (c : UInt8) : Bool := 97 ≤ c && c ≤ 122
/-- How many letters a text begins with. -/
def letters : Bytes → Nat
  | [] => 0
  | c :: l => if letter c then letters l + 1 else 0
theorem letters_le : (l : Bytes) → letters l ≤ l.length
  | [] => Nat.le_refl _
  | c :: l => by unfold letters; split <;> simp; exact letters_le l
theorem letters_drop {l : Bytes} {k : Nat} (h : k ≤ letters l) : letters l = k + letters (l.drop k) := by
  induction k generalizing l with
  | zero => simp
  | succ k ih =>
    match l with
    | [] => simp [letters] at h
    | c :: l =>
      cases hc : letter c
      · simp [letters, hc] at h
      · simp only [letters, hc, if_true] at h ⊢
        have := ih (l := l) (by omega)
        rw [List.drop_succ_cons]; omega
theorem letters_stop {l : Bytes} {k : Nat} (h : k ≤ letters l) (hk : k < l.length) (hc : letter l[k] = false) : letters l = k := by
  rw [letters_drop h, List.drop_eq_getElem_cons hk]; simp [letters, hc]
theorem letters_step {l : Bytes} {k : Nat} (h : k ≤ letters l) (hk : k < l.length) (hc : letter l[k] = true) : k + 1 ≤ letters l := by
  rw [letters_drop h, List.drop_eq_getElem_cons hk]; simp [letters, hc]
def digit (l : Bytes) : Bool := match l with
  | [c] => 48 ≤ c && c < 52
  | _ => false
def words : List Bytes := [[115, 107, 105, 112], [115, 116, 111, 112], [102, 97, 117, 108, 116], [105, 102], [119, 104, 105, 108, 101], [110, 101, 119], [112, 114, 111, 99], [98, 108, 111, 99, 107], [101, 120, 105, 116], [100, 111], [99, 111, 109], [101, 120, 112], [118, 97, 108]]
def name (l : Bytes) : Bool := 1 ≤ l.length && l.length ≤ 8 && letters l == l.length && !words.contains l


/-- A term of the language, as package lang keeps it. -/
inductive Tm where
  | skip
  | stop (of : Int)
  | fault (of : Int)
  | row (steps : List Tm)
  | assign (name : Bytes) (value : Tm)
  | choice (of : Int) (test yes no : Tm)
  | loop (test body : Tm)
  | fresh (of : Int) (name : Bytes) (value block : Tm)
  | call (of : Int) (name : Bytes) (args : List Tm)
  | proc (of : Int) (name : Bytes) (params : List (Bytes × Int)) (result : Int) (body block : Tm)
  | num (value : Int)
  | read (name : Bytes)
  | binary (kind : Int) (left right : Tm)
  | doing (first value : Tm)
  | labelled (name : Bytes) (body : Tm)
  | exit (of : Int) (name : Bytes)
  deriving Inhabited

structure Decl where
  name : Bytes
  args : List Int
  result : Int
  deriving Inhabited, DecidableEq

/-- Where the parser stands: the next part, and what stands behind it. -/
structure St where
  part : Bytes
  rest : Bytes

def blank (c : UInt8) : Bool := c == 32 || c == 9 || c == 10
def marks : Bytes := [58, 61, 44, 59, 60, 43, 45, 42, 40, 41, 123, 125, 91, 93]
def two (l : Bytes) : Bool := l.take 2 == [58, 61] || l.take 2 == [61, 61] || l.take 2 == [124, 45]
def one : Bytes → Bool
  | c :: _ => (48 ≤ c && c < 52) || marks.contains c
  | [] => false
/-- The length of the part that a text begins with. -/
def partLen (l : Bytes) : Option Nat :=
  if letters l > 0 || l.isEmpty then some (letters l)
  else if two l then some 2
  else if one l then some 1 else none
theorem partLen_le {l : Bytes} {k : Nat} (h : partLen l = some k) : k ≤ l.length := by
  unfold partLen at h
  split at h
  · cases h; exact letters_le l
  · rename_i h0
    split at h
    · rename_i h2
      cases h
      match l, h2 with
      | [], h2 => simp [two] at h2
      | [a], h2 => simp [two] at h2
      | _ :: _ :: _, _ => simp
    · split at h
      · cases h
        match l, h0 with
        | [], h0 => simp at h0
        | _ :: _, _ => simp
      · cases h
/-- A way of reading: what was read, and where the parser stands then; none: not by the grammar. -/
abbrev Rd (α : Type) := St → Option (α × St)
def Rd.bind {α β : Type} (m : Rd α) (f : α → Rd β) : Rd β := fun s => match m s with
  | none => none
  | some (x, s') => f x s'
def Rd.ret {α : Type} (x : α) : Rd α := fun s => some (x, s)
def Rd.no {α : Type} : Rd α := fun _ => none
def next : Rd Unit := fun s => match partLen (s.rest.dropWhile blank) with
  | none => none
  | some k => some ((), ⟨(s.rest.dropWhile blank).take k, (s.rest.dropWhile blank).drop k⟩)
def take (p : Bytes) : Rd Bool := fun s =>
  if s.part ≠ p then some (false, s) else if p = [] then some (true, s) else (next.bind fun _ => .ret true) s
def want (p : Bytes) : Rd Unit := (take p).bind fun b => if b then .ret () else .no
def getName : Rd Bytes := fun s => if name s.part then (next.bind fun _ => .ret s.part) s else none
end Go.Proofs.YtpdbkdcdlafobaaGreatDoor.L
end
section
namespace Go.Proofs.YtpdbkdcdlafobaaGreatDoor.L

def isRow : Tm → Bool
  | .row _ => true
  | _ => false
/-- The steps that a term stands for in a row. -/
def stepsOf : Tm → List Tm
  | .row ts => ts
  | t => [t]
def inRow (ts : List Tm) : Tm := match ts.flatMap stepsOf with
  | [t] => t
  | l => .row l

def kCom : Bytes := [99, 111, 109]
def kExp : Bytes := [101, 120, 112]
def kVal : Bytes := [118, 97, 108]
def result : Rd Int := (take [99, 111, 109]).bind fun b => if b then Rd.ret 0 else (want [101, 120, 112]).bind fun _ => Rd.ret 1
def typ : Rd Int := (take [118, 97, 108]).bind fun b => if b then Rd.ret 2 else result

def okTypes (l : List Int) : Bool := l.all fun t => decide (t = 0 ∨ t = 1 ∨ t = 2)
def fresh (seen : List Bytes) (n : Bytes) : Bool := !seen.contains n
def okParamsFrom (seen : List Bytes) : List (Bytes × Int) → Bool
  | [] => true
  | (n, t) :: l => name n && !seen.contains n && decide (t = 0 ∨ t = 1 ∨ t = 2) && okParamsFrom (seen ++ [n]) l
def okParams (l : List (Bytes × Int)) : Bool := decide (l.length ≤ 3) && okParamsFrom [] l
def okDeclsFrom (seen : List Bytes) : List Decl → Bool
  | [] => true
  | d :: l => name d.name && !seen.contains d.name && decide (d.result = 0 ∨ d.result = 1) && decide (d.args.length ≤ 3) && okTypes d.args && okDeclsFrom (seen ++ [d.name]) l
def okDecls (l : List Decl) : Bool := decide (l.length ≤ 4) && okDeclsFrom [] l

def typs : Nat → List Int → Rd (List Int)
  | 0, _ => Rd.no
  | n + 1, acc => typ.bind fun t => (take [44]).bind fun b => if b then typs n (acc ++ [t]) else Rd.ret (acc ++ [t])
def St.m (s : St) : Nat := s.part.length + s.rest.length
def declArgs (b : Bool) : Rd (List Int) := fun s => if b then ((typs (s.m + 1) []).bind fun l => (want [41]).bind fun _ => Rd.ret l) s else some ([], s)
def decl : Rd Decl := getName.bind fun n => (take [40]).bind fun b => (declArgs b).bind fun l =>
  (want [58]).bind fun _ => result.bind fun r => Rd.ret ⟨n, l, r⟩
def declsFrom : Nat → List Decl → Rd (List Decl)
  | 0, _ => Rd.no
  | n + 1, acc => decl.bind fun d => (take [44]).bind fun b => if b then declsFrom n (acc ++ [d]) else if okDecls (acc ++ [d]) then Rd.ret (acc ++ [d]) else Rd.no
def decls : Rd (List Decl) := fun s => if s.part = [124, 45] then some ([], s) else declsFrom (s.m + 1) [] s
def paramsFrom : Nat → List (Bytes × Int) → Rd (List (Bytes × Int))
  | 0, _ => Rd.no
  | n + 1, acc => getName.bind fun x => (want [58]).bind fun _ => typ.bind fun t => (take [44]).bind fun b =>
    if b then paramsFrom n (acc ++ [(x, t)]) else if okParams (acc ++ [(x, t)]) then Rd.ret (acc ++ [(x, t)]) else Rd.no
def params : Rd (List (Bytes × Int)) := fun s => if s.part = [41] then some ([], s) else paramsFrom (s.m + 1) [] s
def comparison : Rd (Int × Bool) := (take [61, 61]).bind fun b => if b then Rd.ret (15, true) else (take [60]).bind fun b => if b then Rd.ret (16, true) else Rd.ret (0, false)
def plusOrMinus : Rd (Int × Bool) := (take [43]).bind fun b => if b then Rd.ret (12, true) else (take [45]).bind fun b => if b then Rd.ret (13, true) else Rd.ret (0, false)
def times : Rd (Int × Bool) := (take [42]).bind fun b => Rd.ret (14, b)

mutual
def body : Nat → Int → Rd Tm
  | 0, _ => Rd.no
  | n + 1, t => if t = 0 then com n else exp n
def block : Nat → Int → Rd Tm
  | 0, _ => Rd.no
  | n + 1, t => (want (if t = 1 then [91] else [123])).bind fun _ => (body n t).bind fun x => (want (if t = 1 then [93] else [125])).bind fun _ => Rd.ret x
def com : Nat → Rd Tm
  | 0 => Rd.no
  | n + 1 => comFrom n []
def comFrom : Nat → List Tm → Rd Tm
  | 0, _ => Rd.no
  | n + 1, acc => (step n).bind fun x => (take [59]).bind fun b => if b then comFrom n (acc ++ [x]) else Rd.ret (inRow (acc ++ [x]))
def step : Nat → Rd Tm
  | 0 => Rd.no
  | n + 1 => (either n 0).bind fun x => match x with
    | some x => Rd.ret x
    | none => (take [115, 107, 105, 112]).bind fun b => if b then Rd.ret .skip else
      (take [119, 104, 105, 108, 101]).bind fun b => if b then (exp n).bind fun x => (block n 0).bind fun y => Rd.ret (.loop x y) else
      (take [98, 108, 111, 99, 107]).bind fun b => if b then getName.bind fun k => (block n 0).bind fun y => Rd.ret (.labelled k y) else
      getName.bind fun k => (take [58, 61]).bind fun b => if b then (exp n).bind fun x => Rd.ret (.assign k x) else call n 0 k
def either : Nat → Int → Rd (Option Tm)
  | 0, _ => Rd.no
  | n + 1, t =>
    (take [115, 116, 111, 112]).bind fun b => if b then Rd.ret (some (.stop t)) else
    (take [102, 97, 117, 108, 116]).bind fun b => if b then Rd.ret (some (.fault t)) else
    (take [101, 120, 105, 116]).bind fun b => if b then getName.bind fun k => Rd.ret (some (.exit t k)) else
    (take [105, 102]).bind fun b => if b then (exp n).bind fun x => (block n t).bind fun y => (block n t).bind fun z => Rd.ret (some (.choice t x y z)) else
    (take [110, 101, 119]).bind fun b => if b then getName.bind fun k => (want [61]).bind fun _ => (exp n).bind fun x => (block n t).bind fun y => Rd.ret (some (.fresh t k x y)) else
    (take [112, 114, 111, 99]).bind fun b => if b then (proc n t).bind fun x => Rd.ret (some x) else Rd.ret none
def proc : Nat → Int → Rd Tm
  | 0, _ => Rd.no
  | n + 1, t => getName.bind fun k => (want [40]).bind fun _ => params.bind fun ps => (want [41]).bind fun _ => (want [58]).bind fun _ =>
    result.bind fun r => (block n r).bind fun x => (block n t).bind fun y => Rd.ret (.proc t k ps r x y)
def call : Nat → Int → Bytes → Rd Tm
  | 0, _, _ => Rd.no
  | n + 1, t, k => (take [40]).bind fun b => if b then argsFrom n t k [] else Rd.ret (.call t k [])
def argsFrom : Nat → Int → Bytes → List Tm → Rd Tm
  | 0, _, _, _ => Rd.no
  | n + 1, t, k, acc => (arg n).bind fun x => (take [44]).bind fun b => if b then argsFrom n t k (acc ++ [x]) else
    (want [41]).bind fun _ => if (acc ++ [x]).length ≤ 3 then Rd.ret (.call t k (acc ++ [x])) else Rd.no
def arg : Nat → Rd Tm
  | 0 => Rd.no
  | n + 1 => fun s => if s.part = [123] then block n 0 s else exp n s
def exp : Nat → Rd Tm
  | 0 => Rd.no
  | n + 1 => (sum n).bind fun x => comparison.bind fun k => if k.2 then (sum n).bind fun y => Rd.ret (.binary k.1 x y) else Rd.ret x
def sum : Nat → Rd Tm
  | 0 => Rd.no
  | n + 1 => (product n).bind fun x => sumFrom n x
def sumFrom : Nat → Tm → Rd Tm
  | 0, _ => Rd.no
  | n + 1, x => plusOrMinus.bind fun k => if k.2 then (product n).bind fun y => sumFrom n (.binary k.1 x y) else Rd.ret x
def product : Nat → Rd Tm
  | 0 => Rd.no
  | n + 1 => (atom n).bind fun x => productFrom n x
def productFrom : Nat → Tm → Rd Tm
  | 0, _ => Rd.no
  | n + 1, x => times.bind fun k => if k.2 then (atom n).bind fun y => productFrom n (.binary k.1 x y) else Rd.ret x
def atom : Nat → Rd Tm
  | 0 => Rd.no
  | n + 1 => (either n 1).bind fun x => match x with
    | some x => Rd.ret x
    | none => fun s => match s.part with
      | [c] => if 48 ≤ c && c < 52 then (next.bind fun _ => Rd.ret (.num (c.toNat - 48))) s else atom2 n s
      | _ => atom2 n s
def atom2 : Nat → Rd Tm
  | 0 => Rd.no
  | n + 1 => (take [40]).bind fun b => if b then (exp n).bind fun x => (want [41]).bind fun _ => Rd.ret x else
    (take [100, 111]).bind fun b => if b then (block n 0).bind fun x => (block n 1).bind fun y => Rd.ret (.doing x y) else
    getName.bind fun k => call n 1 k
end
end Go.Proofs.YtpdbkdcdlafobaaGreatDoor.L
end
section
namespace Go.Proofs.YtpdbkdcdlafobaaGreatDoor.L
def Le {α : Type} (r : Rd α) : Prop := ∀ s x s', r s = some (x, s') → s'.m ≤ s.m
def Lt {α : Type} (r : Rd α) : Prop := ∀ s x s', r s = some (x, s') → s'.m < s.m
section
variable {α β : Type}
theorem Lt.le {r : Rd α} (h : Lt r) : Le r := fun s x s' e => Nat.le_of_lt (h s x s' e)
theorem le_ret (x : α) : Le (Rd.ret x) := fun s y s' e => by simp [Rd.ret] at e; rw [e.2]; exact Nat.le_refl _
theorem lt_no : Lt (Rd.no : Rd α) := fun _ _ _ e => by simp [Rd.no] at e
theorem bind_some {m : Rd α} {f : α → Rd β} {s : St} {y : β} {s' : St} (h : m.bind f s = some (y, s')) : ∃ x s1, m s = some (x, s1) ∧ f x s1 = some (y, s') := by
  unfold Rd.bind at h
  split at h
  · cases h
  · rename_i x s1 e; exact ⟨x, s1, e, h⟩
theorem le_bind {m : Rd α} {f : α → Rd β} (hm : Le m) (hf : ∀ x, Le (f x)) : Le (m.bind f) := fun s y s' e => by
  obtain ⟨x, s1, e1, e2⟩ := bind_some e
  exact Nat.le_trans (hf x s1 y s' e2) (hm s x s1 e1)
theorem lt_bind {m : Rd α} {f : α → Rd β} (hm : Lt m) (hf : ∀ x, Le (f x)) : Lt (m.bind f) := fun s y s' e => by
  obtain ⟨x, s1, e1, e2⟩ := bind_some e
  exact Nat.lt_of_le_of_lt (hf x s1 y s' e2) (hm s x s1 e1)
theorem lt_bind' {m : Rd α} {f : α → Rd β} (hm : Le m) (hf : ∀ x, Lt (f x)) : Lt (m.bind f) := fun s y s' e => by
  obtain ⟨x, s1, e1, e2⟩ := bind_some e
  exact Nat.lt_of_lt_of_le (hf x s1 y s' e2) (hm s x s1 e1)
theorem le_ite {c : Prop} [Decidable c] {a b : Rd α} (ha : Le a) (hb : Le b) : Le (if c then a else b) := by split <;> assumption
theorem lt_ite {c : Prop} [Decidable c] {a b : Rd α} (ha : Lt a) (hb : Lt b) : Lt (if c then a else b) := by split <;> assumption
end
theorem next_m {s s' : St} {u : Unit} (h : next s = some (u, s')) : s'.m + s.part.length ≤ s.m := by
  unfold next at h
  split at h
  · cases h
  · rename_i k hk
    cases h
    have := partLen_le hk
    have := List.Sublist.length_le (List.dropWhile_sublist (l := s.rest) blank)
    simp only [St.m, List.length_take, List.length_drop]
    omega
theorem next_le : Le next := fun s x s' h => by have := next_m h; omega
theorem take_le (p : Bytes) : Le (take p) := fun s x s' h => by
  unfold take at h
  split at h
  · cases h; exact Nat.le_refl _
  · split at h
    · cases h; exact Nat.le_refl _
    · exact le_bind next_le (fun _ => le_ret _) s x s' h
theorem take_lt {p : Bytes} {s s' : St} (hp : p ≠ []) (h : take p s = some (true, s')) : s'.m < s.m := by
  unfold take at h
  split at h
  · cases h
  · rename_i hq
    obtain ⟨x, s1, e1, e2⟩ := bind_some h
    cases e2
    have := next_m e1
    have : 0 < s.part.length := by
      rw [Decidable.not_not.1 hq]; exact List.length_pos_iff.2 hp
    omega
theorem want_le (p : Bytes) : Le (want p) := le_bind (take_le p) fun b => by cases b; exact lt_no.le; exact le_ret _
theorem want_lt {p : Bytes} (hp : p ≠ []) : Lt (want p) := fun s x s' h => by
  obtain ⟨b, s1, e1, e2⟩ := bind_some h
  cases b
  · simp [Rd.no] at e2
  · cases e2; exact take_lt hp e1
theorem getName_lt : Lt getName := fun s x s' h => by
  unfold getName at h
  split at h
  · rename_i hn
    obtain ⟨x, s1, e1, e2⟩ := bind_some h
    cases e2
    have := next_m e1
    unfold name at hn
    simp at hn
    omega
  · cases h
theorem result_le : Le result := le_bind (take_le _) fun _ => le_ite (le_ret _) (le_bind (want_le _) fun _ => le_ret _)
theorem typ_le : Le typ := le_bind (take_le _) fun _ => le_ite (le_ret _) result_le
theorem typs_le : ∀ n acc, Le (typs n acc)
  | 0, _ => lt_no.le
  | n + 1, _ => le_bind typ_le fun _ => le_bind (take_le _) fun _ => le_ite (typs_le n _) (le_ret _)
theorem paramsFrom_le : ∀ n acc, Le (paramsFrom n acc)
  | 0, _ => lt_no.le
  | n + 1, _ => le_bind getName_lt.le fun _ => le_bind (want_le _) fun _ => le_bind typ_le fun _ => le_bind (take_le _) fun _ => le_ite (paramsFrom_le n _) (le_ite (le_ret _) lt_no.le)
theorem params_le : Le params := fun s x s' h => by
  unfold params at h
  split at h
  · cases h; exact Nat.le_refl _
  · exact paramsFrom_le _ _ s x s' h
theorem declArgs_le (b : Bool) : Le (declArgs b) := fun s x s' h => by
  unfold declArgs at h
  split at h
  · exact le_bind (typs_le _ _) (fun _ => le_bind (want_le _) fun _ => le_ret _) s x s' h
  · cases h; exact Nat.le_refl _
theorem decl_lt : Lt decl := lt_bind getName_lt fun _ => le_bind (take_le _) fun b => le_bind (declArgs_le b) fun _ => le_bind (want_le _) fun _ => le_bind result_le fun _ => le_ret _
theorem comparison_le : Le comparison := le_bind (take_le _) fun _ => le_ite (le_ret _) (le_bind (take_le _) fun _ => le_ite (le_ret _) (le_ret _))
theorem plusOrMinus_le : Le plusOrMinus := le_bind (take_le _) fun _ => le_ite (le_ret _) (le_bind (take_le _) fun _ => le_ite (le_ret _) (le_ret _))
theorem times_le : Le times := le_bind (take_le _) fun _ => le_ret _
theorem pair_lt {p : Bytes} {s s' : St} {x : Int × Bool} {a : Int} (hp : p ≠ []) (h : ((take p).bind fun b => Rd.ret (a, b)) s = some (x, s')) (hx : x.2 = true) : s'.m < s.m := by
  obtain ⟨b, s1, e1, e2⟩ := bind_some h
  cases e2
  cases hx
  exact take_lt hp e1
end Go.Proofs.YtpdbkdcdlafobaaGreatDoor.L
end
section
namespace Go.Proofs.YtpdbkdcdlafobaaGreatDoor.L
theorem lt_take {α : Type} {p : Bytes} (hp : p ≠ []) {A B : Rd α} (hA : Le A) (hB : Lt B) : Lt ((take p).bind fun b => if b then A else B) := fun s y s' e => by
  obtain ⟨b, s1, e1, e2⟩ := bind_some e
  cases b
  · exact Nat.lt_of_lt_of_le (hB s1 y s' e2) (take_le p _ _ _ e1)
  · exact Nat.lt_of_le_of_lt (hA s1 y s' e2) (take_lt hp e1)
theorem le_take {α : Type} {p : Bytes} {A B : Rd α} (hA : Le A) (hB : Le B) : Le ((take p).bind fun b => if b then A else B) := le_bind (take_le p) fun _ => le_ite hA hB
/-- What is read of what commands and expressions have in common takes something, if it is there. -/
def LtO (r : Rd (Option Tm)) : Prop := ∀ s x s', r s = some (x, s') → s'.m ≤ s.m ∧ (x.isSome = true → s'.m < s.m)
theorem lto_take {p : Bytes} (hp : p ≠ []) {A B : Rd (Option Tm)} (hA : Le A) (hB : LtO B) : LtO ((take p).bind fun b => if b then A else B) := fun s y s' e => by
  obtain ⟨b, s1, e1, e2⟩ := bind_some e
  cases b
  · have := hB s1 y s' e2
    have := take_le p _ _ _ e1
    exact ⟨by omega, fun h => by have := (hB s1 y s' e2).2 h; omega⟩
  · have := hA s1 y s' e2
    have := take_lt hp e1
    exact ⟨by omega, fun _ => by omega⟩
theorem lto_none : LtO (Rd.ret none) := fun s y s' e => by simp [Rd.ret] at e; rw [e.2, ← e.1]; simp
theorem lt_opt {β : Type} {m : Rd (Option Tm)} {f : Option Tm → Rd β} (hm : LtO m) (hs : ∀ x, Le (f (some x))) (hn : Lt (f none)) : Lt (m.bind f) := fun s y s' e => by
  obtain ⟨x, s1, e1, e2⟩ := bind_some e
  cases x with
  | none => have := hn s1 y s' e2; have := (hm _ _ _ e1).1; omega
  | some x => have := hs x s1 y s' e2; have := (hm _ _ _ e1).2 rfl; omega
structure Eats (n : Nat) : Prop where
  body : ∀ t, Lt (body n t)
  block : ∀ t, Lt (block n t)
  com : Lt (com n)
  comFrom : ∀ acc, Lt (comFrom n acc)
  step : Lt (step n)
  either : ∀ t, LtO (either n t)
  proc : ∀ t, Lt (proc n t)
  call : ∀ t k, Le (call n t k)
  argsFrom : ∀ t k acc, Lt (argsFrom n t k acc)
  arg : Lt (arg n)
  exp : Lt (exp n)
  sum : Lt (sum n)
  sumFrom : ∀ x, Le (sumFrom n x)
  product : Lt (product n)
  productFrom : ∀ x, Le (productFrom n x)
  atom : Lt (atom n)
  atom2 : Lt (atom2 n)
theorem eats : ∀ n, Eats n
  | 0 => ⟨fun _ => lt_no, fun _ => lt_no, lt_no, fun _ => lt_no, lt_no, fun _ => fun _ _ _ e => by simp [L.either, Rd.no] at e, fun _ => lt_no, fun _ _ => lt_no.le, fun _ _ _ => lt_no, lt_no, lt_no, lt_no, fun _ => lt_no.le, lt_no, fun _ => lt_no.le, lt_no, lt_no⟩
  | n + 1 => by
    have h := eats n
    refine ⟨fun t => ?_, fun t => ?_, ?_, fun acc => ?_, ?_, fun t => ?_, fun t => ?_, fun t k => ?_, fun t k acc => ?_, ?_, ?_, ?_, fun x => ?_, ?_, fun x => ?_, ?_, ?_⟩
    · rw [L.body]; exact lt_ite h.com h.exp
    · rw [L.block]; exact lt_bind' (want_le _) fun _ => lt_bind (h.body t) fun _ => le_bind (want_le _) fun _ => le_ret _
    · rw [L.com]; exact h.comFrom _
    · rw [L.comFrom]; exact lt_bind h.step fun _ => le_take (h.comFrom _).le (le_ret _)
    · rw [L.step]
      refine lt_opt (h.either 0) (fun _ => le_ret _) ?_
      exact lt_take (by simp) (le_ret _) (lt_take (by simp) (le_bind h.exp.le fun _ => le_bind (h.block 0).le fun _ => le_ret _) (lt_take (by simp) (le_bind getName_lt.le fun _ => le_bind (h.block 0).le fun _ => le_ret _)
        (lt_bind getName_lt fun _ => le_take (le_bind h.exp.le fun _ => le_ret _) (h.call _ _))))
    · rw [L.either]
      exact lto_take (by simp) (le_ret _) (lto_take (by simp) (le_ret _) (lto_take (by simp) (le_bind getName_lt.le fun _ => le_ret _) (lto_take (by simp) (le_bind h.exp.le fun _ => le_bind (h.block _).le fun _ => le_bind (h.block _).le fun _ => le_ret _)
        (lto_take (by simp) (le_bind getName_lt.le fun _ => le_bind (want_le _) fun _ => le_bind h.exp.le fun _ => le_bind (h.block _).le fun _ => le_ret _) (lto_take (by simp) (le_bind (h.proc _).le fun _ => le_ret _) lto_none)))))
    · rw [L.proc]
      exact lt_bind getName_lt fun _ => le_bind (want_le _) fun _ => le_bind params_le fun _ => le_bind (want_le _) fun _ => le_bind (want_le _) fun _ => le_bind result_le fun _ => le_bind (h.block _).le fun _ => le_bind (h.block _).le fun _ => le_ret _
    · rw [L.call]; exact le_take (h.argsFrom _ _ _).le (le_ret _)
    · rw [L.argsFrom]; exact lt_bind h.arg fun _ => le_take (h.argsFrom _ _ _).le (le_bind (want_le _) fun _ => le_ite (le_ret _) lt_no.le)
    · rw [L.arg]
      intro s x s' e
      dsimp only at e
      split at e
      · exact h.block 0 s x s' e
      · exact h.exp s x s' e
    · rw [L.exp]; exact lt_bind h.sum fun _ => le_bind comparison_le fun _ => le_ite (le_bind h.sum.le fun _ => le_ret _) (le_ret _)
    · rw [L.sum]; exact lt_bind h.product fun _ => h.sumFrom _
    · rw [L.sumFrom]; exact le_bind plusOrMinus_le fun _ => le_ite (le_bind h.product.le fun _ => h.sumFrom _) (le_ret _)
    · rw [L.product]; exact lt_bind h.atom fun _ => h.productFrom _
    · rw [L.productFrom]; exact le_bind times_le fun _ => le_ite (le_bind h.atom.le fun _ => h.productFrom _) (le_ret _)
    · rw [L.atom]
      refine lt_opt (h.either 1) (fun _ => le_ret _) ?_
      intro s x s' e
      dsimp only at e
      split at e
      · rename_i c hc
        split at e
        · obtain ⟨y, s1, e1, e2⟩ := bind_some e
          cases e2
          have := next_m e1
          rw [hc, List.length_singleton] at this
          omega
        · exact h.atom2 s x s' e
      · exact h.atom2 s x s' e
    · rw [L.atom2]; exact lt_take (by simp) (le_bind h.exp.le fun _ => le_bind (want_le _) fun _ => le_ret _) (lt_take (by simp) (le_bind (h.block _).le fun _ => le_bind (h.block _).le fun _ => le_ret _) (lt_bind getName_lt fun _ => h.call _ _))
end Go.Proofs.YtpdbkdcdlafobaaGreatDoor.L
namespace Go.Proofs.YtpdbkdcdlafobaaGreatDoor.L
/-- All that a text consists of. -/
def whole (l : Bytes) : Rd (List Decl × Int × Tm) := next.bind fun _ => decls.bind fun d => (want [124, 45]).bind fun _ => result.bind fun t => (want [58]).bind fun _ => (body (10 * l.length + 8) t).bind fun x => (want []).bind fun _ => Rd.ret (d, t, x)
def parse (l : Bytes) : Option (List Decl × Int × Tm) := if 4000 < l.length then none else match whole l ⟨[], l⟩ with
  | some (x, _) => some x
  | none => none
end Go.Proofs.YtpdbkdcdlafobaaGreatDoor.L
end
section
namespace Go.Proofs.YtpdbkdcdlafobaaGreatDoor.L
def kindOf : Tm → Int
  | .skip => 0 | .stop _ => 1 | .fault _ => 2 | .row _ => 3 | .assign _ _ => 4 | .choice _ _ _ _ => 5 | .loop _ _ => 6 | .fresh _ _ _ _ => 7 | .call _ _ _ => 8 | .proc _ _ _ _ _ _ => 9
  | .num _ => 10 | .read _ => 11 | .binary k _ _ => k | .doing _ _ => 17 | .labelled _ _ => 18 | .exit _ _ => 19
def typeOf : Tm → Int
  | .stop t => t | .fault t => t | .choice t _ _ _ => t | .fresh t _ _ _ => t | .call t _ _ => t | .proc t _ _ _ _ _ => t | .exit t _ => t
  | .num _ => 1 | .read _ => 1 | .binary _ _ _ => 1 | .doing _ _ => 1
  | .skip => 0 | .row _ => 0 | .assign _ _ => 0 | .loop _ _ => 0 | .labelled _ _ => 0
def nameOf : Tm → Bytes
  | .assign n _ => n | .fresh _ n _ _ => n | .call _ n _ => n | .proc _ n _ _ _ _ => n | .read n => n | .labelled n _ => n | .exit _ n => n
  | .skip => [] | .stop _ => [] | .fault _ => [] | .row _ => [] | .choice _ _ _ _ => [] | .loop _ _ => [] | .num _ => [] | .binary _ _ _ => [] | .doing _ _ => []
def valueOf : Tm → Int
  | .num i => i
  | .skip => 0 | .stop _ => 0 | .fault _ => 0 | .row _ => 0 | .assign _ _ => 0 | .choice _ _ _ _ => 0 | .loop _ _ => 0 | .fresh _ _ _ _ => 0 | .call _ _ _ => 0 | .proc _ _ _ _ _ _ => 0
  | .read _ => 0 | .binary _ _ _ => 0 | .doing _ _ => 0 | .labelled _ _ => 0 | .exit _ _ => 0
def paramsOf : Tm → List (Bytes × Int)
  | .proc _ _ ps _ _ _ => ps
  | .skip => [] | .stop _ => [] | .fault _ => [] | .row _ => [] | .assign _ _ => [] | .choice _ _ _ _ => [] | .loop _ _ => [] | .fresh _ _ _ _ => [] | .call _ _ _ => []
  | .num _ => [] | .read _ => [] | .binary _ _ _ => [] | .doing _ _ => [] | .labelled _ _ => [] | .exit _ _ => []
def resultOf : Tm → Int
  | .proc _ _ _ r _ _ => r
  | .skip => 0 | .stop _ => 0 | .fault _ => 0 | .row _ => 0 | .assign _ _ => 0 | .choice _ _ _ _ => 0 | .loop _ _ => 0 | .fresh _ _ _ _ => 0 | .call _ _ _ => 0
  | .num _ => 0 | .read _ => 0 | .binary _ _ _ => 0 | .doing _ _ => 0 | .labelled _ _ => 0 | .exit _ _ => 0
/-- The kids of a row of steps: all but the last step, as one term, and the last one. -/
def rowKids (ts : List Tm) : List Tm := match ts.getLast? with
  | none => []
  | some z => [if ts.length = 2 then ts.headD .skip else .row ts.dropLast, z]
def kidsOf : Tm → List Tm
  | .row ts => rowKids ts
  | .assign _ x => [x] | .choice _ x y z => [x, y, z] | .loop x y => [x, y] | .fresh _ _ x y => [x, y] | .call _ _ ts => ts | .proc _ _ _ _ x y => [x, y]
  | .binary _ x y => [x, y] | .doing x y => [x, y] | .labelled _ x => [x]
  | .skip => [] | .stop _ => [] | .fault _ => [] | .num _ => [] | .read _ => [] | .exit _ _ => []
mutual
/-- How many nodes a term has. -/
def nodes : Tm → Nat
  | .row ts => ts.length - 1 + nodesL ts
  | .assign _ x => 1 + nodes x
  | .choice _ x y z => 1 + nodes x + nodes y + nodes z
  | .loop x y => 1 + nodes x + nodes y
  | .fresh _ _ x y => 1 + nodes x + nodes y
  | .call _ _ ts => 1 + nodesL ts
  | .proc _ _ _ _ x y => 1 + nodes x + nodes y
  | .binary _ x y => 1 + nodes x + nodes y
  | .doing x y => 1 + nodes x + nodes y
  | .labelled _ x => 1 + nodes x
  | .skip => 1 | .stop _ => 1 | .fault _ => 1 | .num _ => 1 | .read _ => 1 | .exit _ _ => 1
def nodesL : List Tm → Nat
  | [] => 0
  | t :: ts => nodes t + nodesL ts
end
mutual
/-- How many levels a term has. -/
def levels : Tm → Nat
  | .row ts => 1 + levelsL ts
  | .assign _ x => 1 + levels x
  | .choice _ x y z => 1 + max (levels x) (max (levels y) (levels z))
  | .loop x y => 1 + max (levels x) (levels y)
  | .fresh _ _ x y => 1 + max (levels x) (levels y)
  | .call _ _ ts => 1 + levelsL ts
  | .proc _ _ _ _ x y => 1 + max (levels x) (levels y)
  | .binary _ x y => 1 + max (levels x) (levels y)
  | .doing x y => 1 + max (levels x) (levels y)
  | .labelled _ x => 1 + levels x
  | .skip => 1 | .stop _ => 1 | .fault _ => 1 | .num _ => 1 | .read _ => 1 | .exit _ _ => 1
def levelsL : List Tm → Nat
  | [] => 0
  | t :: ts => max (levels t) (levelsL ts)
end
/-- The terms one level below a term, and how many nodes it has besides theirs. -/
def below : Tm → List Tm
  | .row ts => ts
  | .assign _ x => [x] | .choice _ x y z => [x, y, z] | .loop x y => [x, y] | .fresh _ _ x y => [x, y] | .call _ _ ts => ts | .proc _ _ _ _ x y => [x, y]
  | .binary _ x y => [x, y] | .doing x y => [x, y] | .labelled _ x => [x]
  | .skip => [] | .stop _ => [] | .fault _ => [] | .num _ => [] | .read _ => [] | .exit _ _ => []
def own : Tm → Nat
  | .row ts => ts.length - 1
  | .assign _ _ => 1 | .choice _ _ _ _ => 1 | .loop _ _ => 1 | .fresh _ _ _ _ => 1 | .call _ _ _ => 1 | .proc _ _ _ _ _ _ => 1
  | .binary _ _ _ => 1 | .doing _ _ => 1 | .labelled _ _ => 1
  | .skip => 1 | .stop _ => 1 | .fault _ => 1 | .num _ => 1 | .read _ => 1 | .exit _ _ => 1
theorem nodes_eq (t : Tm) : nodes t = own t + nodesL (below t) := by
  cases t <;> simp [nodes, own, below, nodesL] <;> omega
theorem levels_eq (t : Tm) : levels t = 1 + levelsL (below t) := by
  cases t <;> simp [levels, below, levelsL] <;> omega
theorem below_kids {t : Tm} (h : isRow t = false) : below t = kidsOf t ∧ own t = 1 := by
  cases t <;> first | exact ⟨rfl, rfl⟩ | simp [isRow] at h
theorem nodesL_append : ∀ (a b : List Tm), nodesL (a ++ b) = nodesL a + nodesL b
  | [], b => by simp [nodesL]
  | t :: a, b => by rw [List.cons_append, nodesL, nodesL, nodesL_append a b]; omega
theorem levelsL_append : ∀ (a b : List Tm), levelsL (a ++ b) = max (levelsL a) (levelsL b)
  | [], b => by simp [levelsL]
  | t :: a, b => by rw [List.cons_append, levelsL, levelsL, levelsL_append a b]; omega
theorem nodesL_take (l : List Tm) (k : Nat) (hk : k < l.length) : nodesL (l.take (k + 1)) = nodesL (l.take k) + nodes l[k] := by
  rw [List.take_succ_eq_append_getElem hk, nodesL_append]; simp [nodesL]
theorem levelsL_take (l : List Tm) (k : Nat) (hk : k < l.length) : levelsL (l.take (k + 1)) = max (levelsL (l.take k)) (levels l[k]) := by
  rw [List.take_succ_eq_append_getElem hk, levelsL_append]; simp [levelsL]
theorem nodesL_le (l : List Tm) (k : Nat) : nodesL (l.take k) ≤ nodesL l := by
  have := nodesL_append (l.take k) (l.drop k)
  rw [List.take_append_drop] at this; omega
theorem levelsL_le (l : List Tm) (k : Nat) : levelsL (l.take k) ≤ levelsL l := by
  have := levelsL_append (l.take k) (l.drop k)
  rw [List.take_append_drop] at this; omega
theorem nodes_mem {l : List Tm} {k : Nat} (hk : k < l.length) : nodes l[k] ≤ nodesL l := by
  have := nodesL_take l k hk
  have := nodesL_le l (k + 1)
  omega
noncomputable def sz (t : Tm) : Nat := sizeOf t
theorem sz_pos (t : Tm) : 0 < sz t := by cases t <;> simp [sz] <;> omega
theorem below_lt {t k : Tm} (h : k ∈ below t) : sz k < sz t := by
  unfold sz
  cases t <;> simp [below] at h
  case row ts => have := List.sizeOf_lt_of_mem h; simp; omega
  case call a b ts => have := List.sizeOf_lt_of_mem h; simp; omega
  all_goals first | (rcases h with rfl | rfl | rfl <;> simp <;> omega) | (rcases h with rfl | rfl <;> simp <;> omega) | (subst h; simp <;> omega)
end Go.Proofs.YtpdbkdcdlafobaaGreatDoor.L
end
section
namespace Go.Proofs.YtpdbkdcdlafobaaGreatDoor.L
/-- What binds a name: its sort, the name, the types of what is called. -/
structure Bnd where
  sort : Int
  name : Bytes
  args : List Int
  result : Int
/-- The innermost one of a name. -/
def look (bs : List Bnd) (s : Bytes) : Option Bnd := bs.reverse.find? fun b => b.name == s
def ofDecl (d : Decl) : Bnd := ⟨0, d.name, d.args, d.result⟩
end Go.Proofs.YtpdbkdcdlafobaaGreatDoor.L
end
