/- The text of a piece and its nodes, as plain functions. The nodes of a term in their list, as plain functions. Contracts of the program's functions, with no condition beyond what each theorem states. -/
import Derived.Test.YtpdbkdcdlafobaaGreatDoorC02
section
namespace Go.Proofs.YtpdbkdcdlafobaaGreatDoor.L
def typeWord (t : Int) : Bytes := if t = 0 then [99, 111, 109] else if t = 1 then [101, 120, 112] else [118, 97, 108]
def joinC : List Bytes → Bytes
  | [] => []
  | [x] => x
  | x :: y :: l => x ++ ([44, 32] ++ joinC (y :: l))
def txDecl (d : Decl) : Bytes := d.name ++ ((if d.args.length = 0 then [] else [40] ++ (joinC (d.args.map typeWord) ++ [41])) ++ ([32, 58, 32] ++ typeWord d.result))
def mark (k : Int) : Bytes := if k = 15 then [61, 61] else if k = 16 then [60] else if k = 12 then [43] else if k = 13 then [45] else [42]
def rank (k : Int) : Int := if k = 15 then 0 else if k = 16 then 0 else if k = 12 then 1 else if k = 13 then 1 else 2
def brack (t : Tm) (x : Bytes) : Bytes := (if typeOf t = 1 then [91, 32] else [123, 32]) ++ (x ++ (if typeOf t = 1 then [32, 93] else [32, 125]))
def paren (t : Tm) (least : Int) (x : Bytes) : Bytes := match t with
  | .binary k _ _ => if rank k < least then [40] ++ (x ++ [41]) else x
  | _ => x
def txParams (ps : List (Bytes × Int)) : Bytes := joinC (ps.map fun p => p.1 ++ ([32, 58, 32] ++ typeWord p.2))
mutual
def tx : Tm → Bytes
  | .skip => [115, 107, 105, 112]
  | .stop _ => [115, 116, 111, 112]
  | .fault _ => [102, 97, 117, 108, 116]
  | .row ts => txRow ts
  | .assign n x => n ++ ([32, 58, 61, 32] ++ tx x)
  | .choice _ x y z => [105, 102, 32] ++ (tx x ++ (32 :: brack y (tx y) ++ 32 :: brack z (tx z)))
  | .loop x y => [119, 104, 105, 108, 101, 32] ++ (tx x ++ 32 :: brack y (tx y))
  | .fresh _ n x y => [110, 101, 119, 32] ++ (n ++ ([32, 61, 32] ++ (tx x ++ 32 :: brack y (tx y))))
  | .call _ n ts => n ++ (if ts.length = 0 then [] else [40] ++ (txArgs ts ++ [41]))
  | .proc _ n ps r x y => [112, 114, 111, 99, 32] ++ (n ++ ([40] ++ (txParams ps ++ ([41, 32, 58, 32] ++ (typeWord r ++ (32 :: brack x (tx x) ++ 32 :: brack y (tx y)))))))
  | .num i => [(48 + i.toNat).toUInt8]
  | .read n => n
  | .binary k x y => paren x (if rank k = 0 then 1 else rank k) (tx x) ++ (32 :: mark k ++ 32 :: paren y (rank k + 1) (tx y))
  | .doing x y => [100, 111] ++ (32 :: brack x (tx x) ++ 32 :: brack y (tx y))
  | .labelled n x => [98, 108, 111, 99, 107, 32] ++ (n ++ 32 :: brack x (tx x))
  | .exit _ n => [101, 120, 105, 116, 32] ++ n
def txRow : List Tm → Bytes
  | [] => []
  | t :: ts => tx t ++ txRow' ts
/-- What stands behind the first step. -/
def txRow' : List Tm → Bytes
  | [] => []
  | t :: ts => [59, 32] ++ (tx t ++ txRow' ts)
def txArgs : List Tm → Bytes
  | [] => []
  | t :: ts => (if typeOf t = 0 then brack t (tx t) else tx t) ++ txArgs' ts
def txArgs' : List Tm → Bytes
  | [] => []
  | t :: ts => [44, 32] ++ ((if typeOf t = 0 then brack t (tx t) else tx t) ++ txArgs' ts)
end
def text (ds : List Decl) (ty : Int) (t : Tm) : Bytes := joinC (ds.map txDecl) ++ ((if ds.length = 0 then [] else [32]) ++ ([124, 45, 32] ++ (typeWord ty ++ ([32, 58, 32] ++ tx t))))
structure Nd where
  kind : Int
  type : Int
  name : Bytes
  value : Int
  params : List (Bytes × Int)
  result : Int
  kids : List Nat
  deriving DecidableEq
mutual
/-- The nodes of a term that stands at a place; n: levels enough. -/
def nds : Nat → Nat → Tm → List Nd
  | 0, _, _ => []
  | n + 1, k, t => ⟨kindOf t, typeOf t, nameOf t, valueOf t, paramsOf t, resultOf t, (ndsL n (k + 1) (kidsOf t)).1⟩ :: (ndsL n (k + 1) (kidsOf t)).2
def ndsL : Nat → Nat → List Tm → List Nat × List Nd
  | _, _, [] => ([], [])
  | n, k, t :: ts => (k :: (ndsL n (k + (nds n k t).length) ts).1, nds n k t ++ (ndsL n (k + (nds n k t).length) ts).2)
end
def nodeList (t : Tm) : List Nd := nds (nodes t) 0 t
end Go.Proofs.YtpdbkdcdlafobaaGreatDoor.L
end
section
namespace Go.Proofs.YtpdbkdcdlafobaaGreatDoor.L
theorem rowKids_two (a b : Tm) : rowKids [a, b] = [a, b] := rfl
theorem getLast_concat {α : Type} (l : List α) (a : α) : (l ++ [a]).getLast? = some a := by simp
theorem kids_nodes {t : Tm} (h : Ok t) : 1 + nodesL (kidsOf t) = nodes t ∧ ∀ k ∈ kidsOf t, Ok k := by
  cases h with
  | row ts h2 hk =>
    obtain ⟨l, z, rfl⟩ : ∃ l z, ts = l ++ [z] := by
      have hne : ts ≠ [] := List.ne_nil_of_length_pos (by omega)
      exact ⟨ts.dropLast, ts.getLast hne, (List.dropLast_concat_getLast hne).symm⟩
    have hz : Ok z := hk z (by simp)
    have hl : ∀ t ∈ l, Ok t := fun t ht => hk t (by simp [ht])
    simp only [List.length_append, List.length_singleton] at h2
    simp only [kidsOf, rowKids, getLast_concat, List.dropLast_concat]
    by_cases h1 : (l ++ [z]).length = 2
    · rw [if_pos h1]
      obtain ⟨a, rfl⟩ : ∃ a, l = [a] := List.length_eq_one_iff.1 (by simp at h1; omega)
      exact ⟨by simp [nodesL, nodes], fun k hk => by rcases List.mem_cons.1 hk with rfl | hk; exact hl _ (by simp); rw [List.mem_singleton.1 hk]; exact hz⟩
    · rw [if_neg h1]
      simp only [List.length_append, List.length_singleton] at h1
      refine ⟨by simp only [nodesL, nodes, nodesL_append, List.length_append, List.length_singleton]; omega, fun k hk => ?_⟩
      rcases List.mem_cons.1 hk with rfl | hk
      · exact .row _ (by omega) hl
      · rw [List.mem_singleton.1 hk]; exact hz
  | call t n ts hk => exact ⟨by simp [kidsOf, nodes], hk⟩
  | _ => refine ⟨by simp [kidsOf, nodes, nodesL] <;> omega, fun k hk => ?_⟩; simp only [kidsOf, List.mem_cons, List.not_mem_nil, or_false] at hk <;> first | (rcases hk with rfl | rfl | rfl <;> assumption) | (rcases hk with rfl | rfl <;> assumption) | (subst hk; assumption)
theorem nds_len : ∀ (n k : Nat) (t : Tm), Ok t → nodes t ≤ n → (nds n k t).length = nodes t
  | 0, _, t, h, hn => by have := h.pos; omega
  | n + 1, k, t, h, hn => by
    obtain ⟨h1, h2⟩ := kids_nodes h
    have hl : ∀ (ks : List Tm) (k : Nat), (∀ t ∈ ks, Ok t) → nodesL ks ≤ n → (ndsL n k ks).2.length = nodesL ks := by
      intro ks
      induction ks with
      | nil => intro k _ _; simp [ndsL, nodesL]
      | cons t ts ih =>
        intro k hk hn
        simp only [nodesL] at hn ⊢
        rw [ndsL, List.length_append, nds_len n k t (hk t (List.mem_cons_self ..)) (by omega), ih _ (fun u hu => hk u (List.mem_cons_of_mem _ hu)) (by omega)]
    rw [nds, List.length_cons, hl _ _ h2 (by omega)]; omega
theorem ndsL_len {n k : Nat} {ks : List Tm} (hk : ∀ t ∈ ks, Ok t) (hn : nodesL ks ≤ n) : (ndsL n k ks).2.length = nodesL ks := by
  induction ks generalizing k with
  | nil => simp [ndsL, nodesL]
  | cons t ts ih =>
    simp only [nodesL] at hn ⊢
    rw [ndsL, List.length_append, nds_len n k t (hk t (List.mem_cons_self ..)) (by omega), ih (fun u hu => hk u (List.mem_cons_of_mem _ hu)) (by omega)]
theorem ndsL_snoc (n : Nat) (u : Tm) : ∀ (ks : List Tm) (k : Nat), ndsL n k (ks ++ [u]) = ((ndsL n k ks).1 ++ [k + (ndsL n k ks).2.length], (ndsL n k ks).2 ++ nds n (k + (ndsL n k ks).2.length) u)
  | [], k => by simp [ndsL]
  | t :: ts, k => by
    rw [List.cons_append, ndsL, ndsL_snoc n u ts, ndsL]
    simp [Nat.add_assoc]
theorem ndsL_kids {n k : Nat} : ∀ {ks : List Tm}, (ndsL n k ks).1.length = ks.length
  | [] => by simp [ndsL]
  | t :: ts => by rw [ndsL, List.length_cons, List.length_cons, ndsL_kids]
end Go.Proofs.YtpdbkdcdlafobaaGreatDoor.L
end
