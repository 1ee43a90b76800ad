/- The sources of a class, letter by letter; plain. Hopcroft's partition: one letter of a class; plain. Hopcroft's partition: it ends, and its classes are the states that no word tells apart; plain. Hopcroft's partition: it ends; plain. The first partition: by ends; plain. The first partition: by ends; its rounds; plain. The classes at the end: two states are in one class just when no word tells them apart; plain. auto's least machine: leastO gives an answer with fuel n, and it is the least one; plain. Least. Least at every machine. What Both and Either tell; plain. together's closures. A region that draws its order, told by what each of its operations leaves behind: a fact of each value that stays true whatever the others do. Each operation is walked once, in whatever order they come up. Contracts of the program's functions, with no condition beyond what each theorem states. -/
import Derived.Test.YtldmjpnldgekaaaC07
import Derived.Test.YtldmjpnldgekaaaC04
import Derived.Test.YtldmjpnldgekaaaC01
import Derived.Test.YtldmjpnldgekaaaC03
import Derived.Test.YtldmjpnldgekaaaC02
section
namespace Go.Proofs.Ytldmjpnldgekaaa.A
/-- All ways told so far come from before the state s, or from it by letters before k; none is told twice. -/
def Bef (s k : Int) (acc : List (List Ar)) : Prop := ∀ q, (acc.getD q []).Nodup ∧ ∀ a ∈ acc.getD q [], a.1 < s ∨ (a.1 = s ∧ a.2 < k)
theorem addAr_nd (s : Int) : ∀ (row : List Int) (k : Int) (acc : List (List Ar)), Bef s k acc → Bef s (k + row.length) (addAr s k row acc)
  | [], k, acc, h => by simpa [addAr] using h
  | x :: r, k, acc, h => by
    rw [addAr, show k + ((x :: r).length : Int) = (k + 1) + (r.length : Int) by rw [List.length_cons]; omega]
    refine addAr_nd s r (k + 1) _ ?_
    split
    · exact fun q => ⟨(h q).1, fun a ha => by rcases (h q).2 a ha with h1 | h1 <;> omega⟩
    · intro q
      by_cases hq : x.toNat = q ∧ x.toNat < acc.length
      · obtain ⟨h1, h2⟩ := hq
        subst h1
        have e : (acc.set x.toNat (acc.getD x.toNat [] ++ [(s, k)])).getD x.toNat [] = acc.getD x.toNat [] ++ [(s, k)] := by simp [h2]
        rw [e]
        refine ⟨?_, ?_⟩
        · rw [List.nodup_append]
          refine ⟨(h _).1, by simp, ?_⟩
          intro a ha b hb e2
          rw [List.mem_singleton.1 hb] at e2
          have := (h _).2 a ha
          rw [e2] at this
          simp at this
        · intro a ha
          rcases List.mem_append.1 ha with ha | ha
          · rcases (h _).2 a ha with h1 | h1 <;> omega
          · rw [List.mem_singleton.1 ha]
            right
            simp
            omega
      · have e : (acc.set x.toNat (acc.getD x.toNat [] ++ [(s, k)])).getD q [] = acc.getD q [] := by
          simp only [List.getD_eq_getElem?_getD, List.getElem?_set]
          split
          · rename_i e
            have : ¬ x.toNat < acc.length := fun h2 => hq ⟨e, h2⟩
            subst e
            simp [this]
          · rfl
        rw [e]
        exact ⟨(h q).1, fun a ha => by rcases (h q).2 a ha with h1 | h1 <;> omega⟩
theorem addRows_nd : ∀ (rows : List (List Int)) (s : Int) (acc : List (List Ar)), Bef s 0 acc → ∀ q, ((addRows s rows acc).getD q []).Nodup
  | [], s, acc, h => fun q => (h q).1
  | row :: r, s, acc, h => by
    rw [addRows]
    refine addRows_nd r (s + 1) _ ?_
    intro q
    have := addAr_nd s row 0 acc h q
    exact ⟨this.1, fun a ha => by rcases this.2 a ha with h1 | h1 <;> omega⟩
theorem arrive_nd (m : Mac) (q : Nat) : ((arrive m).getD q []).Nodup := by
  refine addRows_nd m.next 0 _ (fun q => ?_) q
  have e : (List.replicate m.next.length ([] : List Ar)).getD q [] = [] := by
    simp only [List.getD_eq_getElem?_getD, List.getElem?_replicate]
    split <;> rfl
  rw [e]
  simp
/-- The ways into the states of a list. -/
def into (m : Mac) (xs : List Int) : List Ar := xs.flatMap fun x => (arrive m).getD x.toNat []
theorem into_mem {m : Mac} (hf : Fits m) {xs : List Int} (hx : ∀ x ∈ xs, 0 ≤ x ∧ x < m.next.length) (a : Ar) : a ∈ into m xs ↔ ((0 ≤ a.1 ∧ a.1 < m.next.length) ∧ (0 ≤ a.2 ∧ a.2 < m.letters)) ∧ lead m a.1 a.2 ∈ xs := by
  unfold into
  rw [List.mem_flatMap]
  constructor
  · rintro ⟨x, h1, h2⟩
    have := hx x h1
    obtain ⟨k1, k2⟩ := (arrive_mem hf (by omega) a).1 h2
    refine ⟨k1, ?_⟩
    rw [k2, show ((x.toNat : Nat) : Int) = x by omega]
    exact h1
  · rintro ⟨h1, h2⟩
    have := hx _ h2
    exact ⟨_, h2, (arrive_mem hf (by omega) a).2 ⟨h1, by omega⟩⟩
theorem into_nd {m : Mac} (hf : Fits m) : ∀ {xs : List Int}, (∀ x ∈ xs, 0 ≤ x ∧ x < m.next.length) → xs.Nodup → (into m xs).Nodup
  | [], _, _ => by simp [into]
  | x :: xs, hx, hnd => by
    obtain ⟨h1, h2⟩ := List.nodup_cons.1 hnd
    have hx' : ∀ y ∈ xs, 0 ≤ y ∧ y < m.next.length := fun y hy => hx y (.tail _ hy)
    have hx0 := hx x (.head _)
    have e : into m (x :: xs) = (arrive m).getD x.toNat [] ++ into m xs := by simp [into]
    rw [e, List.nodup_append]
    refine ⟨arrive_nd m _, into_nd hf hx' h2, ?_⟩
    intro a ha b hb e2
    subst e2
    obtain ⟨_, k2⟩ := (arrive_mem hf (by omega) a).1 ha
    obtain ⟨_, k3⟩ := (into_mem hf hx' a).1 hb
    rw [k2, show ((x.toNat : Nat) : Int) = x by omega] at k3
    exact h1 k3
/-- What is gathered of the ways L. -/
structure Gt (nl : Nat) (L : List Ar) (s : Gs) : Prop where
  len : s.1.length = nl
  src : ∀ k : Nat, k < nl → s.1.getD k [] = (L.filter fun a => decide (a.2 = (k : Int))).map Prod.fst
  nd : s.2.Nodup
  mem : ∀ x, x ∈ s.2 ↔ ∃ k : Nat, k < nl ∧ x = (k : Int) ∧ s.1.getD k [] ≠ []
theorem nodup_ints {N : Nat} {l : List Int} (h : l.Nodup) (hr : ∀ x ∈ l, 0 ≤ x ∧ x < N) : l.length ≤ N := by
  have h1 : (l.map Int.toNat).Nodup := by
    unfold List.Nodup
    rw [List.pairwise_map]
    refine h.imp_of_mem fun {x y} hx hy hne e => hne ?_
    have := hr x hx
    have := hr y hy
    omega
  have := nodup_nat N _ h1 (by
    intro x hx
    obtain ⟨y, hy, rfl⟩ := List.mem_map.1 hx
    have := hr y hy
    omega)
  simpa using this
theorem src_nd {L : List Ar} (h : L.Nodup) (k : Int) : ((L.filter fun a => decide (a.2 = k)).map Prod.fst).Nodup := by
  unfold List.Nodup
  rw [List.pairwise_map]
  refine (h.filter _).imp_of_mem fun {a b} ha hb hne e => hne ?_
  have h1 := (List.mem_filter.1 ha).2
  have h2 := (List.mem_filter.1 hb).2
  simp at h1 h2
  exact Prod.ext e (h1.trans h2.symm)
theorem gath1_ok {nl n : Nat} {L : List Ar} {s : Gs} {a : Ar} (h : Gt nl L s) (hl : nl ≤ big) (hn : n ≤ big) (hk : 0 ≤ a.2 ∧ a.2 < nl) (hnd : L.Nodup) (hr : ∀ b ∈ L, 0 ≤ b.1 ∧ b.1 < n) : ∃ s', gath1 a s = some s' ∧ Gt nl (L ++ [a]) s' := by
  have hka : a.2.toNat < nl := by omega
  have ek : ((a.2.toNat : Nat) : Int) = a.2 := by omega
  have h1 : (s.1.getD a.2.toNat []).length ≤ n := by
    rw [h.src _ hka]
    refine nodup_ints (src_nd hnd _) ?_
    intro x hx
    obtain ⟨b, hb, rfl⟩ := List.mem_map.1 hx
    exact hr b (List.mem_filter.1 hb).1
  have h2 : s.2.length ≤ nl := nodup_ints h.nd (fun x hx => by obtain ⟨k, k1, k2, _⟩ := (h.mem x).1 hx; omega)
  unfold gath1
  rw [if_pos ⟨hk.1, by rw [h.len]; exact hk.2, by omega, by omega⟩]
  have hg : ∀ k : Nat, (s.1.set a.2.toNat (s.1.getD a.2.toNat [] ++ [a.1])).getD k [] = if a.2.toNat = k then s.1.getD k [] ++ [a.1] else s.1.getD k [] := by
    intro k
    have hlt : a.2.toNat < s.1.length := by rw [h.len]; exact hka
    simp only [List.getD_eq_getElem?_getD, List.getElem?_set, hlt, if_true]
    split
    · rename_i e; subst e; simp
    · rfl
  refine ⟨_, rfl, by simpa using h.len, ?_, ?_, ?_⟩
  · intro k hk'
    simp only
    rw [hg, List.filter_append, List.map_append, ← h.src k hk']
    by_cases e : a.2.toNat = k
    · rw [if_pos e]
      have : a.2 = (k : Int) := by omega
      simp [this]
    · rw [if_neg e]
      have : ¬ a.2 = (k : Int) := by omega
      simp [this]
  · simp only
    split
    · rename_i h0
      rw [List.nodup_append]
      refine ⟨h.nd, by simp, ?_⟩
      intro x hx y hy e
      rw [List.mem_singleton.1 hy] at e
      obtain ⟨k, k1, k2, k3⟩ := (h.mem x).1 hx
      have : k = a.2.toNat := by omega
      subst this
      exact k3 (List.length_eq_zero_iff.1 h0)
    · exact h.nd
  · intro x
    simp only
    have hm := h.mem x
    constructor
    · intro hx
      have : x ∈ s.2 ∨ x = a.2 := by
        split at hx
        · simpa using hx
        · exact .inl hx
      rcases this with hx | hx
      · obtain ⟨k, k1, k2, k3⟩ := hm.1 hx
        refine ⟨k, k1, k2, ?_⟩
        rw [hg]
        split
        · simp
        · exact k3
      · refine ⟨a.2.toNat, hka, by omega, ?_⟩
        rw [hg, if_pos rfl]
        simp
    · rintro ⟨k, k1, k2, k3⟩
      rw [hg] at k3
      by_cases e : a.2.toNat = k
      · split
        · rename_i h0
          rw [List.mem_append, List.mem_singleton]
          right; omega
        · rename_i h0
          refine hm.2 ⟨k, k1, k2, ?_⟩
          subst e
          intro e2
          rw [e2] at h0
          exact h0 rfl
      · rw [if_neg e] at k3
        have := hm.2 ⟨k, k1, k2, k3⟩
        split
        · exact List.mem_append_left _ this
        · exact this
theorem gathW_ok {nl n : Nat} (hl : nl ≤ big) (hn : n ≤ big) : ∀ (l L : List Ar) (s : Gs), Gt nl L s → (L ++ l).Nodup → (∀ b ∈ L ++ l, (0 ≤ b.1 ∧ b.1 < n) ∧ (0 ≤ b.2 ∧ b.2 < nl)) → ∃ s', gathW l s = some s' ∧ Gt nl (L ++ l) s'
  | [], L, s, h, _, _ => ⟨s, rfl, by simpa using h⟩
  | a :: l, L, s, h, hnd, hr => by
    obtain ⟨s1, h1, h2⟩ := gath1_ok (a := a) h hl hn (hr a (by simp)).2 (List.nodup_append.1 hnd).1 (fun b hb => (hr b (List.mem_append_left _ hb)).1)
    unfold gathW
    rw [h1]
    simp only
    have e : L ++ a :: l = (L ++ [a]) ++ l := by simp
    rw [e] at hnd hr ⊢
    exact gathW_ok hl hn l _ s1 h2 hnd hr
theorem gathS_ok {m : Mac} (hw : Short (arrive m) 30000000) {nl n : Nat} (hl : nl ≤ big) (hn : n ≤ big) : ∀ (xs : List Int) (L : List Ar) (s : Gs), Gt nl L s → (∀ x ∈ xs, 0 ≤ x ∧ x < m.next.length) → (L ++ into m xs).Nodup → (∀ b ∈ L ++ into m xs, (0 ≤ b.1 ∧ b.1 < n) ∧ (0 ≤ b.2 ∧ b.2 < nl)) → ∃ s', gathS (arrive m) xs s = some s' ∧ Gt nl (L ++ into m xs) s'
  | [], L, s, h, _, _, _ => ⟨s, rfl, by simpa [into] using h⟩
  | x :: xs, L, s, h, hx, hnd, hr => by
    have e : L ++ into m (x :: xs) = (L ++ (arrive m).getD x.toNat []) ++ into m xs := by simp [into]
    rw [e] at hnd hr ⊢
    obtain ⟨s1, h1, h2⟩ := gathW_ok hl hn ((arrive m).getD x.toNat []) L s h (List.nodup_append.1 hnd).1 (fun b hb => hr b (List.mem_append_left _ hb))
    have hx0 := hx x (.head _)
    unfold gathS
    rw [if_pos ⟨hx0.1, by rw [arrive_length]; exact hx0.2, Nat.le_trans (hw _) (by unfold big; omega)⟩, h1]
    exact gathS_ok hw hl hn xs _ s1 h2 (fun y hy => hx y (.tail _ hy)) hnd hr
end Go.Proofs.Ytldmjpnldgekaaa.A
end
section
namespace Go.Proofs.Ytldmjpnldgekaaa.A
open Classical in
/-- The class of a state, -1 if nothing lives there. -/
noncomputable def kap (m : Mac) (g : Gh) (x : Int) : Int := if Alive m x then (g.c x.toNat : Int) else -1
theorem mem_span {K K' : Nat} {x : Int} : x ∈ span K K' ↔ (K : Int) ≤ x ∧ x < (K' : Int) := by
  unfold span
  rw [List.mem_map]
  constructor
  · rintro ⟨i, h1, rfl⟩
    have := List.mem_range.1 h1
    omega
  · rintro ⟨h1, h2⟩
    exact ⟨x.toNat - K, List.mem_range.2 (by omega), by omega⟩
theorem span_length (K K' : Nat) : (span K K').length = K' - K := by simp [span]
/-- Two states' classes agree, or one of them is still to be done. -/
def Near (m : Mac) (g : Gh) (tl : List Int) (x y : Int) : Prop := kap m g x = kap m g y ∨ kap m g x ∈ tl ∨ kap m g y ∈ tl
/-- The partition gets finer: a state keeps its class's number, or gets a new one that is to be done. -/
def Finer (m : Mac) (g g' : Gh) (tl tl' : List Int) : Prop := (∀ x ∈ tl, x ∈ tl') ∧ ∀ x, In m x → kap m g' x = kap m g x ∨ kap m g' x ∈ tl'
theorem Near.finer {m : Mac} {g g' : Gh} {tl tl' : List Int} {x y : Int} (hx : In m x) (hy : In m y) (F : Finer m g g' tl tl') (h : Near m g tl x y) : Near m g' tl' x y := by
  rcases F.2 x hx with e1 | e1
  · rcases F.2 y hy with e2 | e2
    · unfold Near
      rw [e1, e2]
      rcases h with h | h | h
      · exact .inl h
      · exact .inr (.inl (F.1 _ h))
      · exact .inr (.inr (F.1 _ h))
    · exact .inr (.inr e2)
  · exact .inr (.inl e1)
/-- What holds between two letters of a class that is done: xs are its states, ls the letters that are left. -/
structure Hop (m : Mac) (N K : Nat) (g : Gh) (d : Pd) (tl : List Int) (xs : List Int) (c : Int) (ls : List Int) : Prop where
  part : Part m.next.length N K (fun s => Alive m s) (fun _ => False) g d
  tlen : tl.length ≤ K
  trng : ∀ x ∈ tl, 0 ≤ x ∧ x < (K : Int)
  near : ∀ s t : Nat, s < m.next.length → t < m.next.length → Alive m s → Alive m t → g.c s = g.c t → ∀ a, 0 ≤ a → a < m.letters → Near m g tl (lead m s a) (lead m t a) ∨ (a ∈ ls ∧ (lead m s a ∈ xs ∨ lead m t a ∈ xs))
  own : ∀ x ∈ xs, kap m g x = c ∨ kap m g x ∈ tl
  fine : ∀ s t : Nat, s < m.next.length → t < m.next.length → Alive m s → Alive m t → g.c s ≠ g.c t → Tell m s t
  ends : ∀ s t : Nat, s < m.next.length → t < m.next.length → Alive m s → Alive m t → g.c s = g.c t → m.fin.getD s false = m.fin.getD t false
theorem Hop.letter {m : Mac} (hf : Fits m) {N K : Nat} {g : Gh} {d : Pd} {tl xs ls ws : List Int} {c a : Int} (h : Hop m N K g d tl xs c (a :: ls)) (hN : N ≤ big) (ha : 0 ≤ a ∧ a < m.letters)
    (hx : ∀ x ∈ xs, In m x ∧ Alive m x) (hxs : ∀ x y, In m x → In m y → x ∈ xs → y ∉ xs → Tell m x y) (hnd : ws.Nodup) (hws : ∀ x, x ∈ ws ↔ ((0 ≤ x ∧ x < m.next.length) ∧ lead m x a ∈ xs)) :
    ∃ d' g' K', divideO d ws = some (d', span K K') ∧ K ≤ K' ∧ Hop m N K' g' d' (tl ++ span K K') xs c ls := by
  obtain ⟨d', g', K', e1, e2, e3, e4, e5⟩ := divide_ok h.part hN hnd (fun x hxw => by
    obtain ⟨k1, k2⟩ := (hws x).1 hxw
    have ex : ((x.toNat : Nat) : Int) = x := by omega
    exact ⟨x.toNat, ex.symm, by omega, by rw [ex]; exact Alive.step ha.1 ha.2 (hx _ k2).2⟩)
  have F : Finer m g g' tl (tl ++ span K K') := by
    refine ⟨fun x hx => List.mem_append_left _ hx, fun x hi => ?_⟩
    unfold kap
    split
    · rename_i hal
      obtain ⟨k1, k2⟩ := alive_in hi hal
      have hal' : Alive m ((x.toNat : Nat) : Int) := by rw [k2]; exact hal
      rcases e5 _ k1 hal' with k3 | k3
      · exact .inl (by rw [k3])
      · have := (e3.pr _ k1 hal').2.2
        exact .inr (List.mem_append_right _ (mem_span.2 (by omega)))
    · exact .inl rfl
  have hIn : ∀ s : Nat, s < m.next.length → In m (s : Int) := fun s hs => ⟨by omega, by omega⟩
  have hmem : ∀ s : Nat, s < m.next.length → ((s : Int) ∈ ws ↔ lead m s a ∈ xs) := fun s hs => by
    rw [hws]
    exact ⟨fun h => h.2, fun h => ⟨by omega, h⟩⟩
  refine ⟨d', g', K', e1, e2, e3, ?_, ?_, ?_, ?_, ?_, ?_⟩
  · rw [List.length_append, span_length]
    have := h.tlen
    omega
  · intro x hx
    rcases List.mem_append.1 hx with hx | hx
    · have := h.trng x hx; omega
    · have := mem_span.1 hx; omega
  · intro s t hs ht hAs hAt hc b hb hbl
    obtain ⟨k1, k2⟩ := (e4 s t hs ht hAs hAt).1 hc
    have i1 := hf.lead (hIn s hs) hb hbl
    have i2 := hf.lead (hIn t ht) hb hbl
    rcases h.near s t hs ht hAs hAt k1 b hb hbl with hn | ⟨hb2, hn⟩
    · exact .inl (hn.finer i1 i2 F)
    · rcases List.mem_cons.1 hb2 with rfl | hb3
      · rw [hmem s hs, hmem t ht] at k2
        have both : lead m s b ∈ xs ∧ lead m t b ∈ xs := by
          rcases hn with hn | hn
          · exact ⟨hn, k2.1 hn⟩
          · exact ⟨k2.2 hn, hn⟩
        have hnear : Near m g tl (lead m s b) (lead m t b) := by
          rcases h.own _ both.1 with o1 | o1
          · rcases h.own _ both.2 with o2 | o2
            · exact .inl (o1.trans o2.symm)
            · exact .inr (.inr o2)
          · exact .inr (.inl o1)
        exact .inl (hnear.finer i1 i2 F)
      · exact .inr ⟨hb3, hn⟩
  · intro x hxx
    rcases F.2 x (hx x hxx).1 with k | k
    · rw [k]
      rcases h.own x hxx with o | o
      · exact .inl o
      · exact .inr (F.1 _ o)
    · exact .inr k
  · intro s t hs ht hAs hAt hne
    by_cases hc : g.c s = g.c t
    · have : ¬ ((s : Int) ∈ ws ↔ (t : Int) ∈ ws) := fun h2 => hne ((e4 s t hs ht hAs hAt).2 ⟨hc, h2⟩)
      rw [hmem s hs, hmem t ht] at this
      have i1 := hf.lead (hIn s hs) ha.1 ha.2
      have i2 := hf.lead (hIn t ht) ha.1 ha.2
      refine Tell.step ha.1 ha.2 ?_
      by_cases h1 : lead m s a ∈ xs
      · exact hxs _ _ i1 i2 h1 (fun h2 => this ⟨fun _ => h2, fun _ => h1⟩)
      · have h2 : lead m t a ∈ xs := by
          refine Classical.byContradiction fun h2 => this ⟨fun h3 => absurd h3 h1, fun h3 => absurd h3 h2⟩
        exact (hxs _ _ i2 i1 h2 h1).symm
    · exact h.fine s t hs ht hAs hAt hc
  · intro s t hs ht hAs hAt hc
    exact h.ends s t hs ht hAs hAt ((e4 s t hs ht hAs hAt).1 hc).1
end Go.Proofs.Ytldmjpnldgekaaa.A
end
section
namespace Go.Proofs.Ytldmjpnldgekaaa.A
/-- A letter's sources, as they are gathered. -/
structure Srs (m : Mac) (xs ws : List Int) (a : Int) : Prop where
  rng : 0 ≤ a ∧ a < m.letters
  some_ : ws ≠ []
  nd : ws.Nodup
  mem : ∀ x, x ∈ ws ↔ ((0 ≤ x ∧ x < m.next.length) ∧ lead m x a ∈ xs)
theorem lettersO_ok {m : Mac} (hf : Fits m) (hn : m.next.length ≤ 100000) {N : Nat} (hN : N ≤ big) {xs : List Int} {c : Int} (hx : ∀ x ∈ xs, In m x ∧ Alive m x) (hxs : ∀ x y, In m x → In m y → x ∈ xs → y ∉ xs → Tell m x y) {nl : Nat} (hnl : (nl : Int) = m.letters) :
    ∀ (ls : List Int) (K : Nat) (g : Gh) (d : Pd) (tl : List Int) (srcs : List (List Int)), Hop m N K g d tl xs c ls → srcs.length = nl → ls.Nodup → (∀ a ∈ ls, Srs m xs (srcs.getD a.toNat []) a) →
    ∃ d' g' K' tl' srcs', lettersO ls d srcs tl = some (d', srcs', tl') ∧ K ≤ K' ∧ tl'.length + K = tl.length + K' ∧ Hop m N K' g' d' tl' xs c [] ∧ srcs'.length = nl ∧ ∀ k : Nat, srcs'.getD k [] = if (k : Int) ∈ ls then [] else srcs.getD k []
  | [], K, g, d, tl, srcs, h, hl, _, _ => ⟨d, g, K, tl, srcs, rfl, Nat.le_refl _, rfl, h, hl, fun k => by simp⟩
  | a :: ls, K, g, d, tl, srcs, h, hl, hnd, hs => by
    obtain ⟨s1, s2, s3, s4⟩ := hs a (.head _)
    obtain ⟨n1, n2⟩ := List.nodup_cons.1 hnd
    have hlt : a.toNat < srcs.length := by omega
    have hlen : (srcs.getD a.toNat []).length ≤ m.next.length := nodup_ints s3 (fun x hx => ((s4 x).1 hx).1)
    obtain ⟨d1, g1, K1, e1, e2, e3⟩ := h.letter hf hN s1 hx hxs s3 s4
    have hfew := e3.part.few
    have htl := e3.tlen
    have hset : ∀ k : Nat, (srcs.set a.toNat []).getD k [] = if a.toNat = k then [] else srcs.getD k [] := by
      intro k
      simp only [List.getD_eq_getElem?_getD, List.getElem?_set, hlt, if_true]
      split <;> simp
    obtain ⟨d', g', K', tl', srcs', f1, f2, f3, f4, f5, f6⟩ := lettersO_ok hf hn hN hx hxs hnl ls K1 g1 d1 _ (srcs.set a.toNat []) e3 (by simpa using hl) n2 (fun b hb => by
      have hb1 := hs b (.tail _ hb)
      have : a.toNat ≠ b.toNat := by
        intro e
        have := hb1.rng
        exact n1 ((by omega : b = a) ▸ hb)
      rw [hset, if_neg this]
      exact hb1)
    refine ⟨d', g', K', tl', srcs', ?_, Nat.le_trans e2 f2, ?_, f4, f5, ?_⟩
    · unfold lettersO
      rw [if_pos ⟨s1.1, by omega, List.length_pos_iff.2 s2, by omega⟩, e1]
      simp only
      rw [if_pos (by rw [List.length_append] at htl; omega)]
      exact f1
    · rw [List.length_append, span_length] at f3
      omega
    · intro k
      rw [f6, hset]
      by_cases e : (k : Int) ∈ ls
      · rw [if_pos e, if_pos (List.mem_cons_of_mem _ e)]
      · rw [if_neg e]
        by_cases e2 : a.toNat = k
        · rw [if_pos e2, if_pos (by rw [List.mem_cons]; left; omega)]
        · rw [if_neg e2, if_neg]
          rw [List.mem_cons]
          rintro (h | h)
          · omega
          · exact e h
theorem partOf_eq {n N K : Nat} {A M : Nat → Prop} {g : Gh} {d : Pd} (h : Part n N K A M g d) {k : Nat} (hk : k < K) : partOf d (g.b k) (g.e k) = (List.range (g.e k - g.b k)).map fun i => ((g.r (g.b k + i) : Nat) : Int) := by
  obtain ⟨b1, b2, b3⟩ := h.be k hk
  have hrl := h.rl
  unfold partOf
  apply List.ext_getElem
  · simp; omega
  · intro i h1 h2
    have hi : i < g.e k - g.b k := by simpa using h2
    have := h.er (g.b k + i) (by omega)
    have hlt : g.b k + i < d.row.length := by omega
    simp [hlt] at this
    simp [this]
theorem partOf_mem {n N K : Nat} {A M : Nat → Prop} {g : Gh} {d : Pd} (h : Part n N K A M g d) {k : Nat} (hk : k < K) (x : Int) : x ∈ partOf d (g.b k) (g.e k) ↔ ∃ s : Nat, x = (s : Int) ∧ s < n ∧ A s ∧ g.c s = k := by
  obtain ⟨b1, b2, b3⟩ := h.be k hk
  rw [partOf_eq h hk, List.mem_map]
  constructor
  · rintro ⟨i, hi, rfl⟩
    have hi' := List.mem_range.1 hi
    obtain ⟨r1, r2, r3⟩ := h.rp (g.b k + i) (by omega)
    exact ⟨_, rfl, r1, r2, (h.io _ r1 r2 k hk).2 (by omega)⟩
  · rintro ⟨s, rfl, hs, hA, hc⟩
    obtain ⟨p1, p2, p3⟩ := h.pr s hs hA
    have := (h.io s hs hA k hk).1 hc
    exact ⟨g.p s - g.b k, List.mem_range.2 (by omega), by rw [show g.b k + (g.p s - g.b k) = g.p s by omega, p2]⟩
theorem partOf_nd {n N K : Nat} {A M : Nat → Prop} {g : Gh} {d : Pd} (h : Part n N K A M g d) {k : Nat} (hk : k < K) : (partOf d (g.b k) (g.e k)).Nodup := by
  obtain ⟨b1, b2, b3⟩ := h.be k hk
  rw [partOf_eq h hk]
  unfold List.Nodup
  rw [List.pairwise_map]
  refine List.nodup_range.imp_of_mem fun {i j} hi hj hne e => hne ?_
  have hi' := List.mem_range.1 hi
  have hj' := List.mem_range.1 hj
  have r1 := (h.rp (g.b k + i) (by omega)).2.2
  have r2 := (h.rp (g.b k + j) (by omega)).2.2
  have e' : g.r (g.b k + i) = g.r (g.b k + j) := by omega
  rw [e'] at r1
  omega
end Go.Proofs.Ytldmjpnldgekaaa.A
end
section
namespace Go.Proofs.Ytldmjpnldgekaaa.A
theorem kap_alive {m : Mac} {g : Gh} {x : Int} (h : Alive m x) : kap m g x = (g.c x.toNat : Int) := by
  unfold kap; rw [if_pos h]
theorem kap_dead {m : Mac} {g : Gh} {x : Int} (h : ¬ Alive m x) : kap m g x = -1 := by
  unfold kap; rw [if_neg h]
theorem classO_ok {m : Mac} (hf : Fits m) (hn : m.next.length ≤ 100000) (hl3 : m.letters ≤ 300) {N : Nat} (hN : N ≤ big) {nl : Nat} (hnl : (nl : Int) = m.letters) :
    ∀ (f K : Nat) (g : Gh) (d : Pd) (tl : List Int) (srcs : List (List Int)), Hop m N K g d tl [] 0 [] → srcs.length = nl → (∀ k : Nat, srcs.getD k [] = []) → tl.length + N ≤ f + K →
    ∃ d' g' K', classO (arrive m) f d srcs tl = some d' ∧ Hop m N K' g' d' [] [] 0 []
  | f, K, g, d, tl, srcs, h, hl, he, hfu => by
    have hfew := h.part.few
    unfold classO
    by_cases h0 : tl.length = 0
    · rw [if_pos h0]
      have : tl = [] := List.length_eq_zero_iff.1 h0
      subst this
      exact ⟨d, g, K, rfl, h⟩
    · rw [if_neg h0]
      match f, hfu with
      | 0, hfu => omega
      | f + 1, hfu =>
        simp only
        have hlt : tl.length - 1 < tl.length := by omega
        have ec : tl.getD (tl.length - 1) 0 = tl[tl.length - 1] := by simp [hlt]
        have hc := h.trng _ (List.getElem_mem hlt)
        rw [← ec] at hc
        have hsplit : ∀ x, x ∈ tl ↔ x ∈ tl.take (tl.length - 1) ∨ x = tl.getD (tl.length - 1) 0 := by
          intro x
          have : tl = tl.take (tl.length - 1) ++ [tl.getD (tl.length - 1) 0] := by
            rw [ec]
            conv => lhs; rw [← List.take_append_drop (tl.length - 1) tl]
            congr 1
            rw [List.drop_eq_getElem_cons hlt, List.drop_of_length_le (by omega)]
          conv => lhs; rw [this]
          simp
        generalize tl.getD (tl.length - 1) 0 = c at hc hsplit ⊢
        have hk : c.toNat < K := by omega
        have eck : ((c.toNat : Nat) : Int) = c := by omega
        obtain ⟨b1, b2, b3⟩ := h.part.be _ hk
        have hrl := h.part.rl
        rw [if_pos hc.1, natO_is (by rw [h.part.bl]; exact hk) (h.part.eb _ hk)]
        simp only
        rw [natO_is (by rw [h.part.fl]; exact hk) (h.part.ef _ hk)]
        simp only
        rw [if_pos ⟨b1, by omega, by omega⟩]
        have hmem := partOf_mem h.part hk
        have hpnd := partOf_nd h.part hk
        generalize partOf d (g.b c.toNat) (g.e c.toNat) = xs at hmem hpnd ⊢
        have hrng : ∀ x ∈ xs, 0 ≤ x ∧ x < m.next.length := fun x hx => by
          obtain ⟨s, rfl, k1, _⟩ := (hmem x).1 hx
          omega
        have hxal : ∀ x ∈ xs, In m x ∧ Alive m x := fun x hx => by
          obtain ⟨s, rfl, k1, k2, _⟩ := (hmem x).1 hx
          exact ⟨⟨by omega, by omega⟩, k2⟩
        have hxs : ∀ x y, In m x → In m y → x ∈ xs → y ∉ xs → Tell m x y := by
          intro x y hix hiy hx hy
          obtain ⟨s, rfl, k1, k2, k3⟩ := (hmem x).1 hx
          by_cases hay : Alive m y
          · obtain ⟨j1, j2⟩ := alive_in hiy hay
            have hay' : Alive m ((y.toNat : Nat) : Int) := by rw [j2]; exact hay
            have := h.fine s y.toNat k1 j1 k2 hay' (fun e => hy ((hmem y).2 ⟨y.toNat, j2.symm, j1, hay', by omega⟩))
            rw [j2] at this
            exact this
          · exact alive_tell k2 hay
        have hG0 : Gt nl [] (srcs, []) := ⟨hl, fun k _ => by rw [he]; rfl, List.nodup_nil, fun x => ⟨fun hx => absurd hx (by simp), fun ⟨k, _, _, k3⟩ => absurd (he k) k3⟩⟩
        obtain ⟨s', g1, g2⟩ := gathS_ok (m := m) (waysOk.short (waysOk_all hf hn hl3)) (nl := nl) (n := m.next.length) (by unfold big; omega) (by unfold big; omega) xs [] (srcs, []) hG0 hrng (by simpa using into_nd hf hrng hpnd) (fun b hb => by
          have := (into_mem hf hrng b).1 (by simpa using hb)
          exact ⟨this.1.1, by rw [hnl]; exact this.1.2⟩)
        obtain ⟨srcs1, ls⟩ := s'
        rw [List.nil_append] at g2
        have hls : ls.length ≤ nl := nodup_ints g2.nd (fun x hx => by obtain ⟨k, k1, k2, _⟩ := (g2.mem x).1 hx; omega)
        rw [g1]
        simp only
        rw [if_pos (by unfold big; omega)]
        have hsrc : ∀ a : Int, 0 ≤ a → a < m.letters → ∀ x, x ∈ srcs1.getD a.toNat [] ↔ ((0 ≤ x ∧ x < m.next.length) ∧ lead m x a ∈ xs) := by
          intro a ha hal x
          have hs := g2.src a.toNat (by omega)
          simp only at hs
          rw [hs, List.mem_map]
          have ea : ((a.toNat : Nat) : Int) = a := by omega
          rw [ea]
          constructor
          · rintro ⟨b, hb, rfl⟩
            obtain ⟨f1, f2⟩ := List.mem_filter.1 hb
            have e2 : b.2 = a := by simpa using f2
            have := (into_mem hf hrng b).1 f1
            rw [e2] at this
            exact ⟨this.1.1, this.2⟩
          · rintro ⟨k1, k2⟩
            exact ⟨(x, a), List.mem_filter.2 ⟨(into_mem hf hrng (x, a)).2 ⟨⟨k1, ha, hal⟩, k2⟩, by simp⟩, rfl⟩
        have hmls : ∀ a : Int, a ∈ ls ↔ (0 ≤ a ∧ a < m.letters) ∧ srcs1.getD a.toNat [] ≠ [] := by
          intro a
          have := g2.mem a
          simp only at this
          rw [this]
          constructor
          · rintro ⟨k, k1, rfl, k3⟩
            exact ⟨by omega, by simpa using k3⟩
          · rintro ⟨k1, k2⟩
            exact ⟨a.toNat, by omega, by omega, k2⟩
        have hkx : ∀ x, In m x → kap m g x = c → x ∈ xs := by
          intro x hi e
          by_cases hal : Alive m x
          · rw [kap_alive hal] at e
            obtain ⟨j1, j2⟩ := alive_in hi hal
            exact (hmem x).2 ⟨x.toNat, j2.symm, j1, by rw [j2]; exact hal, by omega⟩
          · rw [kap_dead hal] at e; omega
        have hop : Hop m N K g d (tl.take (tl.length - 1)) xs c ls := by
          refine ⟨h.part, ?_, fun x hx => h.trng x ((hsplit x).2 (.inl hx)), ?_, ?_, h.fine, h.ends⟩
          · have := h.tlen
            rw [List.length_take]; omega
          · intro s t hs ht hAs hAt hcc a ha hal
            have i1 := hf.lead (s := (s : Int)) ⟨by omega, by omega⟩ ha hal
            have i2 := hf.lead (s := (t : Int)) ⟨by omega, by omega⟩ ha hal
            have hin : ∀ u : Nat, u < m.next.length → lead m u a ∈ xs → a ∈ ls := by
              intro u hu hm
              refine (hmls a).2 ⟨⟨ha, hal⟩, fun e => ?_⟩
              have := (hsrc a ha hal (u : Int)).2 ⟨by omega, hm⟩
              rw [e] at this
              simp at this
            rcases h.near s t hs ht hAs hAt hcc a ha hal with hn | ⟨hn, _⟩
            · rcases hn with hn | hn | hn
              · exact .inl (.inl hn)
              · rcases (hsplit _).1 hn with hn | hn
                · exact .inl (.inr (.inl hn))
                · have := hkx _ i1 hn
                  exact .inr ⟨hin s hs this, .inl this⟩
              · rcases (hsplit _).1 hn with hn | hn
                · exact .inl (.inr (.inr hn))
                · have := hkx _ i2 hn
                  exact .inr ⟨hin t ht this, .inr this⟩
            · cases hn
          · intro x hx
            obtain ⟨s, rfl, k1, k2, k3⟩ := (hmem x).1 hx
            left
            rw [kap_alive k2]
            simp only [Int.toNat_natCast]
            omega
        have hsl : srcs1.length = nl := g2.len
        obtain ⟨d1, g', K1, tl1, srcs2, f1, f2, f3, f4, f5, f6⟩ := lettersO_ok hf hn hN hxal hxs hnl ls K g d _ srcs1 hop hsl g2.nd (fun a ha => by
          obtain ⟨k1, k2⟩ := (hmls a).1 ha
          refine ⟨k1, k2, ?_, hsrc a k1.1 k1.2⟩
          have hs := g2.src a.toNat (by omega)
          simp only at hs
          rw [hs]
          exact src_nd (into_nd hf hrng hpnd) _)
        rw [f1]
        simp only
        refine classO_ok hf hn hl3 hN hnl f K1 g' d1 tl1 srcs2 ⟨f4.part, f4.tlen, f4.trng, ?_, fun x hx => absurd hx (by simp), f4.fine, f4.ends⟩ f5 ?_ ?_
        · intro s t hs ht hAs hAt hcc a ha hal
          rcases f4.near s t hs ht hAs hAt hcc a ha hal with hn | ⟨hn, _⟩
          · exact .inl hn
          · cases hn
        · intro k
          rw [f6]
          split
          · rfl
          · rename_i hnk
            by_cases hkl : k < nl
            · refine Classical.byContradiction fun hne => hnk ((hmls _).2 ⟨by omega, by simpa using hne⟩)
            · simp only [List.getD_eq_getElem?_getD]
              rw [List.getElem?_eq_none (by omega)]
              rfl
        · rw [List.length_take] at f3
          omega
end Go.Proofs.Ytldmjpnldgekaaa.A
end
section
namespace Go.Proofs.Ytldmjpnldgekaaa.A
/-- A partition that is being built: S are put in, T are in classes, those that stand before N0. -/
structure Bld (n N N0 K : Nat) (S T : Nat → Prop) (g : Gh) (d : Pd) : Prop where
  rl : d.row.length = N
  pl : d.place.length = n
  cl : d.cls.length = n
  bl : d.beg.length = K
  fl : d.fin.length = K
  ml : d.mkd.length = K
  le : N0 ≤ N
  er : ∀ i, i < N → d.row.getD i 0 = (g.r i : Int)
  ep : ∀ s, s < n → S s → d.place.getD s 0 = (g.p s : Int)
  rp : ∀ i, i < N → g.r i < n ∧ S (g.r i) ∧ g.p (g.r i) = i
  pr : ∀ s, s < n → S s → g.p s < N ∧ g.r (g.p s) = s
  tS : ∀ s, s < n → (T s ↔ S s ∧ g.p s < N0)
  ec : ∀ s, s < n → T s → d.cls.getD s 0 = (g.c s : Int) ∧ g.c s < K
  eb : ∀ k, k < K → d.beg.getD k 0 = (g.b k : Int)
  ef : ∀ k, k < K → d.fin.getD k 0 = (g.e k : Int)
  em : ∀ k, k < K → d.mkd.getD k 0 = 0
  be : ∀ k, k < K → g.b k < g.e k ∧ g.e k ≤ N0
  io : ∀ s, s < n → T s → ∀ k, k < K → (g.c s = k ↔ g.b k ≤ g.p s ∧ g.p s < g.e k)
theorem Bld.put {n N N0 K : Nat} {S T : Nat → Prop} {g : Gh} {d : Pd} (h : Bld n N N0 K S T g d) {k : Nat} (hk : k < n) (hS : ¬ S k) :
    Bld n (N + 1) N0 K (fun t => S t ∨ t = k) T { g with r := fun i => if i = N then k else g.r i, p := fun t => if t = k then N else g.p t } { d with place := d.place.set k (d.row.length : Int), row := d.row ++ [(k : Int)] } := by
  have hT : ∀ s, s < n → T s → s ≠ k := fun s hs ht e => hS (e ▸ ((h.tS s hs).1 ht).1)
  refine ⟨by simp [h.rl], by simpa using h.pl, h.cl, h.bl, h.fl, h.ml, by have := h.le; omega, ?_, ?_, ?_, ?_, ?_, h.ec, h.eb, h.ef, h.em, h.be, ?_⟩
  · intro i hi
    simp only
    rw [getD_app1 (n := N) h.rl]
    split
    · rfl
    · exact h.er i (by omega)
  · intro s hs hSs
    simp only
    rw [getD_setH (by rw [h.pl]; exact hk), h.rl]
    by_cases e : s = k
    · rw [if_pos e.symm, if_pos e]
    · rw [if_neg (fun e2 => e e2.symm), if_neg e]
      exact h.ep s hs (hSs.resolve_right e)
  · intro i hi
    simp only
    by_cases e : i = N
    · rw [if_pos e]
      exact ⟨hk, .inr rfl, by rw [if_pos rfl, e]⟩
    · rw [if_neg e]
      obtain ⟨k1, k2, k3⟩ := h.rp i (by omega)
      have hne : g.r i ≠ k := fun e2 => hS (e2 ▸ k2)
      exact ⟨k1, .inl k2, by rw [if_neg hne]; exact k3⟩
  · intro s hs hSs
    simp only
    by_cases e : s = k
    · simp only [e, if_true]
      exact ⟨Nat.lt_succ_self N, trivial⟩
    · simp only [e, if_false]
      obtain ⟨k1, k2⟩ := h.pr s hs (hSs.resolve_right e)
      refine ⟨by omega, ?_⟩
      rw [if_neg (by omega)]
      exact k2
  · intro s hs
    simp only
    have hle := h.le
    by_cases e : s = k
    · simp only [e, if_true]
      constructor
      · intro ht; exact absurd rfl (hT k hk ht)
      · rintro ⟨_, h2⟩; omega
    · simp only [e, if_false, or_false]
      exact h.tS s hs
  · intro s hs ht j hj
    simp only
    rw [if_neg (hT s hs ht)]
    exact h.io s hs ht j hj
theorem Bld.class_ {n N N0 K : Nat} {S T : Nat → Prop} {g : Gh} {d : Pd} (h : Bld n N N0 K S T g d) (hlt : N0 < N) :
    Bld n N N (K + 1) S S { g with c := fun t => if N0 ≤ g.p t then K else g.c t, b := fun j => if j = K then N0 else g.b j, e := fun j => if j = K then N else g.e j } (d.added N0 N) := by
  have hrow : ∀ i, i < N - N0 → d.row.getD (N0 + i) 0 = (g.r (N0 + i) : Int) ∧ g.r (N0 + i) < d.cls.length := fun i hi =>
    ⟨h.er _ (by omega), by rw [h.cl]; exact (h.rp _ (by omega)).1⟩
  refine ⟨h.rl, h.pl, by simp only [Pd.added]; rw [clsTo_len]; exact h.cl, by simp [Pd.added, h.bl], by simp [Pd.added, h.fl], by simp [Pd.added, h.ml], Nat.le_refl _, h.er, h.ep, h.rp, h.pr, fun s hs => ⟨fun hS => ⟨hS, (h.pr s hs hS).1⟩, fun hS => hS.1⟩, ?_, ?_, ?_, ?_, ?_, ?_⟩
  · intro s hs hS
    simp only [Pd.added]
    rw [h.bl, clsTo_get (r := g.r) s _ hrow]
    obtain ⟨k1, k2⟩ := h.pr s hs hS
    by_cases e : N0 ≤ g.p s
    · rw [if_pos e, if_pos ⟨g.p s - N0, by omega, by rw [show N0 + (g.p s - N0) = g.p s by omega]; exact k2⟩]
      exact ⟨rfl, by omega⟩
    · have hT := (h.tS s hs).2 ⟨hS, by omega⟩
      rw [if_neg e, if_neg]
      · have := h.ec s hs hT
        exact ⟨this.1, by omega⟩
      · rintro ⟨i, hi, rfl⟩
        have := (h.rp (N0 + i) (by omega)).2.2
        omega
  · intro j hj
    simp only [Pd.added]
    rw [getD_app1 (n := K) h.bl]
    split
    · rfl
    · exact h.eb j (by omega)
  · intro j hj
    simp only [Pd.added]
    rw [getD_app1 (n := K) h.fl]
    split
    · rfl
    · exact h.ef j (by omega)
  · intro j hj
    simp only [Pd.added]
    rw [getD_app1 (n := K) h.ml]
    split
    · rfl
    · exact h.em j (by omega)
  · intro j hj
    simp only
    by_cases e : j = K
    · simp only [e, if_true]; omega
    · simp only [e, if_false]
      have := h.be j (by omega)
      omega
  · intro s hs hS j hj
    simp only
    obtain ⟨k1, k2⟩ := h.pr s hs hS
    by_cases e0 : N0 ≤ g.p s
    · rw [if_pos e0]
      by_cases e : j = K
      · rw [if_pos e, if_pos e, e]
        exact ⟨fun _ => ⟨e0, k1⟩, fun _ => rfl⟩
      · simp only [e, if_false]
        have := h.be j (by omega)
        omega
    · have hT := (h.tS s hs).2 ⟨hS, by omega⟩
      have := (h.ec s hs hT).2
      rw [if_neg e0]
      by_cases e : j = K
      · simp only [e, if_true]; omega
      · simp only [e, if_false]
        exact h.io s hs hT j (by omega)
end Go.Proofs.Ytldmjpnldgekaaa.A
end
section
namespace Go.Proofs.Ytldmjpnldgekaaa.A
theorem Bld.congr {n N N0 K : Nat} {S S' T T' : Nat → Prop} {g : Gh} {d : Pd} (h : Bld n N N0 K S T g d) (e : ∀ t, S' t ↔ S t) (eT : ∀ t, t < n → (T' t ↔ T t)) : Bld n N N0 K S' T' g d := by
  have : S' = S := funext fun t => propext (e t)
  subst this
  exact ⟨h.rl, h.pl, h.cl, h.bl, h.fl, h.ml, h.le, h.er, h.ep, h.rp, h.pr, fun s hs => (eT s hs).trans (h.tS s hs), fun s hs ht => h.ec s hs ((eT s hs).1 ht), h.eb, h.ef, h.em, h.be, fun s hs ht => h.io s hs ((eT s hs).1 ht)⟩
/-- The states below k that live and whose end is b. -/
def Sel (m : Mac) (al : List Bool) (b : Bool) (k t : Nat) : Prop := t < k ∧ al.getD t false = true ∧ m.fin.getD t false = b
theorem endTo_bld {m : Mac} {al : List Bool} {b : Bool} {n N0 K : Nat} {S : Nat → Prop} {g : Gh} {d : Pd} (h : Bld n N0 N0 K S S g d) (hS : ∀ s, S s → m.fin.getD s false ≠ b) :
    ∀ k, k ≤ n → ∃ N g', Bld n N N0 K (fun t => S t ∨ Sel m al b k t) S g' (endTo m al b d k) ∧ g'.c = g.c
  | 0, _ => ⟨N0, g, h.congr (fun t => by simp [Sel]) (fun _ _ => Iff.rfl), rfl⟩
  | k + 1, hk => by
    obtain ⟨N, g', h1, h2⟩ := endTo_bld h hS k (by omega)
    unfold endTo
    by_cases hc : (al.getD k false && (m.fin.getD k false == b)) = true
    · rw [if_pos hc]
      have hc' : al.getD k false = true ∧ m.fin.getD k false = b := by simpa using hc
      have hn : ¬ (S k ∨ Sel m al b k k) := by
        rintro (h3 | h3)
        · exact hS k h3 hc'.2
        · exact absurd h3.1 (Nat.lt_irrefl k)
      refine ⟨N + 1, _, (h1.put (by omega) hn).congr (fun t => ?_) (fun _ _ => Iff.rfl), h2⟩
      constructor
      · rintro (h3 | h3)
        · exact .inl (.inl h3)
        · by_cases e : t = k
          · exact .inr e
          · exact .inl (.inr ⟨by have := h3.1; omega, h3.2⟩)
      · rintro ((h3 | h3) | h3)
        · exact .inl h3
        · exact .inr ⟨by have := h3.1; omega, h3.2⟩
        · rw [h3]; exact .inr ⟨Nat.lt_succ_self _, hc'⟩
    · rw [if_neg hc]
      refine ⟨N, g', h1.congr (fun t => ?_) (fun _ _ => Iff.rfl), h2⟩
      constructor
      · rintro (h3 | h3)
        · exact .inl h3
        · refine .inr ⟨?_, h3.2⟩
          by_cases e : t = k
          · exact absurd (by simpa using (e ▸ h3.2 : al.getD k false = true ∧ m.fin.getD k false = b)) hc
          · have := h3.1; omega
      · rintro (h3 | h3)
        · exact .inl h3
        · exact .inr ⟨by have := h3.1; omega, h3.2⟩
theorem roundB_bld {m : Mac} {al : List Bool} {b : Bool} {N0 K : Nat} {S : Nat → Prop} {g : Gh} {d : Pd} (h : Bld m.next.length N0 N0 K S S g d) (hS : ∀ s, S s → m.fin.getD s false ≠ b)
    (hc : ∀ s t, s < m.next.length → t < m.next.length → S s → S t → (g.c s = g.c t ↔ m.fin.getD s false = m.fin.getD t false)) :
    ∃ N K' g', Bld m.next.length N N K' (fun t => S t ∨ Sel m al b m.next.length t) (fun t => S t ∨ Sel m al b m.next.length t) g' (roundB m al b d) ∧
      ∀ s t, s < m.next.length → t < m.next.length → (S s ∨ Sel m al b m.next.length s) → (S t ∨ Sel m al b m.next.length t) → (g'.c s = g'.c t ↔ m.fin.getD s false = m.fin.getD t false) := by
  obtain ⟨N, g1, h1, h2⟩ := endTo_bld (m := m) (al := al) h hS m.next.length (Nat.le_refl _)
  have e1 := h.rl
  have e2 := h1.rl
  have hle := h1.le
  unfold roundB
  by_cases hlt : N0 < N
  · rw [if_pos (by rw [e1, e2]; exact hlt), e1, e2]
    refine ⟨N, K + 1, _, h1.class_ hlt, ?_⟩
    intro s t hs ht hSs hSt
    simp only
    have cls : ∀ u, u < m.next.length → (S u ∨ Sel m al b m.next.length u) → (¬ N0 ≤ g1.p u ∧ S u ∧ g1.c u < K) ∨ (N0 ≤ g1.p u ∧ m.fin.getD u false = b) := by
      intro u hu hSu
      by_cases hp : N0 ≤ g1.p u
      · refine .inr ⟨hp, ?_⟩
        rcases hSu with h3 | h3
        · have := (h1.tS u hu).1 h3; omega
        · exact h3.2.2
      · have hSu' := (h1.tS u hu).2 ⟨hSu, by omega⟩
        exact .inl ⟨hp, hSu', (h1.ec u hu hSu').2⟩
    rcases cls s hs hSs with ⟨a1, a2, a3⟩ | ⟨a1, a2⟩
    · rw [if_neg a1]
      rcases cls t ht hSt with ⟨b1, b2, b3⟩ | ⟨b1, b2⟩
      · rw [if_neg b1, h2]
        exact hc s t hs ht a2 b2
      · rw [if_pos b1, b2]
        exact ⟨fun e => by omega, fun e => absurd e (hS s a2)⟩
    · rw [if_pos a1]
      rcases cls t ht hSt with ⟨b1, b2, b3⟩ | ⟨b1, b2⟩
      · rw [if_neg b1, a2]
        exact ⟨fun e => by omega, fun e => absurd e.symm (hS t b2)⟩
      · rw [if_pos b1, a2, b2]
        exact ⟨fun _ => rfl, fun _ => rfl⟩
  · rw [if_neg (by rw [e1, e2]; exact hlt)]
    have eN : N = N0 := by omega
    subst eN
    have hback : ∀ u, u < m.next.length → (S u ∨ Sel m al b m.next.length u) → S u := fun u hu hSu => (h1.tS u hu).2 ⟨hSu, (h1.pr u hu hSu).1⟩
    refine ⟨N, K, g1, h1.congr (fun _ => Iff.rfl) (fun t ht => ⟨hback t ht, .inl⟩), ?_⟩
    intro s t hs ht hSs hSt
    rw [h2]
    exact hc s t hs ht (hback s hs hSs) (hback t ht hSt)
theorem deadTo_get (al : List Bool) (cls : List Int) (t : Nat) : ∀ k, k ≤ cls.length → (deadTo al cls k).getD t 0 = if t < k ∧ al.getD t false = false then -1 else cls.getD t 0
  | 0, _ => by
    rw [if_neg (fun h => absurd h.1 (Nat.not_lt_zero t))]
    rfl
  | k + 1, hk => by
    have ih := deadTo_get al cls t k (by omega)
    unfold deadTo
    by_cases ha : al.getD k false = true
    · rw [if_pos ha, ih]
      by_cases hc : t < k ∧ al.getD t false = false
      · rw [if_pos hc, if_pos ⟨by omega, hc.2⟩]
      · rw [if_neg hc, if_neg]
        rintro ⟨h1, h2⟩
        by_cases e : t = k
        · rw [e, ha] at h2; cases h2
        · exact hc ⟨by omega, h2⟩
    · rw [if_neg ha, getD_setH (by rw [deadTo_len]; omega), ih]
      have ha' : al.getD k false = false := by simpa using ha
      by_cases e : k = t
      · rw [if_pos e, if_pos ⟨by omega, e ▸ ha'⟩]
      · rw [if_neg e]
        by_cases hc : t < k ∧ al.getD t false = false
        · rw [if_pos hc, if_pos ⟨by omega, hc.2⟩]
        · rw [if_neg hc, if_neg]
          rintro ⟨h1, h2⟩
          exact hc ⟨by omega, h2⟩
theorem upto_mem {n : Nat} {x : Int} : x ∈ upto n ↔ 0 ≤ x ∧ x < (n : Int) := by
  unfold upto
  rw [List.mem_map]
  constructor
  · rintro ⟨i, h1, rfl⟩
    have := List.mem_range.1 h1
    omega
  · rintro ⟨h1, h2⟩
    exact ⟨x.toNat, List.mem_range.2 (by omega), by omega⟩
/-- The first partition, and what is to be done: all its classes. -/
theorem byEnd_ok {m : Mac} (hf : Fits m) {al : List Bool} (hal : ∀ s : Nat, s < m.next.length → (al.getD s false = true ↔ Alive m s)) :
    ∃ N K g, Hop m N K g (byEndP m al) (upto (byEndP m al).beg.length) [] 0 [] ∧ N ≤ m.next.length ∧ (byEndP m al).beg.length = K := by
  have h0 : Bld m.next.length 0 0 0 (fun _ => False) (fun _ => False) ⟨fun _ => 0, fun _ => 0, fun _ => 0, fun _ => 0, fun _ => 0, fun _ => 0⟩ (stage m al 0) :=
    ⟨rfl, by simp [stage, pd0], by simp [stage, pd0], rfl, rfl, rfl, Nat.le_refl _, fun i hi => absurd hi (by omega), fun _ _ h => h.elim, fun i hi => absurd hi (by omega), fun _ _ h => h.elim, fun _ _ => by simp, fun _ _ h => h.elim, fun i hi => absurd hi (by omega), fun i hi => absurd hi (by omega), fun i hi => absurd hi (by omega), fun i hi => absurd hi (by omega), fun _ _ h => h.elim⟩
  obtain ⟨N1, K1, g1, h1, c1⟩ := roundB_bld (al := al) (b := true) h0 (fun _ h => h.elim) (fun _ _ _ _ h => h.elim)
  obtain ⟨N, K, g, h2, c2⟩ := roundB_bld (al := al) (b := false) h1 (fun s h => by
    rcases h with h | h
    · exact h.elim
    · rw [h.2.2]; decide) c1
  have hst : roundB m al false (roundB m al true (stage m al 0)) = stage m al 2 := rfl
  rw [hst] at h2
  have hA : ∀ t, t < m.next.length → (((False ∨ Sel m al true m.next.length t) ∨ Sel m al false m.next.length t) ↔ Alive m t) := by
    intro t ht
    rw [← hal t ht]
    constructor
    · rintro ((h | h) | h)
      · exact h.elim
      · exact h.2.1
      · exact h.2.1
    · intro h
      cases hb : m.fin.getD t false with
      | true => exact .inl (.inr ⟨ht, h, hb⟩)
      | false => exact .inr ⟨ht, h, hb⟩
  have hcl := h2.cl
  have part : Part m.next.length N K (fun s => Alive m s) (fun _ => False) { g with m := fun _ => 0 } (byEndP m al) := by
    refine ⟨h2.rl, h2.pl, by simp only [byEndP]; rw [deadTo_len]; exact h2.cl, h2.bl, h2.fl, h2.ml, h2.er, fun s hs hAs => h2.ep s hs ((hA s hs).2 hAs), ?_, ?_, h2.eb, h2.ef, fun k hk => by simp only [byEndP]; rw [h2.em k hk]; rfl, ?_, ?_, ?_, ?_, ?_⟩
    · intro s hs hAs
      simp only [byEndP]
      rw [deadTo_get _ _ _ _ (by omega), if_neg]
      · exact (h2.ec s hs ((hA s hs).2 hAs)).1
      · rintro ⟨_, h3⟩
        rw [(hal s hs).2 hAs] at h3
        cases h3
    · intro s hs hAs
      simp only [byEndP]
      rw [deadTo_get _ _ _ _ (by omega), if_pos]
      refine ⟨hs, ?_⟩
      cases hb : al.getD s false with
      | true => exact absurd ((hal s hs).1 hb) hAs
      | false => rfl
    · intro i hi
      obtain ⟨k1, k2, k3⟩ := h2.rp i hi
      exact ⟨k1, (hA _ k1).1 k2, k3⟩
    · intro s hs hAs
      obtain ⟨k1, k2⟩ := h2.pr s hs ((hA s hs).2 hAs)
      exact ⟨k1, k2, (h2.ec s hs ((hA s hs).2 hAs)).2⟩
    · intro k hk
      have := h2.be k hk
      simp only
      omega
    · intro s hs hAs k hk
      exact h2.io s hs ((hA s hs).2 hAs) k hk
    · intro s hs hAs
      have hS := (hA s hs).2 hAs
      have hk := (h2.ec s hs hS).2
      have := (h2.io s hs hS _ hk).1 rfl
      simp only
      exact ⟨fun h => h.elim, fun h => by omega⟩
  have hbl : (byEndP m al).beg.length = K := h2.bl
  have hcc : ∀ s t : Nat, s < m.next.length → t < m.next.length → Alive m s → Alive m t → (g.c s = g.c t ↔ m.fin.getD s false = m.fin.getD t false) := fun s t hs ht hAs hAt => c2 s t hs ht ((hA s hs).2 hAs) ((hA t ht).2 hAt)
  refine ⟨N, K, { g with m := fun _ => 0 }, ?_, ?_, hbl⟩
  · rw [hbl]
    refine ⟨part, by rw [upto_len]; exact Nat.le_refl _, fun x hx => upto_mem.1 hx, ?_, fun x hx => absurd hx (by simp), ?_, fun s t hs ht hAs hAt hc => (hcc s t hs ht hAs hAt).1 hc⟩
    · intro s t hs ht hAs hAt hc a ha hl
      left
      have hk : ∀ x, In m x → kap m { g with m := fun _ => 0 } x = -1 ∨ kap m { g with m := fun _ => 0 } x ∈ upto K := by
        intro x hi
        by_cases hx : Alive m x
        · obtain ⟨j1, j2⟩ := alive_in hi hx
          have := (part.pr x.toNat j1 (by rw [j2]; exact hx)).2.2
          refine .inr ?_
          rw [kap_alive hx, upto_mem]
          simp only at this ⊢
          omega
        · exact .inl (kap_dead hx)
      rcases hk _ (hf.lead (s := (s : Int)) ⟨by omega, by omega⟩ ha hl) with e1 | e1
      · rcases hk _ (hf.lead (s := (t : Int)) ⟨by omega, by omega⟩ ha hl) with e2 | e2
        · exact .inl (e1.trans e2.symm)
        · exact .inr (.inr e2)
      · exact .inr (.inl e1)
    · intro s t hs ht hAs hAt hne
      refine ⟨[], s, t, rfl, rfl, fun e => hne ((hcc s t hs ht hAs hAt).2 ?_)⟩
      simpa [A.ends] using e
  · have h3 : ((List.range N).map g.r).Nodup := by
      unfold List.Nodup
      rw [List.pairwise_map]
      refine List.nodup_range.imp_of_mem fun {i j} hi hj hne e => hne ?_
      have r1 := (h2.rp i (List.mem_range.1 hi)).2.2
      have r2 := (h2.rp j (List.mem_range.1 hj)).2.2
      rw [e] at r1
      exact r1.symm.trans r2
    have := nodup_nat m.next.length _ h3 (by
      intro x hx
      obtain ⟨i, hi, rfl⟩ := List.mem_map.1 hx
      exact (h2.rp i (List.mem_range.1 hi)).1)
    simpa using this
/-- The classes: some fuel is enough, and the partition is right. -/
theorem classes_ok {m : Mac} (hf : Fits m) (hn : m.next.length ≤ 100000) (hl3 : m.letters ≤ 300) {al : List Bool} (hal : ∀ s : Nat, s < m.next.length → (al.getD s false = true ↔ Alive m s)) {f : Nat} (hfu : m.next.length ≤ f) :
    ∃ d N K g, classesO f m (arrive m) al = some d ∧ Hop m N K g d [] [] 0 [] := by
  obtain ⟨N, K, g, h1, h2, h3⟩ := byEnd_ok hf hal
  have hfew := h1.part.few
  have hl0 := hf.letters
  have hrep : ∀ k : Nat, (List.replicate m.letters.toNat ([] : List Int)).getD k [] = [] := by
    intro k
    simp only [List.getD_eq_getElem?_getD, List.getElem?_replicate]
    split <;> rfl
  obtain ⟨d', g', K', e1, e2⟩ := classO_ok hf hn hl3 (N := N) (by unfold big; omega) (nl := m.letters.toNat) (by omega) f K g _ _ (List.replicate m.letters.toNat []) h1 (by simp) hrep (by rw [upto_len, h3]; omega)
  refine ⟨d', N, K', g', ?_, e2⟩
  unfold classesO
  rw [if_pos (by rw [h3]; unfold big; omega)]
  exact e1
end Go.Proofs.Ytldmjpnldgekaaa.A
end
section
namespace Go.Proofs.Ytldmjpnldgekaaa.A
theorem kap_ge {m : Mac} {g : Gh} {x : Int} (h : Alive m x) : 0 ≤ kap m g x := by rw [kap_alive h]; omega
theorem Hop.same {m : Mac} (hf : Fits m) {N K : Nat} {g : Gh} {d : Pd} (h : Hop m N K g d [] [] 0 []) : ∀ (l : List Int) (x y u v : Int), In m x → In m y → kap m g x = kap m g y → from_ m x l = some u → from_ m y l = some v → A.ends m u = A.ends m v
  | [], x, y, u, v, hx, hy, e, h1, h2 => by
    injection h1 with e1
    injection h2 with e2
    subst e1
    subst e2
    by_cases ax : Alive m x
    · by_cases ay : Alive m y
      · obtain ⟨j1, j2⟩ := alive_in hx ax
        obtain ⟨i1, i2⟩ := alive_in hy ay
        rw [kap_alive ax, kap_alive ay] at e
        have := h.ends _ _ j1 i1 (by rw [j2]; exact ax) (by rw [i2]; exact ay) (by omega)
        have nx : ¬ x = -1 := by omega
        have ny : ¬ y = -1 := by omega
        simp [A.ends, nx, ny] at this ⊢
        exact this
      · have := kap_ge (g := g) ax
        rw [e, kap_dead ay] at this
        omega
    · by_cases ay : Alive m y
      · have := kap_ge (g := g) ay
        rw [← e, kap_dead ax] at this
        omega
      · cases hex : A.ends m x with
        | true => exact absurd (Alive.fin hex) ax
        | false =>
          cases hey : A.ends m y with
          | true => exact absurd (Alive.fin hey) ay
          | false => rfl
  | k :: l, x, y, u, v, hx, hy, e, h1, h2 => by
    rw [from_] at h1 h2
    split at h1
    · rename_i hk
      rw [if_pos hk] at h2
      refine Hop.same hf h l _ _ u v (hf.lead hx hk.1 hk.2) (hf.lead hy hk.1 hk.2) ?_ h1 h2
      by_cases ax : Alive m x
      · by_cases ay : Alive m y
        · obtain ⟨j1, j2⟩ := alive_in hx ax
          obtain ⟨i1, i2⟩ := alive_in hy ay
          rw [kap_alive ax, kap_alive ay] at e
          have := h.near _ _ j1 i1 (by rw [j2]; exact ax) (by rw [i2]; exact ay) (by omega) k hk.1 hk.2
          rw [j2, i2] at this
          rcases this with (h3 | h3 | h3) | ⟨h3, _⟩
          · exact h3
          · cases h3
          · cases h3
          · cases h3
        · have := kap_ge (g := g) ax
          rw [e, kap_dead ay] at this
          omega
      · by_cases ay : Alive m y
        · have := kap_ge (g := g) ay
          rw [← e, kap_dead ax] at this
          omega
        · rw [kap_dead (fun h3 => ax (Alive.step hk.1 hk.2 h3)), kap_dead (fun h3 => ay (Alive.step hk.1 hk.2 h3))]
    · cases h1
/-- Two states of one class: no word tells them apart; of two classes: some word does. -/
theorem Hop.tell {m : Mac} (hf : Fits m) {N K : Nat} {g : Gh} {d : Pd} (h : Hop m N K g d [] [] 0 []) {x y : Int} (hx : In m x) (hy : In m y) : kap m g x = kap m g y ↔ ¬ Tell m x y := by
  constructor
  · rintro e ⟨l, u, v, h1, h2, h3⟩
    exact h3 (h.same hf l x y u v hx hy e h1 h2)
  · intro hn
    refine Classical.byContradiction fun e => hn ?_
    by_cases ax : Alive m x
    · by_cases ay : Alive m y
      · obtain ⟨j1, j2⟩ := alive_in hx ax
        obtain ⟨i1, i2⟩ := alive_in hy ay
        rw [kap_alive ax, kap_alive ay] at e
        have := h.fine _ _ j1 i1 (by rw [j2]; exact ax) (by rw [i2]; exact ay) (by omega)
        rw [j2, i2] at this
        exact this
      · exact alive_tell ax ay
    · by_cases ay : Alive m y
      · exact (alive_tell ay ax).symm
      · exact absurd (by rw [kap_dead ax, kap_dead ay]) e
end Go.Proofs.Ytldmjpnldgekaaa.A
end
section
namespace Go.Proofs.Ytldmjpnldgekaaa.A
theorem Part.le {n N K : Nat} {A M : Nat → Prop} {g : Gh} {d : Pd} (h : Part n N K A M g d) : N ≤ n := by
  have h1 : ((List.range N).map g.r).Nodup := by
    unfold List.Nodup
    rw [List.pairwise_map]
    refine List.nodup_range.imp_of_mem fun {i j} hi hj hne e => hne ?_
    have ri := (h.rp i (List.mem_range.1 hi)).2.2
    have rj := (h.rp j (List.mem_range.1 hj)).2.2
    rw [e] at ri
    exact ri.symm.trans rj
  have := nodup_nat n _ h1 (by
    intro x hx
    obtain ⟨i, hi, rfl⟩ := List.mem_map.1 hx
    exact (h.rp i (List.mem_range.1 hi)).1)
  simpa using this
/-- The state that stands for a class. -/
def repG (g : Gh) (x : Int) : Nat := g.r (g.b x.toNat)
section
variable {m : Mac} {N K : Nat} {g : Gh} {d : Pd}
theorem Hop.rep (h : Hop m N K g d [] [] 0 []) {x : Int} (h0 : 0 ≤ x) (hK : x < (K : Int)) : repG g x < m.next.length ∧ Alive m (repG g x : Nat) ∧ kap m g (repG g x : Nat) = x ∧ d.beg.getD x.toNat 0 = (g.b x.toNat : Int) ∧ g.b x.toNat < N ∧ d.row.getD (g.b x.toNat) 0 = (repG g x : Int) := by
  have hk : x.toNat < K := by omega
  obtain ⟨b1, b2, b3⟩ := h.part.be _ hk
  obtain ⟨r1, r2, r3⟩ := h.part.rp (g.b x.toNat) (by omega)
  have hc := (h.part.io _ r1 r2 _ hk).2 (by rw [r3]; omega)
  refine ⟨r1, r2, ?_, h.part.eb _ hk, by omega, h.part.er _ (by omega)⟩
  have hal : Alive m (repG g x : Nat) := r2
  rw [kap_alive hal, Int.toNat_natCast]
  show ((g.c (g.r (g.b x.toNat)) : Nat) : Int) = x
  rw [hc]
  omega
theorem Hop.cls (h : Hop m N K g d [] [] 0 []) {s : Nat} (hs : s < m.next.length) : d.cls.getD s 0 = kap m g s := by
  by_cases ha : Alive m s
  · rw [kap_alive ha, Int.toNat_natCast]; exact h.part.ec s hs ha
  · rw [kap_dead ha]; exact h.part.ed s hs ha
theorem Hop.kapK (h : Hop m N K g d [] [] 0 []) {x : Int} (hi : In m x) (ha : Alive m x) : 0 ≤ kap m g x ∧ kap m g x < (K : Int) := by
  obtain ⟨j1, j2⟩ := alive_in hi ha
  have := (h.part.pr x.toNat j1 (by rw [j2]; exact ha)).2.2
  rw [kap_alive ha]
  omega
theorem Hop.kapB (h : Hop m N K g d [] [] 0 []) (hn : m.next.length ≤ 100000) {x : Int} (hi : In m x) : -1000000 ≤ kap m g x ∧ kap m g x ≤ 1000000 := by
  have h1 := h.part.few
  have h2 := h.part.le
  by_cases ha : Alive m x
  · have := h.kapK hi ha; omega
  · rw [kap_dead ha]; omega
theorem Hop.nxt (hf : Fits m) (hn : m.next.length ≤ 100000) (h : Hop m N K g d [] [] 0 []) {x : Int} (h0 : 0 ≤ x) (hK : x < (K : Int)) {k : Nat} (hk : (k : Int) < m.letters) : nxt m d x k = some (kap m g (lead m (repG g x : Nat) k)) := by
  obtain ⟨r1, r2, r3, r4, r5, r6⟩ := h.rep h0 hK
  obtain ⟨q1, q2⟩ := hf.rows _ (List.getElem_mem r1)
  have hl : A.lead m (repG g x : Nat) k = (m.next.getD (repG g x) []).getD k 0 := lead_nat m (repG g x) k
  have hin : In m (A.lead m (repG g x : Nat) k) := hf.lead ⟨by omega, by omega⟩ (by omega) hk
  have hrow : m.next.getD (repG g x) [] = m.next[repG g x] := by simp [r1]
  have hbl := h.part.bl
  have hrl := h.part.rl
  have hcl := h.part.cl
  unfold A.nxt
  rw [if_neg (by omega), r4, if_neg (by omega), Int.toNat_natCast, r6, if_neg (by omega), Int.toNat_natCast, hrow, if_neg (by omega), Int.toNat_natCast]
  rw [hrow] at hl
  rw [← hl]
  generalize A.lead m (repG g x : Nat) k = y at *
  obtain ⟨y0, y1⟩ := hin
  by_cases e : y = -1
  · rw [if_pos e, e, kap_dead alive_not]
  · rw [if_neg e, if_neg (by omega)]
    have hc := h.cls (s := y.toNat) (by omega)
    rw [show ((y.toNat : Nat) : Int) = y by omega] at hc
    rw [hc]
    have := h.kapB hn (x := y) ⟨y0, y1⟩
    rw [if_neg (by omega)]
theorem Hop.dom (hf : Fits m) (hn : m.next.length ≤ 100000) (h : Hop m N K g d [] [] 0 []) : Dom (A.nxt m d) (-1 : Int) m.letters.toNat (fun x => 0 ≤ x ∧ x < (K : Int)) K := by
  refine ⟨fun x hx k hk => ⟨_, h.nxt hf hn hx.1 hx.2 (by omega), ?_⟩, fun ts h1 h2 => ?_⟩
  · obtain ⟨r1, _⟩ := h.rep hx.1 hx.2
    have hin : In m (lead m (repG g x : Nat) k) := hf.lead ⟨by omega, by omega⟩ (by omega) (by omega)
    by_cases ha : Alive m (lead m (repG g x : Nat) k)
    · exact .inr (h.kapK hin ha)
    · exact .inl (kap_dead ha)
  · have h3 : (ts.map Int.toNat).Nodup := by
      unfold List.Nodup
      rw [List.pairwise_map]
      refine h1.imp_of_mem fun {x y} hx hy hne e => hne ?_
      have := h2 x hx
      have := h2 y hy
      omega
    have := nodup_nat K _ h3 (by
      intro x hx
      obtain ⟨y, hy, rfl⟩ := List.mem_map.1 hx
      have := h2 y hy
      omega)
    simpa using this
theorem Hop.same_lead (hf : Fits m) (h : Hop m N K g d [] [] 0 []) {x y : Int} (hx : In m x) (hy : In m y) (e : kap m g x = kap m g y) {k : Int} (h0 : 0 ≤ k) (hk : k < m.letters) : kap m g (lead m x k) = kap m g (lead m y k) := by
  rw [h.tell hf hx hy] at e
  rw [h.tell hf (hf.lead hx h0 hk) (hf.lead hy h0 hk)]
  exact fun ht => e (ht.step h0 hk)
theorem Hop.same_end (hf : Fits m) (h : Hop m N K g d [] [] 0 []) {x y : Int} (hx : In m x) (hy : In m y) (e : kap m g x = kap m g y) : A.ends m x = A.ends m y := h.same hf [] x y x y hx hy e rfl rfl
end
theorem leastO_ok {m : Mac} (hf : Fits m) (hn : m.next.length ≤ 100000) (hl3 : m.letters ≤ 300) {f : Nat} (hfu : m.next.length ≤ f) : ∃ o, leastO f m = some o ∧ LeastOf m o := by
  have hl0 := hf.letters
  obtain ⟨al, a1, a2, a3⟩ := liv_ok hf hfu
  unfold leastO
  rw [if_pos (waysOk_all hf hn hl3), a1]
  dsimp only
  by_cases hst : m.start = -1
  · rw [if_pos hst]
    exact ⟨_, rfl, noM_least hl0 (by rw [hst]; exact alive_not)⟩
  rw [if_neg hst]
  have hs := hf.start
  obtain ⟨s0, hs0⟩ := Int.eq_ofNat_of_zero_le (show 0 ≤ m.start by have := hs.1; omega)
  have hsl : s0 < m.next.length := by have := hs.2; omega
  by_cases hal : Alive m m.start
  case neg =>
    have : ¬ al.getD m.start.toNat false = true := by
      rw [hs0, Int.toNat_natCast, a3 s0 hsl, ← hs0]
      exact hal
    rw [if_neg this]
    exact ⟨_, rfl, noM_least hl0 hal⟩
  have : al.getD m.start.toNat false = true := by
    rw [hs0, Int.toNat_natCast, a3 s0 hsl, ← hs0]
    exact hal
  rw [if_pos this]
  obtain ⟨d, N, K, g, c1, h⟩ := classes_ok hf hn hl3 a3 hfu
  rw [c1]
  dsimp only
  have hKN := h.part.few
  have hNn := h.part.le
  have hbl := h.part.bl
  have hcl := h.part.cl
  have hkl := h.part.rl
  have hcs : d.cls.getD m.start.toNat 0 = kap m g m.start := by
    rw [hs0, Int.toNat_natCast]
    exact h.cls hsl
  have hkb := h.kapB hn hs
  have hkk := h.kapK hs hal
  have so : startOk m d = true := by
    unfold startOk
    rw [hcs]
    simp only [Bool.and_eq_true, decide_eq_true_eq]
    exact ⟨⟨⟨by have := hs.2; omega, hkb.1⟩, hkb.2⟩, by omega⟩
  rw [if_pos so, hcs, hbl]
  obtain ⟨ts, rows, e1, F⟩ := search_found (h.dom hf hn) (most := (K : Int)) (Int.le_refl _) (f := f) (by omega) (first := kap m g m.start) (by omega) hkk
  rw [e1]
  dsimp only
  have hD : ∀ x ∈ ts, 0 ≤ x ∧ x < (K : Int) := F.dom
  have hlen : ts.length ≤ K := (h.dom hf hn).few ts F.nd F.dom
  have heo : ts.all (endOk m d) = true := by
    rw [List.all_eq_true]
    intro x hx
    obtain ⟨h1, h2⟩ := hD x hx
    obtain ⟨r1, r2, r3, r4, r5, r6⟩ := h.rep h1 h2
    have hfn := hf.fin
    unfold endOk
    rw [r4, Int.toNat_natCast, r6]
    simp only [Bool.and_eq_true, decide_eq_true_eq]
    exact ⟨⟨⟨⟨⟨h1, by omega⟩, by omega⟩, by omega⟩, by omega⟩, by omega⟩
  have heq : ∀ x, 0 ≤ x → x < (K : Int) → endOf m d x = ends m (repG g x : Nat) := fun x h1 h2 => by
    obtain ⟨r1, r2, r3, r4, r5, r6⟩ := h.rep h1 h2
    unfold endOf
    rw [r4, Int.toNat_natCast, r6, Int.toNat_natCast, ends_nat]
  rw [if_pos (by rw [heo]; simp; omega)]
  have hL : (m.letters.toNat : Int) = m.letters := by omega
  have S : Sim m (macOf m.letters ts rows (endOf m d)) fun x y => In m x ∧ ((¬ Alive m x ∧ y = -1) ∨ ∃ j : Nat, ts[j]? = some (kap m g x) ∧ Alive m x ∧ y = (j : Int)) := by
    refine ⟨rfl, ⟨hs, .inr ⟨0, F.first, hal, rfl⟩⟩, fun x y hR => ?_, fun x y hR k hk => ?_⟩
    · obtain ⟨hi, ⟨hd, rfl⟩ | ⟨j, hj, ha, rfl⟩⟩ := hR
      · rw [ends_neg]
        cases e : ends m x with
        | true => exact absurd (Alive.fin e) hd
        | false => rfl
      · rw [F.ends hj]
        obtain ⟨k1, k2⟩ := h.kapK hi ha
        rw [heq _ k1 k2]
        obtain ⟨r1, r2, r3, _⟩ := h.rep k1 k2
        exact h.same_end hf hi ⟨by omega, by omega⟩ r3.symm
    · obtain ⟨hi, ⟨hd, rfl⟩ | ⟨j, hj, ha, rfl⟩⟩ := hR
      · rw [lead_neg]
        exact ⟨hf.lead hi (by omega) hk, .inl ⟨fun h2 => hd (h2.step (by omega) hk), rfl⟩⟩
      · have hi2 := hf.lead hi (k := k) (by omega) hk
        refine ⟨hi2, ?_⟩
        obtain ⟨k1, k2⟩ := h.kapK hi ha
        obtain ⟨r1, r2, r3, _⟩ := h.rep k1 k2
        obtain ⟨y, g1, g2⟩ := F.lead (e := endOf m d) (l := m.letters) hj (j := k) (by omega)
        rw [h.nxt hf hn k1 k2 hk] at g1
        injection g1 with g1
        rw [h.same_lead hf ⟨by omega, by omega⟩ hi r3 (k := k) (by omega) hk] at g1
        subst g1
        by_cases ha2 : Alive m (lead m x k)
        · rcases g2 with ⟨g2, _⟩ | ⟨q, g2, g3⟩
          · have := kap_ge (g := g) ha2; omega
          · exact .inr ⟨q, g2, ha2, g3⟩
        · rcases g2 with ⟨_, g3⟩ | ⟨q, g2, _⟩
          · exact .inl ⟨ha2, g3⟩
          · have := hD _ (List.mem_of_getElem? g2)
            rw [kap_dead ha2] at this
            omega
  have hrep : ∀ s : Nat, s < ts.length → ∃ x : Nat, Alive m x ∧ In m x ∧ ts[s]? = some (kap m g x) ∧ Eqv m (macOf m.letters ts rows (endOf m d)) x s := fun s hs => by
    obtain ⟨k1, k2⟩ := hD ts[s] (List.getElem_mem hs)
    obtain ⟨r1, r2, r3, _⟩ := h.rep k1 k2
    have e : ts[s]? = some (kap m g (repG g ts[s] : Nat)) := by rw [r3]; exact List.getElem?_eq_getElem hs
    exact ⟨repG g ts[s], r2, ⟨by omega, by omega⟩, e, S.eqv ⟨⟨by omega, by omega⟩, .inr ⟨s, e, r2, rfl⟩⟩⟩
  have hrl : (macOf m.letters ts rows (endOf m d)).next.length = ts.length := F.ln
  refine ⟨_, rfl, ⟨F.fits hL, .inr rfl, fun s hs => ?_, fun s t hs ht hne => ?_, F.ord hL⟩, rfl, S.eqv S.st, ?_⟩
  · obtain ⟨x, x1, x2, x3, x4⟩ := hrep s (by rw [← hrl]; exact hs)
    exact x4.alive (a := m) rfl x1
  · have hs' : s < ts.length := by rw [← hrl]; exact hs
    have ht' : t < ts.length := by rw [← hrl]; exact ht
    obtain ⟨x, x1, x2, x3, x4⟩ := hrep s hs'
    obtain ⟨y, y1, y2, y3, y4⟩ := hrep t ht'
    refine x4.tell (a := m) rfl y4 ?_
    refine Classical.byContradiction fun hn2 => hne ?_
    have := (h.tell hf x2 y2).2 hn2
    rw [this, ← y3] at x3
    exact (List.getElem?_inj hs' F.nd).1 x3
  · show rows.length ≤ _
    have := F.ln
    omega
end Go.Proofs.Ytldmjpnldgekaaa.A
end
section
namespace Go.Proofs.Ytldmjpnldgekaaa
open Go.RowKit
namespace A
def LeastO (f : Nat) (m : Mac) : Option (Mac × Int) := if valid m = 0 then (match leastO f m with
  | none => none
  | some r => some (r, 0)) else some (⟨0, 0, [], []⟩, 1)
end A
theorem Ints.mono {w : World} {P Q : Nat → Prop} {v : Value} {l : List Int} (h : Ints w P v l) (hPQ : ∀ b, P b → Q b) : Ints w Q v l := by
  obtain ⟨A0, c, e, h⟩ := h
  exact ⟨A0, c, e, fun k hk => by obtain ⟨g, o, h1, h2, h3⟩ := h k hk; exact ⟨g, o, h1, hPQ g h2, h3⟩⟩
theorem Rows2.mono {w : World} {P Q : Nat → Prop} {v : Value} {l : List (List Int)} (h : Rows2 w P v l) (hPQ : ∀ b, P b → Q b) : Rows2 w Q v l := by
  obtain ⟨A0, c, e, h⟩ := h
  exact ⟨A0, c, e, fun k hk => by obtain ⟨g, o, rv, h1, h2, h3, h4⟩ := h k hk; exact ⟨g, o, rv, h1, hPQ g h2, h3, h4.mono hPQ⟩⟩
theorem Bools.mono {w : World} {P Q : Nat → Prop} {v : Value} {l : List Bool} (h : Bools w P v l) (hPQ : ∀ b, P b → Q b) : Bools w Q v l := by
  obtain ⟨A0, c, e, h⟩ := h
  exact ⟨A0, c, e, fun k hk => by obtain ⟨g, o, h1, h2, h3⟩ := h k hk; exact ⟨g, o, h1, hPQ g h2, h3⟩⟩
theorem MachAt.mono {w : World} {P Q : Nat → Prop} {v : Value} {m : A.Mac} (h : MachAt w P v m) (hPQ : ∀ b, P b → Q b) : MachAt w Q v m := by
  obtain ⟨nv, ev, e, h1, h2⟩ := h
  exact ⟨nv, ev, e, h1.mono hPQ, h2.mono hPQ⟩
set_option maxRecDepth 100000 in
set_option maxHeartbeats 8000000 in
theorem Least_any {w : World} {P : Nat → Prop} {v : Value} {m m2 : A.Mac} {f : Nat} {c : Int} (h : MachAt w P v m) (hsz : Sized m) (hfl : f ≤ 100000) (hr : A.LeastO f m = some (m2, c)) :
    Calls Try.prog 18 #[v] w fun e w' => ∃ r, e = .returned (.tuple #[r, .int .i64 c]) ∧ MachAt w' (fun b => w.heap.size ≤ b) r m2 ∧ Frm (fun _ => False) w w' := by
  obtain ⟨A1, c1, A2, c2, rfl⟩ := h.form
  have HRS := Lib.hid hr
  have HSZ := Lib.hid hsz
  have HB0 : Hid (Blk ((w.alloc (.cells #[.int .i64 m.letters, .int .i64 m.start, .slice A1 m.next.length c1, .slice A2 m.fin.length c2] 25)).alloc (.cells #[.int .i64 0, .int .i64 0, .slice none 0 0, .slice none 0 0] 25)) w.heap.size 25 #[.int .i64 m.letters, .int .i64 m.start, .slice A1 m.next.length c1, .slice A2 m.fin.length c2]) := (Blk.new w _ _).alloc _
  have HR0 : Hid (Blk ((w.alloc (.cells #[.int .i64 m.letters, .int .i64 m.start, .slice A1 m.next.length c1, .slice A2 m.fin.length c2] 25)).alloc (.cells #[.int .i64 0, .int .i64 0, .slice none 0 0, .slice none 0 0] 25)) (w.heap.size + 1) 25 #[.int .i64 0, .int .i64 0, .slice none 0 0, .slice none 0 0]) := blk_at (by simp)
  have F0 : Frm (fun _ => False) w ((w.alloc (.cells #[.int .i64 m.letters, .int .i64 m.start, .slice A1 m.next.length c1, .slice A2 m.fin.length c2] 25)).alloc (.cells #[.int .i64 0, .int .i64 0, .slice none 0 0, .slice none 0 0] 25)) := ((Frm.refl _ w).alloc _).alloc _
  have HM := Lib.hid (h.keep0 F0)
  have HF0 := Lib.hid F0
  have HS0 : Hid (w.heap.size + 2 ≤ ((w.alloc (.cells #[.int .i64 m.letters, .int .i64 m.start, .slice A1 m.next.length c1, .slice A2 m.fin.length c2] 25)).alloc (.cells #[.int .i64 0, .int .i64 0, .slice none 0 0, .slice none 0 0] 25)).heap.size) := show _ ≤ _ by simp
  clear F0 h hr hsz
  go_enter Try.func18, Try.ntmps18
  go_wp2_with fail
  refine (valid_any HM.out HSZ.out).mono ?_
  rintro _ w1 ⟨rfl, f1⟩
  have HB1 := Lib.hid (f1.blk HB0.out id)
  have HR1 := Lib.hid (f1.blk HR0.out id)
  have HM1 := Lib.hid (HM.out.keep0 f1)
  have HF1 := Lib.hid (HF0.out.trans f1)
  have HS1 : Hid (w.heap.size + 2 ≤ w1.heap.size) := Nat.le_trans HS0.out f1.1
  clear f1 HB0 HR0 HM HF0 HS0
  have x0 := HB1.out.cell 0
  have x1 := HB1.out.cell 1
  have x2 := HB1.out.cell 2
  have x3 := HB1.out.cell 3
  have r0 := HR1.out.cell 0
  have r1 := HR1.out.cell 1
  have r2 := HR1.out.cell 2
  have r3 := HR1.out.cell 3
  have q0 := HR1.out.frozen 0
  have q1 := HR1.out.frozen 1
  have q2 := HR1.out.frozen 2
  have q3 := HR1.out.frozen 3
  have hrs := HRS.out
  unfold A.LeastO at hrs
  by_cases hv : A.valid m = 0
  · rw [if_pos hv] at hrs
    split at hrs
    · cases hrs
    rename_i r hl
    injection hrs with hrs
    obtain ⟨rfl, rfl⟩ : m2 = r ∧ c = 0 := ⟨(congrArg Prod.fst hrs).symm, (congrArg Prod.snd hrs).symm⟩
    obtain ⟨hfit, hl3, hn⟩ := A.valid_fits hv
    have HL := Lib.hid hl
    have HFI := Lib.hid hfit
    have HLN : Hid (m.next.length ≤ 100000 ∧ m.letters ≤ 300) := ⟨by omega, hl3⟩
    rw [hv]
    clear hrs hl hfit hl3 hn hv HRS
    go_wp2_with fail
    refine (least_any HM1.out HFI.out HLN.out.1 HLN.out.2 hfl HL.out).mono ?_
    rintro _ w2 ⟨r, rfl, m2', f2⟩
    obtain ⟨B1, d1, B2, d2, rfl⟩ := m2'.form
    have HM2 := Lib.hid m2'
    have HR2 := Lib.hid (f2.blk HR1.out id)
    have HF2 := Lib.hid (HF1.out.trans f2)
    have HS2 : Hid (w.heap.size + 2 ≤ w2.heap.size) := Nat.le_trans HS1.out f2.1
    clear f2 m2' x0 x1 x2 x3 r0 r1 r2 r3 q0 q1 q2 q3
    have r0 := HR2.out.cell 0
    have r1 := HR2.out.cell 1
    have r2 := HR2.out.cell 2
    have r3 := HR2.out.cell 3
    have q0 := HR2.out.frozen 0
    have q1 := HR2.out.frozen 1
    have q2 := HR2.out.frozen 2
    have q3 := HR2.out.frozen 3
    go_wp2_with fail
    have h4 := put4_blk (l := .int .i64 m2.letters) (s := .int .i64 m2.start) (n := .slice B1 m2.next.length d1) (e := .slice B2 m2.fin.length d2) HR2.out
    have h5 := put4_frm1 (w := w2) (b := w.heap.size + 1) (l := .int .i64 m2.letters) (s := .int .i64 m2.start) (n := .slice B1 m2.next.length d1) (e := .slice B2 m2.fin.length d2)
    refine bodyPost_ret (w := put4 w2 (w.heap.size + 1) (.int .i64 m2.letters) (.int .i64 m2.start) (.slice B1 m2.next.length d1) (.slice B2 m2.fin.length d2)) (v := .tuple #[.agg #[.int .i64 m2.letters, .int .i64 m2.start, .slice B1 m2.next.length d1, .slice B2 m2.fin.length d2], .int .i64 0]) ?_ rfl ⟨_, rfl, ?_, put4_frm HF2.out (by omega)⟩
    · generalize put4 w2 (w.heap.size + 1) (.int .i64 m2.letters) (.int .i64 m2.start) (.slice B1 m2.next.length d1) (.slice B2 m2.fin.length d2) = w4 at *
      have y0 := h4.cell 0
      have y1 := h4.cell 1
      have y2 := h4.cell 2
      have y3 := h4.cell 3
      simp [results, Try.results18, go_sem, y0, y1, y2, y3]
    · have := HS1.out
      exact (HM2.out.keep h5 fun b hb e => by omega).mono fun b hb => by omega
  · rw [if_neg hv] at hrs
    injection hrs with hrs
    obtain ⟨rfl, rfl⟩ : m2 = ⟨0, 0, [], []⟩ ∧ c = 1 := ⟨(congrArg Prod.fst hrs).symm, (congrArg Prod.snd hrs).symm⟩
    have hv' : (A.valid m != 0) = true := by rw [bne_iff_ne]; exact hv
    clear hv hrs HRS x0 x1 x2 x3
    go_wp2_with fail
    refine bodyPost_ret (w := put4 w1 (w.heap.size + 1) (.int .i64 0) (.int .i64 0) (.slice none 0 0) (.slice none 0 0)) (v := .tuple #[.agg #[.int .i64 0, .int .i64 0, .slice none 0 0, .slice none 0 0], .int .i64 1]) ?_ rfl ⟨_, rfl, ⟨_, _, rfl, ⟨none, 0, rfl, fun k hk => absurd hk (Nat.not_lt_zero _)⟩, ⟨none, 0, rfl, fun k hk => absurd hk (Nat.not_lt_zero _)⟩⟩, put4_frm HF1.out (by omega)⟩
    have h4 := put4_blk (l := .int .i64 0) (s := .int .i64 0) (n := .slice none 0 0) (e := .slice none 0 0) HR1.out
    generalize put4 w1 (w.heap.size + 1) (.int .i64 0) (.int .i64 0) (.slice none 0 0) (.slice none 0 0) = w4 at *
    have y0 := h4.cell 0
    have y1 := h4.cell 1
    have y2 := h4.cell 2
    have y3 := h4.cell 3
    simp [results, Try.results18, go_sem, y0, y1, y2, y3]
end Go.Proofs.Ytldmjpnldgekaaa
end
section
namespace Go.Proofs.Ytldmjpnldgekaaa
open Go.RowKit
namespace A
def leastM (m : Mac) : Mac := (leastO 100000 m).getD m
theorem leastM_is {m : Mac} (hv : valid m = 0) : leastO 100000 m = some (leastM m) ∧ LeastOf m (leastM m) := by
  obtain ⟨hf, hl, hn⟩ := valid_fits hv
  obtain ⟨o, h1, h2⟩ := leastO_ok hf (by omega) hl (f := 100000) (by omega)
  have e : leastM m = o := by unfold leastM; rw [h1]; rfl
  rw [e]
  exact ⟨h1, h2⟩
/-- What Least tells. -/
def lst (m : Mac) : Mac × Int := if valid m = 0 then (leastM m, 0) else (⟨0, 0, [], []⟩, 1)
theorem lst_O (m : Mac) : LeastO 100000 m = some (lst m) := by
  unfold LeastO lst
  by_cases hv : valid m = 0
  · rw [if_pos hv, if_pos hv, (leastM_is hv).1]
  · rw [if_neg hv, if_neg hv]
end A
theorem least_all {w : World} {P : Nat → Prop} {v : Value} {m : A.Mac} (h : MachAt w P v m) (hs : Sized m) :
    Calls Try.prog 18 #[v] w fun e w' => ∃ r, e = .returned (.tuple #[r, .int .i64 (A.lst m).2]) ∧ MachAt w' (fun b => w.heap.size ≤ b) r (A.lst m).1 ∧ Frm (fun _ => False) w w' :=
  Least_any (m2 := (A.lst m).1) (c := (A.lst m).2) h hs (Nat.le_refl _) (A.lst_O m)
theorem fits_sized {o : A.Mac} (hf : A.Fits o) (hn : o.next.length ≤ 100000) (hl : o.letters ≤ 300) : Sized o := by
  have h1 := hf.fin
  have h2 := hf.letters
  refine ⟨by unfold maxLen; omega, by unfold maxLen; omega, fun row hr => ?_⟩
  have := (hf.rows row hr).1
  unfold maxLen
  omega
theorem A.LeastOf.sized {m o : A.Mac} (hv : A.valid m = 0) (h : A.LeastOf m o) : Sized o := by
  obtain ⟨hf, hl, hn⟩ := A.valid_fits hv
  have := h.le
  exact fits_sized h.mn.fits (by omega) (by rw [h.ll]; exact hl)
theorem lst_sized (m : A.Mac) : Sized (A.lst m).1 := by
  unfold A.lst
  by_cases hv : A.valid m = 0
  · rw [if_pos hv]
    exact (A.leastM_is hv).2.sized hv
  · rw [if_neg hv]
    exact ⟨Nat.zero_le _, Nat.zero_le _, fun row hr => by cases hr⟩
theorem mach_zero (w : World) (P : Nat → Prop) : MachAt w P (.agg #[.int .i64 0, .int .i64 0, .slice none 0 0, .slice none 0 0]) ⟨0, 0, [], []⟩ :=
  ⟨_, _, rfl, ⟨none, 0, rfl, fun _ hk => absurd hk (Nat.not_lt_zero _)⟩, ⟨none, 0, rfl, fun _ hk => absurd hk (Nat.not_lt_zero _)⟩⟩
end Go.Proofs.Ytldmjpnldgekaaa
end
section
namespace Go.Proofs.Ytldmjpnldgekaaa.A
def togM (T : Bool → Bool → Bool) (x y : Mac) : Mac := if cnt T (x.start, y.start) = (-1, -1) then noM x else match searchO (nxJ T x y) 20000 (cnt T (x.start, y.start)) (-1, -1) x.letters.toNat 20000 with
  | none => noM x
  | some (ts, rows) => leastM (pairsM T x y ts rows)
def tog (T : Bool → Bool → Bool) (a b : Mac) : Mac × Int := if fit a b = 0 then (togM T (leastM a) (leastM b), 0) else (⟨0, 0, [], []⟩, fit a b)
/-- What joins two machines, least. -/
structure LeastJoin (T : Bool → Bool → Bool) (a b o : Mac) : Prop where
  mn : Mn o
  join : JoinOf T a b o
theorem LeastJoin.one {T : Bool → Bool → Bool} {a b o p : Mac} (hl : a.letters = b.letters) (h : LeastJoin T a b o) (h' : LeastJoin T a b p) : o = p :=
  h.mn.uniq h'.mn (h.join.ll.trans h'.join.ll.symm) (h.join.eqv hl h'.join)
section
variable {T : Bool → Bool → Bool} {x y : Mac}
/-- Where some pair is to be looked at: the search finds all of them, and its machine has a least one. -/
theorem togM_ok (hT : Rule T) (fx : Fits x) (fy : Fits y) (hl : x.letters = y.letters) (hl3 : x.letters ≤ 300) (hN : (1 + x.next.length) * (1 + y.next.length) ≤ 4000) (hc : cnt T (x.start, y.start) ≠ (-1, -1)) :
    ∃ ts rows, searchO (nxJ T x y) 20000 (cnt T (x.start, y.start)) (-1, -1) x.letters.toNat 20000 = some (ts, rows) ∧ Found (nxJ T x y) ((-1, -1) : Pr) x.letters.toNat (DJ T x y) (cnt T (x.start, y.start)) ts rows ∧ Fits (pairsM T x y ts rows) ∧ ts.length ≤ 4000 ∧ leastO 100000 (pairsM T x y ts rows) = some (togM T x y) ∧ (togM T x y).next.length ≤ 4000 ∧ Mn (togM T x y) ∧ JoinOf T x y (togM T x y) := by
  have hD := DJ.dom (T := T) fx fy hl
  have h0 : DJ T x y (cnt T (x.start, y.start)) := by
    rcases cnt_or (T := T) (x.start, y.start) with h | h
    · rw [h] at hc ⊢
      exact ⟨⟨fx.start, fy.start⟩, h, hc⟩
    · exact absurd h hc
  obtain ⟨ts, rows, h1, F⟩ := search_found (most := 20000) hD (by omega) (f := 20000) (by omega) hc h0
  have hlen : ts.length ≤ (1 + x.next.length) * (1 + y.next.length) := hD.few ts F.nd F.dom
  have hl0 := fx.letters
  have hf : Fits (pairsM T x y ts rows) := F.fits (by omega)
  have hn : (pairsM T x y ts rows).next.length ≤ 4000 := by
    show rows.length ≤ 4000
    rw [F.ln]
    omega
  have hv : valid (pairsM T x y ts rows) = 0 := valid_of hf hl3 hn
  obtain ⟨g1, g2⟩ := leastM_is hv
  have e : togM T x y = leastM (pairsM T x y ts rows) := by
    unfold togM
    rw [if_neg hc, h1]
  rw [← e] at g1 g2
  have := g2.le
  exact ⟨ts, rows, h1, F, hf, by omega, g1, by omega, g2.mn, (pairs_join hT fx fy hl F).least g2⟩
theorem togM_no (h : cnt T (x.start, y.start) = (-1, -1)) : togM T x y = noM x := by
  unfold togM
  rw [if_pos h]
end
/-- Both machines' least ones, joined. -/
theorem tog_ok {T : Bool → Bool → Bool} (hT : Rule T) {a b : Mac} (h : fit a b = 0) (hN : (1 + a.next.length) * (1 + b.next.length) ≤ 4000) : LeastJoin T a b (togM T (leastM a) (leastM b)) ∧ (togM T (leastM a) (leastM b)).next.length ≤ 4000 := by
  have ht := fit_two h
  have hv : valid a = 0 ∧ valid b = 0 := by
    unfold fit at h
    split at h
    · rename_i hv; exact hv
    · cases h
  have la := (leastM_is hv.1).2
  have lb := (leastM_is hv.2).2
  have hl : (leastM a).letters = (leastM b).letters := by rw [la.ll, lb.ll, ht.ll]
  have hN' : (1 + (leastM a).next.length) * (1 + (leastM b).next.length) ≤ 4000 := Nat.le_trans (Nat.mul_le_mul (by have := la.le; omega) (by have := lb.le; omega)) hN
  by_cases hc : cnt T ((leastM a).start, (leastM b).start) = (-1, -1)
  · rw [togM_no hc]
    exact ⟨⟨noM_mn la.mn.fits.letters, (no_join hT hl hc).of la.ll lb.ll la.eqv lb.eqv⟩, Nat.zero_le _⟩
  · obtain ⟨ts, rows, h1, F, hf, h2, h3, h4, h5, h6⟩ := togM_ok hT la.mn.fits lb.mn.fits hl (by rw [la.ll]; exact ht.la) hN' hc
    exact ⟨⟨h5, h6.of la.ll lb.ll la.eqv lb.eqv⟩, h4⟩
end Go.Proofs.Ytldmjpnldgekaaa.A
end
section
namespace Go.Proofs.Ytldmjpnldgekaaa
open Go.RowKit
theorem enters {f : FuncId} {fn : Func} {c : Code} (hf : Try.prog.funcs[f]? = some fn) (hn : (fn.name == "runtime.NumGoroutine") = false) (hb : fn.body = some c) (args : Array Value) (w : World) : (callFunc f args).run Try.prog w = .ok (.enter f args) w := by
  have hn' : fn.name ≠ "runtime.NumGoroutine" := beq_eq_false_iff_ne.1 hn
  simp [callFunc, hf, hn', hb]
/-- A function value that tells what the rule tells. -/
structure Tells (T : Bool → Bool → Bool) (tf : Nat) : Prop where
  run : ∀ (args : Array Value) (W : World), (callFunc tf args).run Try.prog W = .ok (.enter tf args) W
  is : ∀ (W : World) (b1 b2 : Bool), Calls Try.prog tf #[.bool b1, .bool b2] W fun e w' => e = .returned (.bool (T b1 b2)) ∧ Frm (fun _ => False) W w'
set_option maxRecDepth 100000 in
set_option maxHeartbeats 4000000 in
theorem tells_and : Tells (fun a b => a && b) 25 := ⟨fun args W => enters Try.func25 (by kernel_rfl) rfl args W, fun W b1 b2 => by
  cases b1 with
  | true =>
    go_enter Try.func25, Try.ntmps25
    go_wp2_with fail
    go_ret
    exact ⟨by cases b2 <;> rfl, Frm.refl _ _⟩
  | false =>
    go_enter Try.func25, Try.ntmps25
    go_wp2_with fail
    go_ret
    exact ⟨rfl, Frm.refl _ _⟩⟩
set_option maxRecDepth 100000 in
set_option maxHeartbeats 4000000 in
theorem tells_or : Tells (fun a b => a || b) 26 := ⟨fun args W => enters Try.func26 (by kernel_rfl) rfl args W, fun W b1 b2 => by
  cases b1 with
  | true =>
    go_enter Try.func26, Try.ntmps26
    go_wp2_with fail
    go_ret
    exact ⟨rfl, Frm.refl _ _⟩
  | false =>
    go_enter Try.func26, Try.ntmps26
    go_wp2_with fail
    go_ret
    exact ⟨by cases b2 <;> rfl, Frm.refl _ _⟩⟩
set_option maxRecDepth 100000 in
set_option maxHeartbeats 4000000 in
/-- The closure that counts a pair, or not; the rule's function in the box tb. -/
theorem tog1_any {w : World} {T : Bool → Bool → Bool} {tf tb : Nat} (hc : Tells T tf) (hb : Blk w tb 50 #[.func (.func tf) #[] #[]]) (p : A.Pr) :
    Calls Try.prog 48 #[pairV p, .pointer (some ⟨tb, 0, none⟩)] w fun e w' => e = .returned (pairV (A.cnt T p)) ∧ Frm (fun _ => False) w w' := by
  obtain ⟨p1, p2⟩ := p
  have HF0 : Hid (Frm (fun _ => False) w ((w.alloc (.cells #[.int .i64 p1, .int .i64 p2] 57)).alloc (.cells #[.int .i64 0, .int .i64 0] 57))) := ((Frm.refl _ w).alloc _).alloc _
  have HP : Hid (Blk ((w.alloc (.cells #[.int .i64 p1, .int .i64 p2] 57)).alloc (.cells #[.int .i64 0, .int .i64 0] 57)) w.heap.size 57 #[.int .i64 p1, .int .i64 p2]) := (Blk.new w _ _).alloc _
  have HR : Hid (Blk ((w.alloc (.cells #[.int .i64 p1, .int .i64 p2] 57)).alloc (.cells #[.int .i64 0, .int .i64 0] 57)) (w.heap.size + 1) 57 #[.int .i64 0, .int .i64 0]) := blk_at (by simp)
  have t0 := (HF0.out.blk hb id).cell 0
  have q0 := HP.out.cell 0
  have q1 := HP.out.cell 1
  have HC := Lib.hid hc
  have hrun := hc.run #[.bool (p1 != -1), .bool (p2 != -1)] ((w.alloc (.cells #[.int .i64 p1, .int .i64 p2] 57)).alloc (.cells #[.int .i64 0, .int .i64 0] 57))
  have HX : Hid (A.cnt T (p1, p2) = if T (p1 != -1) (p2 != -1) = true then (p1, p2) else (-1, -1)) := show _ = _ by
    unfold A.cnt
    have e1 : decide (p1 ≠ -1) = (p1 != -1) := by by_cases h : p1 = -1 <;> simp [h]
    have e2 : decide (p2 ≠ -1) = (p2 != -1) := by by_cases h : p2 = -1 <;> simp [h]
    dsimp only
    rw [e1, e2]
  clear hc hb
  simp only [pairV]
  go_enter Try.func48, Try.ntmps48
  go_wp2_with fail
  clear t0 q0 q1
  refine (HC.out.is _ _ _).mono ?_
  rintro _ w1 ⟨rfl, f1⟩
  have HF1 := Lib.hid (HF0.out.trans f1)
  have HP1 := Lib.hid (f1.blk HP.out id)
  have HR1 := Lib.hid (f1.blk HR.out id)
  clear f1 HF0 HP HR hrun
  by_cases hb : T (p1 != -1) (p2 != -1) = true
  case neg =>
    have hb' : T (p1 != -1) (p2 != -1) = false := by simpa using hb
    have HY : Hid (A.cnt T (p1, p2) = (-1, -1)) := show _ = _ by rw [HX.out, if_neg hb]
    rw [hb']
    clear hb hb'
    go_wp2_with fail
    refine (nowhere_any w1).mono ?_
    rintro _ w2 ⟨rfl, f2⟩
    have HF2 := Lib.hid (HF1.out.trans f2)
    have HR2 := Lib.hid (f2.blk HR1.out id)
    have r0 := HR2.out.cell 0
    have r1 := HR2.out.cell 1
    have s0 := HR2.out.frozen 0
    have s1 := HR2.out.frozen 1
    simp only [pairV]
    clear f2
    go_wp2_with fail
    have FZ := Frm.set2 (w := w2) (w.heap.size + 1) (.int .i64 (-1)) (.int .i64 (-1))
    refine bodyPost_ret (v := pairV (-1, -1)) (by simp [results, Try.results48, go_sem, pairV, r0, r1]) rfl ⟨by rw [HY.out]; rfl, ?_⟩
    exact Frm.mono (E := fun b => b = w.heap.size + 1) ((HF2.out.mono fun _ _ h => h.elim).trans FZ) fun b hb h => by omega
  · have HY : Hid (A.cnt T (p1, p2) = (p1, p2)) := show _ = _ by rw [HX.out, if_pos hb]
    rw [hb]
    clear hb
    have q0 := HP1.out.cell 0
    have q1 := HP1.out.cell 1
    have r0 := HR1.out.cell 0
    have r1 := HR1.out.cell 1
    have s0 := HR1.out.frozen 0
    have s1 := HR1.out.frozen 1
    go_wp2_with fail
    have FZ := Frm.set2 (w := w1) (w.heap.size + 1) (.int .i64 p1) (.int .i64 p2)
    refine bodyPost_ret (v := pairV (p1, p2)) (by simp [results, Try.results48, go_sem, pairV, r0, r1]) rfl ⟨by rw [HY.out]; rfl, ?_⟩
    exact Frm.mono (E := fun b => b = w.heap.size + 1) ((HF1.out.mono fun _ _ h => h.elim).trans FZ) fun b hb h => by omega
end Go.Proofs.Ytldmjpnldgekaaa
end
section
namespace Go.Proofs.Ytldmjpnldgekaaa
open Go.RowKit
section
variable {P : Program} {Q : Exit → Act → World → Prop}
theorem getD_setB {l : Array Bool} {i j : Nat} {d : Bool} (h : i < l.size) : (l.setIfInBounds i true).getD j d = if i = j then true else l.getD j d := by
  simp only [Array.getD_eq_getD_getElem?, Array.getElem?_setIfInBounds, h, if_true]
  split <;> simp
theorem count_setB {l : Array Bool} {i : Nat} (h : i < l.size) (hf : l.getD i true = false) : (l.setIfInBounds i true).toList.count false + 1 = l.toList.count false := by
  have h' : i < l.toList.length := by simpa using h
  have e : l.toList[i] = false := by simpa [h] using hf
  rw [Array.toList_setIfInBounds, List.count_set h', e]
  have : 0 < l.toList.count false := List.count_pos_iff.2 (e ▸ List.getElem_mem h')
  rw [if_pos (by rfl), if_neg (by decide)]
  omega
theorem getD_setV {l : Array Value} {i j : Nat} {v d : Value} (h : i < l.size) : (l.setIfInBounds i v).getD j d = if i = j then v else l.getD j d := by
  simp only [Array.getD_eq_getD_getElem?, Array.getElem?_setIfInBounds, h, if_true]
  split <;> simp
theorem fold_set (d : Nat → Nat) (vs : Nat → Value) (t0 : Array Value) : ∀ n, ((List.range n).foldl (fun t i => t.setIfInBounds (d i) (vs i)) t0).size = t0.size ∧ ((∀ i < n, d i < t0.size) → (∀ i < n, ∀ j < n, d i = d j → i = j) → (∀ i < n, ((List.range n).foldl (fun t i => t.setIfInBounds (d i) (vs i)) t0).getD (d i) undef = vs i) ∧ ∀ t, (∀ j < n, d j ≠ t) → ((List.range n).foldl (fun t i => t.setIfInBounds (d i) (vs i)) t0).getD t undef = t0.getD t undef)
  | 0 => ⟨rfl, fun _ _ => ⟨fun _ h => absurd h (by omega), fun _ _ => rfl⟩⟩
  | n + 1 => by
    obtain ⟨h1, h2⟩ := fold_set d vs t0 n
    rw [List.range_succ, List.foldl_append, List.foldl_cons, List.foldl_nil]
    refine ⟨by rw [Array.size_setIfInBounds, h1], fun hl hi => ?_⟩
    obtain ⟨h3, h4⟩ := h2 (fun i h => hl i (by omega)) (fun i h j h' => hi i (by omega) j (by omega))
    refine ⟨fun i h => ?_, fun t ht => ?_⟩
    · rw [getD_setV (by rw [h1]; exact hl n (by omega))]
      by_cases e : d n = d i
      · rw [if_pos e, hi n (by omega) i h e]
      · rw [if_neg e]
        have : i ≠ n := fun h' => e (by rw [h'])
        exact h3 i (by omega)
    · rw [getD_setV (by rw [h1]; exact hl n (by omega)), if_neg (ht n (by omega))]
      exact h4 t (fun j hj => ht j (by omega))
theorem fold_self {n : Nat} {d : Nat → Nat} {t0 tm : Array Value} (hlt : ∀ i < n, d i < t0.size) (hinj : ∀ i < n, ∀ j < n, d i = d j → i = j) (ht : tm.size = t0.size) (hu : ∀ t, (∀ j < n, d j ≠ t) → tm.getD t undef = t0.getD t undef) : (List.range n).foldl (fun t i => t.setIfInBounds (d i) (tm.getD (d i) undef)) t0 = tm := by
  obtain ⟨h2, h3⟩ := fold_set d (fun i => tm.getD (d i) undef) t0 n
  obtain ⟨h4, h5⟩ := h3 hlt hinj
  apply Array.ext
  · rw [h2, ht]
  · intro t ha hb
    have e1 : ∀ (A : Array Value) (h : t < A.size), A[t] = A.getD t undef := fun A h => by simp [h]
    rw [e1, e1]
    by_cases hj : ∃ j, j < n ∧ d j = t
    · obtain ⟨j, hj, rfl⟩ := hj
      exact h4 j hj
    · have hj' : ∀ j < n, d j ≠ t := fun j h e => hj ⟨j, h, e⟩
      rw [h5 t hj', hu t hj']
theorem wp_region_facts {id : Nat} {a0 : Act} {w0 : World} {ops : Array Oper} (d : Nat → Nat) (fact : Nat → Value → World → Prop) (R : World → World → Prop)
    (hm : P.follows .mixedOrders = true) (hd : ∀ i (h : i < ops.size), ops[i].dst = some (d i)) (hinj : ∀ i < ops.size, ∀ j < ops.size, d i = d j → i = j) (hlt : ∀ i < ops.size, d i < a0.tmps.size)
    (haf : ∀ i (h : i < ops.size), ∀ e ∈ ops[i].after, e.on < i ∧ Region.binds .any e = true)
    (hRt : ∀ a b c, R a b → R b c → R a c) (hst : ∀ i v w w', fact i v w → R w w' → fact i v w')
    (hg : ∀ i (h : i < ops.size) j b, ops[i].guard = some (j, b) → (∃ e ∈ ops[i].after, e.on = j) ∧ ∀ v w, fact j v w → v = .bool b)
    (h0 : R w0 { w0 with drawn := w0.drawn + 1 })
    (hstep : ∀ i (h : i < ops.size) (tm : Array Value) w, tm.size = a0.tmps.size → R w0 w → (∀ t, (∀ j < ops.size, d j ≠ t) → tm.getD t undef = a0.tmps.getD t undef) → (∀ e ∈ ops[i].after, fact e.on (tm.getD (d e.on) undef) w) →
      ops[i].wp P ⟨tm, a0.defers⟩ w (fun a' w' => ∃ v, a' = Act.put ⟨tm, a0.defers⟩ (some (d i)) v ∧ fact i v w' ∧ R w w') Q)
    (hend : ∀ (vs : Nat → Value) w, R w0 w → (∀ i < ops.size, fact i (vs i) w) → Q .normal ⟨(List.range ops.size).foldl (fun t i => t.setIfInBounds (d i) (vs i)) a0.tmps, a0.defers⟩ w) :
    (Code.region id ops true).wp P Q a0 w0 := by
  refine wp_region_any hm ?_
  have key : ∀ (fuel : Nat) (listed : Array Bool) (tm : Array Value) (w : World), listed.size = ops.size → listed.toList.count false ≤ fuel → tm.size = a0.tmps.size → R w0 w → (∀ t, (∀ j < ops.size, d j ≠ t) → tm.getD t undef = a0.tmps.getD t undef) → (∀ j < ops.size, listed.getD j true = true → fact j (tm.getD (d j) undef) w) → wpAny P .any ops Q fuel listed ⟨tm, a0.defers⟩ w := by
    have hall : ∀ (listed : Array Bool), listed.size = ops.size → Region.ready .any ops listed = [] → ∀ j < ops.size, listed.getD j true = true := by
      intro listed hs hr j
      induction j using Nat.strongRecOn with
      | _ j ih =>
        intro hj
        rcases hb : listed.getD j true with _ | _
        · exfalso
          have : j ∈ Region.ready .any ops listed := mem_ready.2 ⟨hb, ops[j], by simp [hj], fun e he _ => by
            have h1 := (haf j hj e he).1
            have h2 := ih e.on h1 (by omega)
            have h3 : e.on < listed.size := by omega
            simpa [h3] using h2⟩
          rw [hr] at this
          cases this
        · rfl
    have fin : ∀ (listed : Array Bool) (tm : Array Value) (w : World), listed.size = ops.size → tm.size = a0.tmps.size → R w0 w → (∀ t, (∀ j < ops.size, d j ≠ t) → tm.getD t undef = a0.tmps.getD t undef) → (∀ j < ops.size, listed.getD j true = true → fact j (tm.getD (d j) undef) w) → Region.ready .any ops listed = [] → Q .normal ⟨tm, a0.defers⟩ w := by
      intro listed tm w hs ht hR hu hf hr
      have hl := hall listed hs hr
      have h1 := hend (fun i => tm.getD (d i) undef) w hR (fun i hi => hf i hi (hl i hi))
      rw [fold_self hlt hinj ht hu] at h1
      exact h1
    intro fuel
    induction fuel with
    | zero =>
      intro listed tm w hs hc ht hR hu hf
      have hr : Region.ready .any ops listed = [] := by
        apply List.eq_nil_iff_forall_not_mem.2
        intro i hi
        obtain ⟨hb, o, ho, _⟩ := mem_ready.1 hi
        have hi' : i < ops.size := by
          rcases Nat.lt_or_ge i ops.size with h | h
          · exact h
          · rw [Array.getElem?_eq_none h] at ho; cases ho
        have := count_setB (l := listed) (i := i) (by omega) hb
        omega
      exact ⟨hr, fin listed tm w hs ht hR hu hf hr⟩
    | succ fuel ih =>
      intro listed tm w hs hc ht hR hu hf
      refine ⟨fun hr => fin listed tm w hs ht hR hu hf hr, fun i hi => ?_⟩
      obtain ⟨hb, o, ho, hall'⟩ := mem_ready.1 hi
      have hi' : i < ops.size := by
        rcases Nat.lt_or_ge i ops.size with h | h
        · exact h
        · rw [Array.getElem?_eq_none h] at ho; cases ho
      have heo : ops[i] = o := by rw [Array.getElem?_eq_getElem hi'] at ho; exact Option.some.inj ho
      have hdep : ∀ e ∈ ops[i].after, listed.getD e.on true = true := fun e he => by
        have h1 := haf i hi' e he
        have h2 := hall' e (heo ▸ he) h1.2
        have h3 : e.on < listed.size := by omega
        simpa [h3] using h2
      have hfd : ∀ e ∈ ops[i].after, fact e.on (tm.getD (d e.on) undef) w := fun e he => hf e.on (by have := haf i hi' e he; omega) (hdep e he)
      have hw : Region.wanted ops[i] (yielded ops tm) = true := by
        unfold Region.wanted
        rcases hgu : ops[i].guard with _ | ⟨j, b⟩
        · rfl
        · obtain ⟨⟨e, he, rfl⟩, h2⟩ := hg i hi' j b hgu
          have h3 := h2 _ _ (hfd e he)
          have h4 : e.on < ops.size := by have := haf i hi' e he; omega
          have h5 : yielded ops tm e.on = some b := by
            unfold yielded
            have h6 : d e.on < tm.size := by rw [ht]; exact hlt _ h4
            have h7 : tm[d e.on] = .bool b := by rw [← h3]; simp [h6]
            rw [Array.getElem?_eq_getElem h4, Option.bind_some, hd _ h4, Option.bind_some, Array.getElem?_eq_getElem h6, h7]
          simp only [h5, beq_self_eq_true]
      unfold wpOp
      rw [Array.getElem?_eq_getElem hi']
      dsimp only
      rw [if_pos hw]
      refine .inl (Oper.wp_mono (fun a' w' h' => ?_) (hstep i hi' tm w ht hR hu hfd))
      obtain ⟨v, rfl, hv, hR'⟩ := h'
      have hdi := hlt i hi'
      rw [← ht] at hdi
      refine ih (listed.setIfInBounds i true) (tm.setIfInBounds (d i) v) w' (by simpa using hs) ?_ (by simpa using ht) (hRt _ _ _ hR hR') ?_ ?_
      · have := count_setB (l := listed) (i := i) (by omega) hb
        omega
      · intro t h
        rw [getD_setV hdi, if_neg (h i hi')]
        exact hu t h
      · intro j hj hl
        rw [getD_setV hdi]
        by_cases e : d i = d j
        · rw [if_pos e]
          have := hinj i hi' j hj e
          subst this
          exact hv
        · rw [if_neg e]
          have hij : i ≠ j := fun h => e (by rw [h])
          rw [getD_setB (by omega), if_neg hij] at hl
          exact hst _ _ _ _ (hf j hj hl) hR'
  refine key ops.size _ a0.tmps _ (by simp) (by simp) rfl h0 (fun _ _ => rfl) (fun j hj hl => ?_)
  simp [hj] at hl
/-- Of each operation of a list, by its number. -/
def Each (S : Nat → Oper → Prop) : Nat → List Oper → Prop
  | _, [] => True
  | i, o :: r => S i o ∧ Each S (i + 1) r
theorem Each.get {S : Nat → Oper → Prop} : ∀ {l : List Oper} {k i : Nat} {o : Oper}, Each S k l → l[i]? = some o → S (k + i) o
  | [], _, _, _, _, h => by simp at h
  | a :: l, k, 0, o, he, h => by
    simp only [List.getElem?_cons_zero, Option.some.injEq] at h
    exact h ▸ he.1
  | a :: l, k, i + 1, o, he, h => by
    have := Each.get he.2 (by simpa using h : l[i]? = some o)
    rwa [show k + (i + 1) = k + 1 + i by omega]
def putAll (n : Nat) (d : Nat → Nat) (vs : Nat → Value) (t : Array Value) : Array Value := (List.range n).foldl (fun t i => t.setIfInBounds (d i) (vs i)) t
def factsB (ops : Array Oper) (d : Nat → Nat) (n : Nat) (gs : List (Nat × Bool)) : Bool :=
  (List.range ops.size).all fun i => match ops[i]? with
    | none => false
    | some o => (match o.dst with | some x => x == d i | none => false) && decide (d i < n) && ((List.range ops.size).all fun j => d i != d j || i == j) && (o.after.all fun e => decide (e.on < i) && Region.binds .any e) && (match o.guard with | none => true | some g => gs.contains g && o.after.any fun e => e.on == g.1)
theorem wp_region_told {id : Nat} {a0 : Act} {w0 : World} {ops : Array Oper} (d : Nat → Nat) (fact : Nat → Value → World → Prop) (R : World → World → Prop) (gs : List (Nat × Bool))
    (hm : P.follows .mixedOrders = true) (hB : factsB ops d a0.tmps.size gs = true) (hRt : ∀ a b c, R a b → R b c → R a c) (hst : ∀ i v w w', fact i v w → R w w' → fact i v w')
    (hg : ∀ g ∈ gs, ∀ v w, fact g.1 v w → v = .bool g.2) (h0 : R w0 { w0 with drawn := w0.drawn + 1 })
    (hstep : Each (fun i o => ∀ (vs : Nat → Value) w, R w0 w → (∀ j, (o.after.any fun e => e.on == j) = true → fact j (vs j) w) →
      o.wp P ⟨putAll ops.size d vs a0.tmps, a0.defers⟩ w (fun a' w' => ∃ v, a' = Act.put ⟨putAll ops.size d vs a0.tmps, a0.defers⟩ o.dst v ∧ fact i v w' ∧ R w w') Q) 0 ops.toList)
    (hend : ∀ (vs : Nat → Value) w, R w0 w → (∀ i < ops.size, fact i (vs i) w) → Q .normal ⟨putAll ops.size d vs a0.tmps, a0.defers⟩ w) : (Code.region id ops true).wp P Q a0 w0 := by
  unfold factsB at hB
  rw [List.all_eq_true] at hB
  have hB' : ∀ i (h : i < ops.size), (match ops[i].dst with | some x => x == d i | none => false) = true ∧ d i < a0.tmps.size ∧ (∀ j < ops.size, d i = d j → i = j) ∧ (∀ e ∈ ops[i].after, e.on < i ∧ Region.binds .any e = true) ∧ (match ops[i].guard with | none => true | some g => gs.contains g && ops[i].after.any fun e => e.on == g.1) = true := fun i h => by
    have h1 := hB i (List.mem_range.2 h)
    rw [Array.getElem?_eq_getElem h] at h1
    simp only [Bool.and_eq_true, decide_eq_true_eq, List.all_eq_true, List.mem_range, Bool.or_eq_true, bne_iff_ne, beq_iff_eq, Array.all_eq_true_iff_forall_mem] at h1
    obtain ⟨⟨⟨⟨h2, h3⟩, h4⟩, h5⟩, h6⟩ := h1
    exact ⟨h2, h3, fun j hj e => (h4 j hj).elim (fun h => absurd e h) (fun h => h), h5, h6⟩
  have hd : ∀ i (h : i < ops.size), ops[i].dst = some (d i) := fun i h => by
    have h1 := (hB' i h).1
    split at h1
    · rename_i x hx
      rw [hx, beq_iff_eq.1 h1]
    · cases h1
  have hlt : ∀ i < ops.size, d i < a0.tmps.size := fun i h => (hB' i h).2.1
  have hinj : ∀ i < ops.size, ∀ j < ops.size, d i = d j → i = j := fun i h => (hB' i h).2.2.1
  refine wp_region_facts d fact R hm hd hinj hlt (fun i h => (hB' i h).2.2.2.1) hRt hst (fun i h j b hgu => ?_) h0 (fun i h tm w ht hR hu hf => ?_) hend
  · have h1 := (hB' i h).2.2.2.2
    rw [hgu] at h1
    simp only [Bool.and_eq_true, List.contains_iff_mem] at h1
    obtain ⟨e, he, he'⟩ := Array.any_eq_true'.1 h1.2
    exact ⟨⟨e, he, by simpa using he'⟩, fun v w hv => hg _ h1.1 v w hv⟩
  · have h1 := Each.get hstep (i := i) (o := ops[i]) (by simp [h]) (fun j => tm.getD (d j) undef) w hR (fun j hj => by
      obtain ⟨e, he, he'⟩ := Array.any_eq_true'.1 hj
      have := hf e he
      rwa [show e.on = j by simpa using he'] at this)
    unfold putAll at h1
    rw [fold_self hlt hinj ht hu, Nat.zero_add, hd i h] at h1
    exact h1
/-- No fact. -/
def noF : Value → World → Prop := fun _ _ => False
/-- The law as a walk uses it: the slots and the facts as lists, what the walk knows of the other slots, each operation at whatever frame. -/
theorem wp_region_list {id : Nat} {a0 : Act} {w0 : World} {ops : Array Oper} (ds : List Nat) (L : List (Value → World → Prop)) (R : World → World → Prop) (gs : List (Nat × Bool)) (fix : List (Nat × Value))
    (hm : P.follows .mixedOrders = true) (hB : (factsB ops (fun i => ds.getD i 0) a0.tmps.size gs && decide (ds.length = ops.size) && decide (L.length = ops.size)) = true) (hRt : ∀ a b c, R a b → R b c → R a c) (hst : ∀ f ∈ L, ∀ v w w', f v w → R w w' → f v w')
    (hg : ∀ g ∈ gs, ∀ v w, L.getD g.1 noF v w → v = .bool g.2) (h0 : R w0 { w0 with drawn := w0.drawn + 1 }) (hfix : ∀ x ∈ fix, x.1 ∉ ds ∧ a0.tmps[x.1]?.getD undef = x.2)
    (hstep : Each (fun i o => ∀ (Q : Exit → Act → World → Prop) (tm : Array Value) (df : List Deferred) w, R w0 w → (∀ x ∈ fix, tm[x.1]?.getD undef = x.2) → (∀ j, (o.after.any fun e => e.on == j) = true → L.getD j noF (tm[ds.getD j 0]?.getD undef) w) →
      o.wp P ⟨tm, df⟩ w (fun a' w' => ∃ v, a' = Act.put ⟨tm, df⟩ o.dst v ∧ L.getD i noF v w' ∧ R w w') Q) 0 ops.toList)
    (hend : ∀ (vs : Nat → Value) w, R w0 w → (∀ i < ops.size, L.getD i noF (vs i) w) → Q .normal ⟨putAll ops.size (fun i => ds.getD i 0) vs a0.tmps, a0.defers⟩ w) : (Code.region id ops true).wp P Q a0 w0 := by
  simp only [Bool.and_eq_true, decide_eq_true_eq] at hB
  obtain ⟨⟨hB1, hB2⟩, hB3⟩ := hB
  have hst' : ∀ i v w w', L.getD i noF v w → R w w' → L.getD i noF v w' := fun i v w w' h F => by
    by_cases hi : i < L.length
    · have e : L.getD i noF = L[i] := by simp [hi]
      rw [e] at h ⊢
      exact hst _ (List.getElem_mem hi) v w w' h F
    · have e : L.getD i noF = noF := by simp [Nat.le_of_not_lt hi]
      rw [e] at h
      exact h.elim
  refine wp_region_told (fun i => ds.getD i 0) (fun i => L.getD i noF) R gs hm hB1 hRt hst' hg h0 ?_ hend
  have key : ∀ (l : List Oper) (k : Nat), Each (fun i o => ∀ (Q : Exit → Act → World → Prop) (tm : Array Value) (df : List Deferred) w, R w0 w → (∀ x ∈ fix, tm[x.1]?.getD undef = x.2) → (∀ j, (o.after.any fun e => e.on == j) = true → L.getD j noF (tm[ds.getD j 0]?.getD undef) w) →
      o.wp P ⟨tm, df⟩ w (fun a' w' => ∃ v, a' = Act.put ⟨tm, df⟩ o.dst v ∧ L.getD i noF v w' ∧ R w w') Q) k l → (∀ o ∈ l, ∃ i, ∃ h : i < ops.size, ops[i] = o) → Each (fun i o => ∀ (vs : Nat → Value) w, R w0 w → (∀ j, (o.after.any fun e => e.on == j) = true → L.getD j noF (vs j) w) →
      o.wp P ⟨putAll ops.size (fun i => ds.getD i 0) vs a0.tmps, a0.defers⟩ w (fun a' w' => ∃ v, a' = Act.put ⟨putAll ops.size (fun i => ds.getD i 0) vs a0.tmps, a0.defers⟩ o.dst v ∧ L.getD i noF v w' ∧ R w w') Q) k l := by
    have hall : ∀ (vs : Nat → Value), (∀ i < ops.size, (putAll ops.size (fun i => ds.getD i 0) vs a0.tmps).getD (ds.getD i 0) undef = vs i) ∧ ∀ t, t ∉ ds → (putAll ops.size (fun i => ds.getD i 0) vs a0.tmps).getD t undef = a0.tmps.getD t undef := fun vs => by
      have hB' := hB1
      unfold factsB at hB'
      rw [List.all_eq_true] at hB'
      have h1 : (∀ i < ops.size, ds.getD i 0 < a0.tmps.size) ∧ ∀ i < ops.size, ∀ j < ops.size, ds.getD i 0 = ds.getD j 0 → i = j := by
        refine ⟨fun i hi => ?_, fun i hi j hj e => ?_⟩
        · have h1 := hB' i (List.mem_range.2 hi)
          rw [Array.getElem?_eq_getElem hi] at h1
          simp only [Bool.and_eq_true, decide_eq_true_eq] at h1
          exact h1.1.1.1.2
        · have h1 := hB' i (List.mem_range.2 hi)
          rw [Array.getElem?_eq_getElem hi] at h1
          simp only [Bool.and_eq_true, List.all_eq_true, List.mem_range, Bool.or_eq_true, bne_iff_ne, beq_iff_eq] at h1
          exact (h1.1.1.2 j hj).elim (fun h => absurd e h) (fun h => h)
      obtain ⟨_, h2⟩ := fold_set (fun i => ds.getD i 0) vs a0.tmps ops.size
      obtain ⟨h3, h4⟩ := h2 h1.1 h1.2
      refine ⟨h3, fun t ht => h4 t fun j hj e => ht ?_⟩
      have : j < ds.length := by omega
      have e2 : ds.getD j 0 = ds[j] := by simp [this]
      rw [e2] at e
      exact e ▸ List.getElem_mem this
    intro l
    induction l with
    | nil => intro k _ _; trivial
    | cons o r ih =>
      intro k h hl
      refine ⟨fun vs w hR hd => ?_, ih (k + 1) h.2 fun o' ho' => hl o' (List.mem_cons_of_mem _ ho')⟩
      obtain ⟨h3, h4⟩ := hall vs
      refine h.1 Q (putAll ops.size (fun i => ds.getD i 0) vs a0.tmps) a0.defers w hR (fun x hx => ?_) fun j hj => ?_
      · obtain ⟨h5, h6⟩ := hfix x hx
        have := h4 x.1 h5
        simp only [Array.getD_eq_getD_getElem?] at this
        rw [this, h6]
      · have hj2 : j < ops.size := by
          obtain ⟨i, hi, rfl⟩ := hl o List.mem_cons_self
          have hB' := hB1
          unfold factsB at hB'
          rw [List.all_eq_true] at hB'
          have h1 := hB' i (List.mem_range.2 hi)
          rw [Array.getElem?_eq_getElem hi] at h1
          simp only [Bool.and_eq_true, Array.all_eq_true_iff_forall_mem, decide_eq_true_eq] at h1
          obtain ⟨e, he, he'⟩ := Array.any_eq_true'.1 hj
          have := (h1.1.2 e he).1
          have he'' : e.on = j := by simpa using he'
          omega
        have := h3 j hj2
        simp only [Array.getD_eq_getD_getElem?] at this
        rw [this]
        exact hd j hj
  exact key _ _ hstep fun o ho => by
    obtain ⟨i, hi, e⟩ := List.getElem_of_mem ho
    exact ⟨i, by simpa using hi, by simpa using e⟩
end
end Go.Proofs.Ytldmjpnldgekaaa
end
