/- Plain: the walk's pairs, sorted, are just those that auto's search finds, sorted. Relate of package auto, told by what its pairs are. Words for the reference's Relate: a row of pairs of one's own; two of them change places. The reference's before, there. The reference's Relate. Plain: what the reference's Check asks of pairs is what A.check tells. The reference's Check. append of pairs onto a new, empty row. AutoRelates: the law's walk. AutoRelates returns true whatever two machines and pairs come in, and leaves them as they are. No condition. Contracts of the program's functions, with no condition beyond what each theorem states. -/
import Derived.Test.YtiekaicbjinbaaaC11
import Derived.Test.YtiekaicbjinbaaaC12
import Derived.Test.YtiekaicbjinbaaaC03
import Derived.Test.YtiekaicbjinbaaaC02
import Derived.Deep.AppendSrc
import Derived.Test.YtiekaicbjinbaaaRows
import Derived.SizedLaws
import Derived.WalkKit
import Derived.ProofKit
import Derived.OpenShut
import Derived.WideKeyArgs
section
namespace Go.Proofs.Ytiekaicbjinbaaa.A
theorem good_iff {a b : Mac} (h2 : Two a b) {ws : List Tr} {W : Nat → List Int} (h : WT a b ws.length 0 ws W) (hn : NP ws) (z : Pr) : z ∈ ws.map Tr.p ↔ GoodP a b z := by
  have hst : InP a b (a.start, b.start) := ⟨h2.fa.start, h2.fb.start⟩
  constructor
  · intro hz
    obtain ⟨t, ht, rfl⟩ := List.mem_map.1 hz
    obtain ⟨j, hj, rfl⟩ := List.getElem_of_mem ht
    refine ⟨?_, fun e => ?_, W j, h.ok j hj, h.pr j hj⟩
    · rw [h.pr j hj]; exact h2.run (h.ok j hj) hst
    · have := hn.2 _ ht
      rw [e] at this
      rcases this with h | h
      · exact absurd h (by decide)
      · exact absurd h (by decide)
  · rintro ⟨_, hne, w, hw, rfl⟩
    rcases Seen.all h w.length w rfl hw with e | ⟨j, hj, e, _⟩
    · exact absurd e hne
    · rw [← e]
      exact List.mem_map_of_mem (List.getElem_mem hj)
/-- What the search closes over holds all good pairs. -/
theorem good_closed {a b : Mac} {ts : List Pr} (hst : (a.start, b.start) ∈ ts) (hc : ∀ z ∈ ts, ∀ k : Nat, (k : Int) < a.letters → leadP a b z k = (-1, -1) ∨ leadP a b z k ∈ ts) : ∀ (n : Nat) (w : List Int), w.length = n → OkW a w → runP a b (a.start, b.start) w = (-1, -1) ∨ runP a b (a.start, b.start) w ∈ ts
  | 0, w, hn, _ => by
    obtain rfl := List.eq_nil_of_length_eq_zero hn
    exact Or.inr hst
  | n + 1, w, hn, hw => by
    obtain ⟨u, l, rfl⟩ : ∃ u l, w = u ++ [l] := ⟨w.dropLast, w.getLast (by intro e; subst e; cases hn), (List.dropLast_concat_getLast _).symm⟩
    obtain ⟨h0, h1⟩ := hw.right l List.mem_cons_self
    obtain ⟨l, rfl⟩ := Int.eq_ofNat_of_zero_le h0
    rw [runP_app]
    rcases good_closed hst hc n u (by simpa using hn) hw.left with e | e
    · refine Or.inl ?_
      rw [e]
      simp [runP, leadP, lead]
    · exact hc _ e l h1
theorem ord_trans {x y z : Pr} (h : ord x y < 0) (h' : ord y z < 0) : ord x z < 0 := by
  obtain ⟨x1, x2⟩ := x
  obtain ⟨y1, y2⟩ := y
  obtain ⟨z1, z2⟩ := z
  unfold ord at h h' ⊢
  dsimp only at h h' ⊢
  split at h <;> split at h' <;> split <;> omega
theorem ord_irr (x : Pr) : ¬ ord x x < 0 := by
  unfold ord
  rw [if_neg (by simp)]
  omega
theorem ord_asymm {x y : Pr} (h : ord x y < 0) : ¬ ord y x < 0 := fun h' => ord_irr x (ord_trans h h')
/-- Two rows that go up, and hold the same, are the same. -/
theorem up_uniq : ∀ {l l' : List Pr}, l.Pairwise (fun x y => ord x y < 0) → l'.Pairwise (fun x y => ord x y < 0) → (∀ z, z ∈ l ↔ z ∈ l') → l = l'
  | [], [], _, _, _ => rfl
  | [], y :: l', _, _, h => by have := (h y).2 List.mem_cons_self; cases this
  | x :: l, [], _, _, h => by have := (h x).1 List.mem_cons_self; cases this
  | x :: l, y :: l', h1, h2, h => by
    obtain ⟨a1, a2⟩ := List.pairwise_cons.1 h1
    obtain ⟨b1, b2⟩ := List.pairwise_cons.1 h2
    have e : x = y := by
      rcases List.mem_cons.1 ((h x).1 List.mem_cons_self) with e | e
      · exact e
      · rcases List.mem_cons.1 ((h y).2 List.mem_cons_self) with e' | e'
        · exact e'.symm
        · exact absurd (b1 x e) (ord_asymm (a1 y e'))
    subst e
    rw [up_uniq a2 b2 fun z => ⟨fun hz => by
      rcases List.mem_cons.1 ((h z).1 (List.mem_cons_of_mem _ hz)) with e | e
      · subst e; exact absurd (a1 z hz) (ord_irr z)
      · exact e, fun hz => by
      rcases List.mem_cons.1 ((h z).2 (List.mem_cons_of_mem _ hz)) with e | e
      · subst e; exact absurd (b1 z hz) (ord_irr z)
      · exact e⟩]
/-- The pairs of a relation, as they are told: going up, and just the good ones. -/
def RelL (a b : Mac) (l : List Pr) : Prop := l.Pairwise (fun x y => ord x y < 0) ∧ ∀ z, z ∈ l ↔ GoodP a b z
theorem RelL.uniq {a b : Mac} {l l' : List Pr} (h : RelL a b l) (h' : RelL a b l') : l = l' := up_uniq h.1 h'.1 fun z => (h.2 z).trans (h'.2 z).symm
/-- One pair is put into its place: what the inner loop has come to. -/
structure Ins (s : List Pr) (x : Pr) (out : List Pr) (k : Nat) : Prop where
  ex : ∃ s1 s2, s = s1 ++ s2 ∧ out = s1 ++ x :: s2 ∧ k = s1.length ∧ ∀ y ∈ s2, ord x y < 0
theorem Ins.start (s : List Pr) (x : Pr) : Ins s x (s ++ [x]) s.length := ⟨s, [], by simp, rfl, rfl, fun y hy => by cases hy⟩
theorem Ins.len {s : List Pr} {x : Pr} {out : List Pr} {k : Nat} (h : Ins s x out k) : out.length = s.length + 1 ∧ k ≤ s.length := by
  obtain ⟨s1, s2, rfl, rfl, rfl, _⟩ := h
  simp
  omega
theorem Ins.at_ {s : List Pr} {x : Pr} {out : List Pr} {k : Nat} (h : Ins s x out k) : out[k]? = some x ∧ (∀ _ : 0 < k, ∃ y, out[k - 1]? = some y ∧ (ord x y < 0 → Ins s x ((out.set (k - 1) x).set k y) (k - 1)) ∧ (¬ ord x y < 0 → s.Pairwise (fun x y => ord x y < 0) → x ∉ s → out.Pairwise (fun x y => ord x y < 0))) := by
  obtain ⟨s1, s2, rfl, rfl, rfl, h2⟩ := h
  refine ⟨by simp, fun hk => ?_⟩
  obtain ⟨t, y, rfl⟩ : ∃ t y, s1 = t ++ [y] := ⟨s1.dropLast, s1.getLast (by intro e; subst e; cases hk), (List.dropLast_concat_getLast _).symm⟩
  have e1 : (t ++ [y]).length - 1 = t.length := by simp
  refine ⟨y, by rw [e1]; simp, fun hlt => ⟨t, y :: s2, by simp, ?_, by simp, fun z hz => ?_⟩, fun hnl hs hx => ?_⟩
  · rw [e1]
    have e2 : ((t ++ [y]) ++ x :: s2).set t.length x = t ++ x :: x :: s2 := by simp
    rw [e2]
    simp
  · rcases List.mem_cons.1 hz with rfl | hz
    · exact hlt
    · exact h2 z hz
  · have hyx : ord y x < 0 := ord_lt hnl fun e => hx (by rw [← e]; simp)
    rw [List.pairwise_append] at hs ⊢
    obtain ⟨p1, p2, p3⟩ := hs
    refine ⟨p1, List.pairwise_cons.2 ⟨h2, p2⟩, fun z hz u hu => ?_⟩
    rcases List.mem_cons.1 hu with rfl | hu
    · rcases List.mem_append.1 hz with hz' | hz'
      · rw [List.pairwise_append] at p1
        exact ord_trans (p1.2.2 z hz' y (by simp)) hyx
      · rw [List.mem_singleton.1 hz']; exact hyx
    · exact p3 z hz u hu
theorem Ins.zero {s : List Pr} {x : Pr} {out : List Pr} (h : Ins s x out 0) (hs : s.Pairwise (fun x y => ord x y < 0)) : out.Pairwise (fun x y => ord x y < 0) := by
  obtain ⟨s1, s2, rfl, rfl, e, h2⟩ := h
  obtain rfl := List.eq_nil_of_length_eq_zero e.symm
  exact List.pairwise_cons.2 ⟨h2, hs⟩
theorem Ins.mem {s : List Pr} {x : Pr} {out : List Pr} {k : Nat} (h : Ins s x out k) (z : Pr) : z ∈ out ↔ z = x ∨ z ∈ s := by
  obtain ⟨s1, s2, rfl, rfl, _, _⟩ := h
  simp only [List.mem_append, List.mem_cons]
  constructor
  · rintro (h | h | h)
    · exact Or.inr (Or.inl h)
    · exact Or.inl h
    · exact Or.inr (Or.inr h)
  · rintro (h | h | h)
    · exact Or.inr (Or.inl h)
    · exact Or.inl h
    · exact Or.inr (Or.inr h)
end Go.Proofs.Ytiekaicbjinbaaa.A
end
section
namespace Go.Proofs.Ytiekaicbjinbaaa
open Go.RowKit
namespace A
def Rel1 (a b : Mac) (l : List Pr) (c : Int) : Prop := (fit a b ≠ 0 → l = [] ∧ c = fit a b) ∧ (fit a b = 0 → (∃ l, Dist a b l) → l = [] ∧ c = 8) ∧ (fit a b = 0 → (¬ ∃ l, Dist a b l) → c = 0 ∧ RelL a b l)
theorem Rel1.uniq {a b : Mac} {l l' : List Pr} {c c' : Int} (h : Rel1 a b l c) (h' : Rel1 a b l' c') : l = l' ∧ c = c' := by
  by_cases hf : fit a b = 0
  · by_cases hd : ∃ l, Dist a b l
    · obtain ⟨e1, e2⟩ := h.2.1 hf hd
      obtain ⟨e3, e4⟩ := h'.2.1 hf hd
      exact ⟨e1.trans e3.symm, e2.trans e4.symm⟩
    · obtain ⟨e1, e2⟩ := h.2.2 hf hd
      obtain ⟨e3, e4⟩ := h'.2.2 hf hd
      exact ⟨e2.uniq e4, e1.trans e3.symm⟩
  · obtain ⟨e1, e2⟩ := h.1 hf
    obtain ⟨e3, e4⟩ := h'.1 hf
    exact ⟨e1.trans e3.symm, e2.trans e4.symm⟩
end A
/-- What Relate hands back, by what it is. -/
def RelP (w : World) (a b : A.Mac) (e : Ending) (w' : World) : Prop := ∃ u l c, e = .returned (.tuple #[u, .int .i64 c]) ∧ Prs2 w' (fun _ => True) u l ∧ l.length ≤ 20000 ∧ A.Rel1 a b l c ∧ Frm (fun _ => False) w w'
theorem prs_nil (w : World) (P : Nat → Prop) : Prs2 w P (.slice none 0 0) [] := ⟨none, 0, rfl, fun k hk => absurd hk (Nat.not_lt_zero k)⟩
theorem relate_up {w : World} {P Q : Nat → Prop} {v v' : Value} {a b : A.Mac} (h : MachAt w P v a) (h' : MachAt w Q v' b) (hs : Sized a) (hs' : Sized b) (hN : A.fit a b = 0 → (1 + a.next.length) * (1 + b.next.length) ≤ 20000) :
    Calls Try.prog 13 #[v, v'] w (RelP w a b) := by
  by_cases hf : A.fit a b = 0
  case neg => exact (relate_no h h' hs hs' hf).mono fun e w' ⟨he, F⟩ => ⟨_, [], _, he, prs_nil _ _, Nat.zero_le _, ⟨fun _ => ⟨rfl, rfl⟩, fun h => absurd h hf, fun h => absurd h hf⟩, F⟩
  have ht := A.fit_two hf
  have hna := ht.na
  have hnb := ht.nb
  rcases A.diffO_spec ht (f := 20000) (by omega) with ⟨hd, hno⟩ | ⟨l, hd, hl⟩
  case inr => exact (relate_apart h h' hs hs' hf ht hd (by decide)).mono fun e w' ⟨he, F⟩ => ⟨_, [], _, he, prs_nil _ _, Nat.zero_le _, ⟨fun h => absurd hf h, fun _ _ => ⟨rfl, rfl⟩, fun _ hn => absurd ⟨l, hl.1⟩ hn⟩, F⟩
  by_cases hst : (a.start, b.start) = (-1, -1)
  · refine (relate_nil h h' hs hs' hf ht hd (by decide) hst).mono fun e w' ⟨he, F⟩ => ⟨_, [], _, he, prs_nil _ _, Nat.zero_le _, ⟨fun h => absurd hf h, fun _ hy => absurd hy hno, fun _ _ => ⟨rfl, List.Pairwise.nil, fun z => ⟨(fun hz => by cases hz), fun ⟨_, hne, u, _, e⟩ => ?_⟩⟩⟩, F⟩
    refine absurd ?_ hne
    rw [e, hst, A.runP_run, A.runS_none, A.runS_none]
  · obtain ⟨ts, rows, hsr, hF, hin, hcl⟩ := A.search_ok ht (hN hf) hst (f := 20000) (by decide)
    have hB : ∀ z ∈ ts, BPr z := fun z hz => BPr.of_in ht (hF.good z hz).1
    obtain ⟨zs, hzs⟩ : ∃ zs : List DP, zs.map (·.1) = ts := by
      clear hsr hF hin hcl
      induction ts with
      | nil => exact ⟨[], rfl⟩
      | cons z ts ih =>
        obtain ⟨zs, e⟩ := ih fun x hx => hB x (List.mem_cons_of_mem _ hx)
        exact ⟨⟨z, hB z List.mem_cons_self⟩ :: zs, by simp [e]⟩
    have hlen : zs.length = ts.length := by rw [← hzs]; simp
    have hl1 := hF.len
    have hl2 := hN hf
    have hpos : 0 < ts.length := List.length_pos_of_mem hin
    refine (relate_same (zs := zs) (rows := rows) h h' hs hs' hf ht hd (by decide) hst (by rw [hzs]; exact hsr) (by omega) (by omega)).mono fun e w' ⟨u, zs', he, hp, hso, ho, F⟩ => ⟨u, zs'.map (fun z : DP => z.1), 0, he, ?_, ?_, ⟨fun h => absurd hf h, fun _ hy => absurd hy hno, fun _ _ => ⟨rfl, ?_, fun z => ?_⟩⟩, F⟩
    · obtain ⟨g, c, rfl, _⟩ := own_some ho (by omega)
      have hzl : zs'.length = zs.length := hp.length_eq
      rw [← hzl] at ho
      have := own_prs ho rfl (k := zs'.length) (Nat.le_refl _)
      rw [List.take_of_length_le (by simp), hzl] at this
      exact this
    · rw [List.length_map, hp.length_eq]; omega
    · have hpm : (zs'.map (fun z : DP => z.1)).Perm ts := by rw [← hzs]; exact hp.map _
      have hnd := hpm.nodup_iff.2 hF.nd
      have h1 : (zs'.map (fun z : DP => z.1)).Pairwise (fun x y => ¬ A.ord y x < 0) := by
        rw [List.pairwise_map]
        exact hso.imp fun {x y} h => by
          have : decide (cfP y x < 0) = false := h
          have h2 := of_decide_eq_false this
          exact h2
      exact (List.Pairwise.and h1 hnd).imp fun ⟨h1, h2⟩ => A.ord_lt h1 h2
    · have hpm : (zs'.map (fun z : DP => z.1)).Perm ts := by rw [← hzs]; exact hp.map _
      rw [hpm.mem_iff]
      exact ⟨fun hz => hF.good z hz, fun ⟨_, hne, u, hu, e⟩ => by
        rcases A.good_closed hin hcl u.length u rfl hu with e2 | e2
        · exact absurd (e.trans e2) hne
        · rw [e]; exact e2⟩
end Go.Proofs.Ytiekaicbjinbaaa
end
section
namespace Go.Proofs.Ytiekaicbjinbaaa
open Go.RowKit
theorem pC_get : ∀ (l : List A.Pr) (j : Nat) (hj : j < l.length), (l.flatMap pairC)[j * 2]? = some (.int .i64 l[j].1) ∧ (l.flatMap pairC)[j * 2 + 1]? = some (.int .i64 l[j].2)
  | [], j, hj => by simp at hj
  | a :: l, 0, _ => ⟨rfl, rfl⟩
  | a :: l, j + 1, hj => by
    rw [List.flatMap_cons]
    have := pC_get l j (by simpa using hj)
    have e : (j + 1) * 2 = (pairC a).length + j * 2 := by simp [pairC]; omega
    rw [List.getElem?_append_right (by rw [e]; omega), List.getElem?_append_right (by rw [e]; omega), e, Nat.add_sub_cancel_left, show (pairC a).length + j * 2 + 1 - (pairC a).length = j * 2 + 1 by omega]
    exact this
theorem pC_set : ∀ (l : List A.Pr) (j : Nat) (x : A.Pr), j < l.length → ((l.flatMap pairC).set (j * 2) (.int .i64 x.1)).set (j * 2 + 1) (.int .i64 x.2) = (l.set j x).flatMap pairC
  | [], j, _, hj => by simp at hj
  | a :: l, 0, x, _ => rfl
  | a :: l, j + 1, x, hj => by
    rw [List.flatMap_cons, List.set_cons_succ, List.flatMap_cons, ← pC_set l j x (by simpa using hj)]
    have e : (j + 1) * 2 = (pairC a).length + j * 2 := by simp [pairC]; omega
    rw [e, List.set_append_right _ _ (by omega), Nat.add_sub_cancel_left, Nat.add_assoc, List.set_append_right _ _ (by omega), Nat.add_sub_cancel_left]
def PRow (w : World) (lo : Nat) (u : Value) (l : List A.Pr) : Prop := w.ownsRow lo 40 2 u l.length (l.flatMap pairC)
section
variable {w w' : World} {lo g n cap : Nat} {u : Value} {l : List A.Pr}
theorem PRow.cells (h : PRow w lo (.slice (some ⟨g, 0, none⟩) n cap) l) {j : Nat} (hj : j < l.length) : w.cell? ⟨g, j * 2, none⟩ = some (.int .i64 l[j].1) ∧ w.cell? ⟨g, j * 2 + 1, none⟩ = some (.int .i64 l[j].2) := by
  have hc := @World.ownsRow.cells _ _ _ _ _ _ _ h g rfl
  obtain ⟨k1, k2⟩ := pC_get l j hj
  have e0 := hc (j * 2) _ k1
  have e1 := hc (j * 2 + 1) _ k2
  rw [add_zero_off] at e0 e1
  exact ⟨e0, e1⟩
theorem PRow.set_ (h : PRow w lo (.slice (some ⟨g, 0, none⟩) l.length cap) l) {j : Nat} (hj : j < l.length) (x : A.Pr) : PRow ((w.setCell ⟨g, j * 2, none⟩ (.int .i64 x.1)).setCell ⟨g, j * 2 + 1, none⟩ (.int .i64 x.2)) lo (.slice (some ⟨g, 0, none⟩) l.length cap) (l.set j x) := by
  unfold PRow at h ⊢
  rw [List.length_set, ← pC_set l j x hj]
  exact ((h.stored (j * 2) _).1.stored (j * 2 + 1) _).1
theorem PRow.prs (h : PRow w lo u l) : Prs2 w (fun b => lo ≤ b) u l := by
  obtain ⟨A0, c, rfl⟩ := own_form h
  refine ⟨A0, c, rfl, fun k hk => ?_⟩
  rcases h.2 with ⟨_, hn⟩ | ⟨g, cap, cur, e, hb, _⟩
  · omega
  · injection e with e1 e2 e3
    subst e1
    obtain ⟨k1, k2⟩ := PRow.cells h hk
    exact ⟨g, 0, rfl, hb, by rw [Nat.zero_add]; exact k1, by rw [Nat.zero_add]; exact k2⟩
theorem PRow.form (h : PRow w lo u l) (hl : 0 < l.length) : ∃ g c, u = .slice (some ⟨g, 0, none⟩) l.length c ∧ lo ≤ g ∧ ∃ cs, Blk w g 40 cs := by
  rcases h.2 with ⟨_, hn⟩ | ⟨g, cap, cur, e, hb, hbk, _⟩
  · omega
  · exact ⟨g, cap, e, hb, cur, hbk⟩
end
/-- What the swap of the pairs at k and ahead of it has come to. -/
def swO (k m : Nat) (x y : A.Pr) (o : List A.Pr) (L : Nat → Bool) : List A.Pr := if L 17 = true then (if L 15 = true then o.set m x else o).set k y else (if L 15 = true then o.set m x else o)
theorem swO_len {k m : Nat} {x y : A.Pr} {o : List A.Pr} {L : Nat → Bool} : (swO k m x y o L).length = o.length := by
  unfold swO
  split <;> split <;> simp
def swT (g k m : Nat) (x y : A.Pr) (u : Value) : Nat → Option Value
  | 0 => some u
  | 1 => some (.int .i64 (k : Int))
  | 2 => some (.int .i64 (m : Int))
  | 3 => some u
  | 4 => some (.int .i64 (k : Int))
  | 5 => some u
  | 6 => some (.int .i64 (k : Int))
  | 7 => some (.pointer (some ⟨g, k * 2, none⟩))
  | 8 => some (.agg #[.int .i64 x.1, .int .i64 x.2])
  | 9 => some u
  | 10 => some (.int .i64 (k : Int))
  | 11 => some (.int .i64 (m : Int))
  | 12 => some (.pointer (some ⟨g, m * 2, none⟩))
  | 13 => some (.agg #[.int .i64 y.1, .int .i64 y.2])
  | 14 => some (.pointer (some ⟨g, m * 2, none⟩))
  | 16 => some (.pointer (some ⟨g, k * 2, none⟩))
  | _ => none
def SwI (w0 : World) (lo g cap k m : Nat) (x y : A.Pr) (o : List A.Pr) (L : Nat → Bool) (vs : Nat → Value) (w : World) : Prop :=
  Frm (fun b => b = g) w0 w ∧ PRow w lo (.slice (some ⟨g, 0, none⟩) o.length cap) (swO k m x y o L) ∧ (L 15 = true → L 8 = true ∧ L 13 = true) ∧ (L 17 = true → L 8 = true ∧ L 13 = true) ∧ ∀ j v, j < 18 → swT g k m x y (.slice (some ⟨g, 0, none⟩) o.length cap) j = some v → L j = true → vs j = v
section
variable {w0 w w' : World} {lo g cap k m : Nat} {x y : A.Pr} {o : List A.Pr} {L : Nat → Bool} {vs : Nat → Value}
theorem SwI.cong {L' : Nat → Bool} {vs' : Nat → Value} (hL : ∀ k < 18, L k = L' k) (hv : ∀ k < 18, vs k = vs' k) (h : SwI w0 lo g cap k m x y o L vs w) : SwI w0 lo g cap k m x y o L' vs' w := by
  obtain ⟨h1, h2, h3, h4, h5⟩ := h
  unfold SwI swO at *
  rw [← hL 15 (by decide), ← hL 17 (by decide), ← hL 8 (by decide), ← hL 13 (by decide)]
  exact ⟨h1, h2, h3, h4, fun j v hj ht hl => by rw [← hv j hj]; exact h5 j v hj ht (by rw [hL j hj]; exact hl)⟩
theorem SwI.pure {i : Nat} {v : Value} (h : SwI w0 lo g cap k m x y o L vs w) (h15 : i ≠ 15) (h17 : i ≠ 17) (ht : swT g k m x y (.slice (some ⟨g, 0, none⟩) o.length cap) i = some v) : SwI w0 lo g cap k m x y o (updB L i) (updV vs i v) w := by
  obtain ⟨h1, h2, h3, h4, h5⟩ := h
  have e15 : updB L i 15 = L 15 := if_neg (Ne.symm h15)
  have e17 : updB L i 17 = L 17 := if_neg (Ne.symm h17)
  have eo : swO k m x y o (updB L i) = swO k m x y o L := by unfold swO; rw [e15, e17]
  have up : ∀ j, L j = true → updB L i j = true := fun j hj => by unfold updB; split; rfl; exact hj
  refine ⟨h1, by rw [eo]; exact h2, fun h => ?_, fun h => ?_, fun j v' hj ht' hl => ?_⟩
  · rw [e15] at h
    exact ⟨up _ (h3 h).1, up _ (h3 h).2⟩
  · rw [e17] at h
    exact ⟨up _ (h4 h).1, up _ (h4 h).2⟩
  · unfold updV
    by_cases e : j = i
    · subst e
      rw [if_pos rfl]
      rw [ht] at ht'
      exact Option.some.inj ht'
    · rw [if_neg e]
      refine h5 j v' hj ht' ?_
      unfold updB at hl
      rw [if_neg e] at hl
      exact hl
theorem SwI.orig (h : SwI w0 lo g cap k m x y o L vs w) (hl : L 8 = false ∨ L 13 = false) : swO k m x y o L = o := by
  obtain ⟨_, _, h3, h4, _⟩ := h
  have e15 : L 15 = false := by
    cases e : L 15
    · rfl
    · obtain ⟨a, b⟩ := h3 e
      rcases hl with hl | hl
      · rw [hl] at a; cases a
      · rw [hl] at b; cases b
  have e17 : L 17 = false := by
    cases e : L 17
    · rfl
    · obtain ⟨a, b⟩ := h4 e
      rcases hl with hl | hl
      · rw [hl] at a; cases a
      · rw [hl] at b; cases b
  unfold swO
  rw [e15, e17]
  simp
theorem SwI.s15 (h : SwI w0 lo g cap k m x y o L vs w) (hl : L 15 = false) (l8 : L 8 = true) (l13 : L 13 = true) (hk : m < o.length) (hmk : m ≠ k) : SwI w0 lo g cap k m x y o (updB L 15) (updV vs 15 undef) ((w.setCell ⟨g, m * 2, none⟩ (.int .i64 x.1)).setCell ⟨g, m * 2 + 1, none⟩ (.int .i64 x.2)) := by
  have hlen : (swO k m x y o L).length = o.length := swO_len
  obtain ⟨h1, h2, h3, h4, h5⟩ := h
  have e15 : updB L 15 15 = true := rfl
  have e17 : updB L 15 17 = L 17 := rfl
  have eo : swO k m x y o (updB L 15) = (swO k m x y o L).set m x := by
    unfold swO
    rw [e15, e17, hl]
    cases L 17
    · simp
    · simp only [if_true, Bool.false_eq_true, if_false]
      rw [List.set_comm _ _ hmk]
  refine ⟨(h1.set_ (p := ⟨g, m * 2, none⟩) (fun _ => rfl) _).set_ (p := ⟨g, m * 2 + 1, none⟩) (fun _ => rfl) _, ?_, fun _ => ⟨l8, l13⟩, h4, fun j v hj ht hl' => ?_⟩
  · rw [eo]
    have := PRow.set_ (l := swO k m x y o L) (by rw [hlen]; exact h2) (j := m) (by rw [hlen]; exact hk) x
    rw [hlen] at this
    exact this
  · have hj15 : j ≠ 15 := by intro e; subst e; cases ht
    show updV vs 15 undef j = v
    unfold updV
    rw [if_neg hj15]
    refine h5 j v hj ht ?_
    unfold updB at hl'
    rw [if_neg hj15] at hl'
    exact hl'
theorem SwI.s17 (h : SwI w0 lo g cap k m x y o L vs w) (hl : L 17 = false) (l8 : L 8 = true) (l13 : L 13 = true) (hk : k < o.length) : SwI w0 lo g cap k m x y o (updB L 17) (updV vs 17 undef) ((w.setCell ⟨g, k * 2, none⟩ (.int .i64 y.1)).setCell ⟨g, k * 2 + 1, none⟩ (.int .i64 y.2)) := by
  have hlen : (swO k m x y o L).length = o.length := swO_len
  obtain ⟨h1, h2, h3, h4, h5⟩ := h
  have e15 : updB L 17 15 = L 15 := rfl
  have e17 : updB L 17 17 = true := rfl
  have eo : swO k m x y o (updB L 17) = (swO k m x y o L).set k y := by
    unfold swO
    rw [e15, e17, hl]
    simp
  refine ⟨(h1.set_ (p := ⟨g, k * 2, none⟩) (fun _ => rfl) _).set_ (p := ⟨g, k * 2 + 1, none⟩) (fun _ => rfl) _, ?_, h3, fun _ => ⟨l8, l13⟩, fun j v hj ht hl' => ?_⟩
  · rw [eo]
    have := PRow.set_ (l := swO k m x y o L) (by rw [hlen]; exact h2) (j := k) (by rw [hlen]; omega) y
    rw [hlen] at this
    exact this
  · have hj17 : j ≠ 17 := by intro e; subst e; cases ht
    show updV vs 17 undef j = v
    unfold updV
    rw [if_neg hj17]
    refine h5 j v hj ht ?_
    unfold updB at hl'
    rw [if_neg hj17] at hl'
    exact hl'
end
end Go.Proofs.Ytiekaicbjinbaaa
end
section
namespace Go.Proofs.Ytiekaicbjinbaaa
open Go.RowKit
set_option maxRecDepth 100000 in
set_option maxHeartbeats 4000000 in
theorem before_any {w : World} (p q : A.Pr) : Calls Try.prog 26 #[.agg #[.int .i64 p.1, .int .i64 p.2], .agg #[.int .i64 q.1, .int .i64 q.2]] w fun e w' => YesIf (A.ord p q < 0) e ∧ Frm (fun _ => False) w w' := by
  obtain ⟨p1, p2⟩ := p
  obtain ⟨q1, q2⟩ := q
  dsimp only
  have HF : Hid (Frm (fun _ => False) w ((w.alloc (.cells #[.int .i64 p1, .int .i64 p2] 40)).alloc (.cells #[.int .i64 q1, .int .i64 q2] 40))) := ((Frm.refl _ w).alloc _).alloc _
  have HX : Hid (A.ord (p1, p2) (q1, q2) = if p1 ≠ q1 then p1 - q1 else p2 - q2) := rfl
  by_cases h1 : p1 < q1
  · have HY : Hid (A.ord (p1, p2) (q1, q2) < 0) := by show _ < _; rw [HX.out, if_pos (by omega)]; omega
    go_enter Try.func26, Try.ntmps26
    go_wp2_with fail
    go_ret
    exact ⟨⟨true, rfl, by simp [HY.out]⟩, HF.out⟩
  by_cases h2 : p1 = q1
  · subst h2
    have h1' : ¬ p1 < p1 := h1
    by_cases h3 : p2 < q2
    · have HY : Hid (A.ord (p1, p2) (p1, q2) < 0) := by show _ < _; rw [HX.out, if_neg (by simp)]; omega
      go_enter Try.func26, Try.ntmps26
      go_wp2_with fail
      go_ret
      exact ⟨⟨true, rfl, by simp [HY.out]⟩, HF.out⟩
    · have HY : Hid (¬ A.ord (p1, p2) (p1, q2) < 0) := by show ¬ _; rw [HX.out, if_neg (by simp)]; omega
      go_enter Try.func26, Try.ntmps26
      go_wp2_with fail
      go_ret
      exact ⟨⟨false, rfl, by simp [HY.out]⟩, HF.out⟩
  · have h2' : (p1 == q1) = false := by rw [beq_eq_false_iff_ne]; exact h2
    have HY : Hid (¬ A.ord (p1, p2) (q1, q2) < 0) := by show ¬ _; rw [HX.out, if_pos h2]; omega
    go_enter Try.func26, Try.ntmps26
    go_wp2_with fail
    go_ret
    exact ⟨⟨false, rfl, by simp [HY.out]⟩, HF.out⟩
set_option maxRecDepth 100000 in
set_option maxHeartbeats 4000000 in
theorem there_any {w : World} {P : Nat → Prop} {v : Value} {l : List A.Pr} (h : Prs2 w P v l) (hl : l.length ≤ maxLen) (p : A.Pr) : Calls Try.prog 27 #[v, .agg #[.int .i64 p.1, .int .i64 p.2]] w fun e w' => YesIf ((p.1 < 0 ∧ p.2 < 0) ∨ p ∈ l) e ∧ Frm (fun _ => False) w w' := by
  obtain ⟨AL, cl, rfl, hL⟩ := id h
  have HL := Lib.hid h
  have HLL := Lib.hid hl
  have F0 : Frm (fun _ => False) w (w.alloc (.cells #[.int .i64 p.1, .int .i64 p.2] 40)) := (Frm.refl _ w).alloc _
  have HF := Lib.hid F0
  have bx := Blk.new w 40 #[.int .i64 p.1, .int .i64 p.2]
  have y0 := bx.cell 0
  have y1 := bx.cell 1
  obtain ⟨p1, p2⟩ := p
  dsimp only at *
  clear h hL hl bx
  by_cases h1 : p1 < 0 ∧ p2 < 0
  · obtain ⟨h1, h2⟩ := h1
    go_enter Try.func27, Try.ntmps27
    go_wp2_with fail
    go_ret
    exact ⟨⟨true, rfl, by simp [h1, h2]⟩, HF.out⟩
  · have HN := Lib.hid h1
    have hor : ¬ p1 < 0 ∨ (p1 < 0 ∧ ¬ p2 < 0) := by omega
    clear h1
    rcases hor with h1 | ⟨h1, h2⟩
    all_goals
      go_enter Try.func27, Try.ntmps27
      go_wp2_with fail
      refine (rat_any (p := (p1, p2)) (HL.out.keep HF.out fun _ _ => id) HLL.out).mono ?_
      rintro _ w1 ⟨⟨i, rfl, hi⟩, f⟩
      have HF1 := Lib.hid (HF.out.trans f)
      have HI := Lib.hid hi
      clear f hi
      go_wp2_with fail
      go_ret
      exact ⟨⟨decide (0 ≤ i), rfl, by
        have h4 := HN.out
        rw [decide_eq_true_iff, HI.out]
        exact ⟨fun h => Or.inr h, fun h => h.resolve_left h4⟩⟩, HF1.out⟩
end Go.Proofs.Ytiekaicbjinbaaa
end
section
namespace Go.Proofs.Ytiekaicbjinbaaa
open Go.RowKit
theorem cell_two {w : World} {u v : Value} {e : TypeId} : ∀ (j : Nat) (y : Value), [u, v][j]? = some y → (w.alloc (.cells #[u, v] e)).cell? ⟨w.heap.size, j, none⟩ = some y := fun j y hy => by
  rw [(Blk.new w e #[u, v]).cell j]
  simpa using hy
theorem two_int (x y : Int) : ∀ u ∈ [Value.int .i64 x, Value.int .i64 y], u.oneCell' = true := fun u hu => by
  simp only [List.mem_cons, List.not_mem_nil, or_false] at hu
  rcases hu with rfl | rfl <;> rfl
set_option maxRecDepth 100000 in
set_option maxHeartbeats 16000000 in
theorem rrelate_any {w : World} {P Q : Nat → Prop} {v v' : Value} {a b : A.Mac} (h : MachAt w P v a) (h' : MachAt w Q v' b) (hs : Sized a) (hs' : Sized b) (hN : A.fit a b = 0 → (1 + a.next.length) * (1 + b.next.length) ≤ 20000) :
    Calls Try.prog 11 #[v, v'] w (RelP w a b) := by
  obtain ⟨A1, c1, A2, c2, rfl⟩ := h.form
  obtain ⟨B1, d1, B2, d2, rfl⟩ := h'.form
  have HB0 : Hid (Bx w _ (macC a A1 c1 A2 c2) (macC b B1 d1 B2 d2)) := Bx.new w _ _
  have HM := Lib.hid h
  have HM' := Lib.hid h'
  have HSZ := Lib.hid hs
  have HSZ' := Lib.hid hs'
  have HNN := Lib.hid hN
  have e0 := HB0.out.ba.cell 0
  have e1 := HB0.out.ba.cell 1
  have e2 := HB0.out.ba.cell 2
  have e3 := HB0.out.ba.cell 3
  have g0 := HB0.out.bb.cell 0
  have g1 := HB0.out.bb.cell 1
  have g2 := HB0.out.bb.cell 2
  have g3 := HB0.out.bb.cell 3
  simp only [macC] at e0 e1 e2 e3 g0 g1 g2 g3
  clear h h' hs hs' hN
  go_enter Try.func11, Try.ntmps11
  go_wp2_with fail
  clear e0 e1 e2 e3 g0 g1 g2 g3
  refine (rdiffer_any (HM.out.keep0 HB0.out.fr) (HM'.out.keep0 HB0.out.fr) HSZ.out HSZ'.out HNN.out).mono ?_
  rintro _ w1 ⟨f1, u1, fb1, er1, rfl, h1, h2, h3⟩
  have HB1 := Lib.hid (HB0.out.call f1)
  clear f1 HB0
  by_cases hf : A.fit a b = 0
  case neg =>
    obtain ⟨rfl, rfl, rfl⟩ := h1 hf
    have hb0 : (A.fit a b == 0) = false := by rw [beq_eq_false_iff_ne]; exact hf
    have hb7 : (A.fit a b != 7) = true := by
      rw [bne_iff_ne]
      unfold A.fit
      split
      · split <;> decide
      · decide
    have HFI := Lib.hid hf
    clear h1 h2 h3 hf
    go_wp2_with fail
    refine bodyPost_ret (v := .tuple #[.slice none 0 0, .int .i64 (A.fit a b)]) (by simp [results, Try.results11, go_sem]) rfl ⟨_, [], _, rfl, prs_nil _ _, Nat.zero_le _, ⟨fun _ => ⟨rfl, rfl⟩, fun h => absurd h HFI.out, fun h => absurd h HFI.out⟩, HB1.out.fr⟩
  by_cases hd : ∃ l, A.Dist a b l
  case pos =>
    obtain ⟨l, hl⟩ := A.least_dist hd
    obtain ⟨rfl, rfl, hi⟩ := h3 hf l hl
    have HFI := Lib.hid hf
    have HD := Lib.hid hd
    clear h1 h2 h3 hf hd hl hi
    go_wp2_with fail
    refine bodyPost_ret (v := .tuple #[.slice none 0 0, .int .i64 8]) (by simp [results, Try.results11, go_sem]) rfl ⟨_, [], _, rfl, prs_nil _ _, Nat.zero_le _, ⟨fun h => absurd HFI.out h, fun _ _ => ⟨rfl, rfl⟩, fun _ h => absurd HD.out h⟩, HB1.out.fr⟩
  obtain ⟨rfl, rfl, rfl⟩ := h2 hf hd
  have HT := Lib.hid (A.fit_two hf)
  have HNB := Lib.hid (HNN.out hf)
  have HFI := Lib.hid hf
  have HD := Lib.hid hd
  clear h1 h2 h3 hf hd
  have e0 := HB1.out.ba.cell 0
  have e1 := HB1.out.ba.cell 1
  have e2 := HB1.out.ba.cell 2
  have e3 := HB1.out.ba.cell 3
  have g0 := HB1.out.bb.cell 0
  have g1 := HB1.out.bb.cell 1
  have g2 := HB1.out.bb.cell 2
  have g3 := HB1.out.bb.cell 3
  simp only [macC] at e0 e1 e2 e3 g0 g1 g2 g3
  go_wp2_with fail
  clear e0 e1 e2 e3 g0 g1 g2 g3
  refine (walked_any (HM.out.keep0 HB1.out.fr) (HM'.out.keep0 HB1.out.fr) HT.out 20000 HNB.out (by have h := HNB.out; omega) (by decide)).mono ?_
  rintro _ w3 ⟨r, ws, W, rfl, hwv, hwt, hnd, f3⟩
  obtain ⟨pv, fv, lv, rfl, hp, hfr, hle⟩ := hwv
  obtain ⟨AP, cp, rfl, hpp⟩ := hp
  obtain ⟨AF, cf, rfl, _⟩ := hfr
  obtain ⟨AL, cl, rfl, _⟩ := hle
  have HPP : Hid (∀ i (hi : i < ws.length), ∃ g o, AP = some ⟨g, o, none⟩ ∧ w3.cell? ⟨g, o + i * 2, none⟩ = some (.int .i64 ws[i].p.1) ∧ w3.cell? ⟨g, o + i * 2 + 1, none⟩ = some (.int .i64 ws[i].p.2)) := fun i hi => by
    obtain ⟨g, o, e, _, h1, h2⟩ := hpp i (by rw [List.length_map]; exact hi)
    exact ⟨g, o, e, by simpa using h1, by simpa using h2⟩
  have HWT := Lib.hid hwt
  have HND := Lib.hid hnd
  have hlen : ws.length ≤ 20000 := Nat.le_trans (hwt.len HT.out hnd.1) HNB.out
  obtain ⟨M, hM⟩ : ∃ M, M = ws.length := ⟨_, rfl⟩
  have HMM := Lib.hid hM
  have HF3 : Hid (Frm (fun _ => False) w w3) := HB1.out.fr.trans f3
  rw [List.length_map, List.length_map, List.length_map, ← hM]
  rw [← hM] at hlen
  have hlz : ¬ (20000 : Int) < (M : Int) := by omega
  clear hpp hwt hnd hM f3 HB1
  go_wp2_with fail
  obtain ⟨gw, hgw⟩ : ∃ gw, gw = w3.heap.size := ⟨_, rfl⟩
  have HGW : Hid (Blk ((w3.alloc (.cells #[.slice AP M cp, .slice AF M cf, .slice AL M cl] 51)).alloc (.cells #[] 40)) gw 51 #[.slice AP M cp, .slice AF M cf, .slice AL M cl]) := by rw [hgw]; exact (Blk.new w3 _ _).alloc _
  have HF34 : Hid (Frm (fun _ => False) w3 ((w3.alloc (.cells #[.slice AP M cp, .slice AF M cf, .slice AL M cl] 51)).alloc (.cells #[] 40))) := ((Frm.refl _ w3).alloc _).alloc _
  have HR0 : Hid (PRow ((w3.alloc (.cells #[.slice AP M cp, .slice AF M cf, .slice AL M cl] 51)).alloc (.cells #[] 40)) (gw + 1) (.slice (some ⟨gw + 1, 0, none⟩) 0 0) []) := by
    have h := World.ownsRow_made (base := gw + 1) (e := 40) (size := 2) (w3.alloc (.cells #[.slice AP M cp, .slice AF M cf, .slice AL M cl] 51)) #[] 0 (by simp [hgw]) (by decide) rfl
    have e : (w3.alloc (.cells #[.slice AP M cp, .slice AF M cf, .slice AL M cl] 51)).heap.size = gw + 1 := by simp [hgw]
    rw [e] at h
    exact h
  have HSZ4 : Hid (gw + 1 ≤ ((w3.alloc (.cells #[.slice AP M cp, .slice AF M cf, .slice AL M cl] 51)).alloc (.cells #[] 40)).heap.size) := by show _ ≤ _; simp [hgw]
  have HW3 : Hid (gw = w3.heap.size) := hgw
  rw [← hgw]
  generalize (w3.alloc (.cells #[.slice AP M cp, .slice AF M cf, .slice AL M cl] 51)).alloc (.cells #[] 40) = w4 at *
  clear hgw hlz
  go_loopg [10, 11] (M + 1) (fun n u10 u11 wr => ∃ (i : Nat) (o : List A.Pr), i ≤ M ∧ n = M + 1 - i ∧ u11 = .int .i64 (i : Int) ∧ Hid (o.length = i) ∧ Hid (o.Pairwise (fun x y => A.ord x y < 0)) ∧ Hid (∀ z, z ∈ o ↔ z ∈ (ws.map A.Tr.p).take i) ∧ Hid (PRow wr (gw + 1) u10 o) ∧ Hid (Frm (fun b => gw + 1 ≤ b) w4 wr))
  case atStart => exact ⟨0, [], Nat.zero_le _, rfl, rfl, rfl, List.Pairwise.nil, fun z => by simp, HR0, Frm.refl _ _⟩
  case round =>
    clear HR0
    obtain ⟨i, o, hi, rfl, rfl, HOL, HOS, HOM, HR, HFR⟩ := hrel
    have b0 := (HFR.out.blk HGW.out (show ¬ gw + 1 ≤ gw by omega)).cell 0
    by_cases hlt : i < M
    · have hlt' : (i : Int) < (M : Int) := by omega
      have hiw : i < ws.length := by rw [← HMM.out]; exact hlt
      obtain ⟨g0, o0, rfl, e1, e2⟩ := HPP.out i hiw
      obtain ⟨⟨p1, p2⟩, hp⟩ : ∃ q, q = ws[i].p := ⟨_, rfl⟩
      have HP := Lib.hid hp
      rw [← hp] at e1 e2
      dsimp only at e1 e2
      have hg0 : g0 < gw := by rw [HW3.out]; exact cell_ltR e1
      replace e1 := HFR.out.cell (show ¬ gw + 1 ≤ g0 by omega) (HF34.out.cell id e1)
      replace e2 := HFR.out.cell (show ¬ gw + 1 ≤ g0 by omega) (HF34.out.cell id e2)
      obtain ⟨AO, co, rfl⟩ := own_form HR.out
      obtain ⟨wo, hwo⟩ : ∃ wo, wo = wr := ⟨_, rfl⟩
      subst hwo
      have HXN : Hid ((p1, p2) ∉ o) := fun hm => by
        have h1 := (HOM.out _).1 hm
        have h2 := HND.out.1
        have hi2 : i < (ws.map A.Tr.p).length := by rw [List.length_map]; exact hiw
        have e : (p1, p2) = (ws.map A.Tr.p)[i] := by rw [List.getElem_map, HP.out]
        rw [← List.take_append_drop i (ws.map A.Tr.p), List.nodup_append] at h2
        refine h2.2.2 _ h1 (p1, p2) ?_ rfl
        rw [e, List.drop_eq_getElem_cons hi2]
        exact List.mem_cons_self
      have HM1 : Hid (o.length + 1 ≤ maxLen) := by have := HOL.out; show _ ≤ _; unfold maxLen; omega
      have HM2 : Hid ((o.length + 1) * 16 ≤ 140737488355328) := by have := HOL.out; show _ ≤ _; omega
      have HM3 : Hid (gw + 1 ≤ wo.heap.size) := by have := HFR.out.1; have := HSZ4.out; show _ ≤ _; omega
      obtain ⟨i0, hi0, hz0, hz1, hz2⟩ := info_parts info_pair_
      have HRU : Hid (wo.ownsRow (gw + 1) 40 2 (.slice AO o.length co) o.length (o.flatMap pairC)) := HR.out
      clear hp
      go_wp2_with (at_builtin; refine wpList_app_at (P := Try.prog) rfl _ _ rfl Try.underlying35 hi0 hz0 hz1 hz2 rfl (by decide) rfl rfl (World.ownsRow.alloc HRU.out _) (us := [.int .i64 p1, .int .i64 p2]) rfl cell_two (two_int p1 p2) HM1.out HM2.out (le_alloc HM3.out) ?_)
      intro v' w5 hown hgrow _
      have HR5 : Hid (PRow w5 (gw + 1) v' (o ++ [(p1, p2)])) := by
        show w5.ownsRow _ _ _ _ _ _
        rw [List.length_append, List.flatMap_append]
        exact hown
      have F5 : Frm (fun b => gw + 1 ≤ b) wo w5 := ((Frm.refl _ wo).alloc _).grown hgrow fun g hg _ => (own_typeN HRU.out hg.symm.symm).1
      have HFR5 : Hid (Frm (fun b => gw + 1 ≤ b) w4 w5) := HFR.out.trans F5
      obtain ⟨g, c, rfl, hg, _⟩ := HR5.out.form (by simp)
      rw [List.length_append, List.length_singleton] at HR5
      rw [List.length_append, List.length_singleton]
      have hol := HOL.out
      rw [hol] at HR5
      rw [hol]
      clear hown hgrow F5 HFR HRU HM1 HM2 HM3 b0 e1 e2 hol
      go_wp2_with fail
      go_loopg [12] (i + 1) (fun n u12 wr => ∃ (k : Nat) (q : List A.Pr), k ≤ i ∧ n = k + 1 ∧ u12 = .int .i64 (k : Int) ∧ Hid (A.Ins o (p1, p2) q k) ∧ Hid (PRow wr (gw + 1) (.slice (some ⟨g, 0, none⟩) (i + 1) c) q) ∧ Hid (Frm (fun b => gw + 1 ≤ b) w4 wr))
      case atStart => exact ⟨i, o ++ [(p1, p2)], Nat.le_refl _, rfl, by go_num, by rw [← HOL.out]; exact A.Ins.start _ _, HR5, HFR5⟩
      case round =>
        clear HR5 HFR5
        obtain ⟨k, q, hk, rfl, rfl, HINS, HR, HFR⟩ := hrel
        have HQL : Hid (q.length = i + 1) := by have h := HINS.out.len.1; rw [HOL.out] at h; exact h
        have hkq : k < q.length := by rw [HQL.out]; omega
        obtain ⟨hx, hy⟩ := HINS.out.at_
        have hxk : q[k] = (p1, p2) := by rw [List.getElem?_eq_getElem hkq] at hx; exact Option.some.inj hx
        have HX := Lib.hid (HR.out.cells hkq)
        rw [hxk] at HX
        dsimp only at HX
        have HMEM : Hid (∀ z, z ∈ q ↔ z ∈ (ws.map A.Tr.p).take (i + 1)) := fun z => by
          have hi2 : i < (ws.map A.Tr.p).length := by rw [List.length_map]; exact hiw
          have e : (ws.map A.Tr.p)[i] = (p1, p2) := by rw [List.getElem_map, HP.out]
          rw [HINS.out.mem, HOM.out, List.take_succ_eq_append_getElem hi2, e, List.mem_append, List.mem_singleton]
          exact Or.comm
        rcases Nat.eq_zero_or_pos k with hk0 | hk0
        · subst hk0
          have hd0 : decide ((0 : Int) < ((0 : Nat) : Int)) = false := by decide
          have HS2 : Hid (q.Pairwise (fun x y => A.ord x y < 0)) := HINS.out.zero HOS.out
          clear hx hy hxk
          go_wp2_with fail
          go_quiet (fail)
          have HR2 : Hid (PRow (wr.drewN nq) (gw + 1) (.slice (some ⟨g, 0, none⟩) (i + 1) c) q) := HR.out
          have HFR2 := Lib.hid (HFR.out.drewN nq)
          go_wp2_with fail
          go_roundg (M + 1 - (i + 1))
          case measure => omega
          case rel => exact ⟨i + 1, q, by omega, rfl, by go_num, HQL, HS2, HMEM, HR2, HFR2⟩
        · obtain ⟨m, hm⟩ : ∃ m, m = k - 1 := ⟨_, rfl⟩
          obtain ⟨⟨y1, y2⟩, hyk, hsw, hno⟩ := hy hk0
          rw [← hm] at hyk hsw
          have hmq : m < q.length := by omega
          have hyk' : q[m] = (y1, y2) := by rw [List.getElem?_eq_getElem hmq] at hyk; exact Option.some.inj hyk
          have HY := Lib.hid (HR.out.cells hmq)
          rw [hyk'] at HY
          dsimp only at HY
          have HSW := Lib.hid hsw
          have HNO := Lib.hid hno
          have HMK : Hid (m = k - 1 ∧ 0 < k) := ⟨hm, hk0⟩
          have HXK : Hid (q[k] = (p1, p2)) := hxk
          have HYK : Hid (q[m] = (y1, y2)) := hyk'
          obtain ⟨x0, x1⟩ := HX.out
          obtain ⟨y0', y1'⟩ := HY.out
          have hgt : decide ((0 : Int) < (k : Int)) = true := by rw [decide_eq_true_eq]; omega
          have hkp : (0 : Int) < (k : Int) := by omega
          have hkm : (k : Int) - 1 = (m : Int) := by omega
          have hwm : IntKind.i64.wrap (m : Int) = (m : Int) := IntWalk.i64_in _ (by omega)
          have hki : (k : Int) < (i : Int) + 1 := by omega
          have hki' : (m : Int) < (i : Int) + 1 := by omega
          clear hm
          clear hx hy hxk hyk hsw hno hyk'
          go_wp2_with fail
          go_still_tail 12, (by kernel_rfl)
          go_wp2_with fail
          refine (before_any (p1, p2) (y1, y2)).mono ?_
          rintro _ w6 ⟨⟨r, rfl, hr⟩, f6⟩
          have HR6 : Hid (PRow w6 (gw + 1) (.slice (some ⟨g, 0, none⟩) (i + 1) c) q) := f6.row (show wr.drew.ownsRow _ _ _ _ _ _ from HR.out) (fun _ _ => id) (Nat.le_refl _)
          have HFR6 : Hid (Frm (fun b => gw + 1 ≤ b) w4 w6) := HFR.out.trans (f6.mono fun _ _ h => h.elim)
          clear f6 x0 x1 y0' y1' HX HY HR HFR
          cases r with
          | false =>
            have HS2 : Hid (q.Pairwise (fun x y => A.ord x y < 0)) := HNO.out (Int.not_lt.1 fun h => by have := hr.2 h; cases this) HOS.out HXN.out
            clear hr
            go_wp2_with fail
            go_roundg (M + 1 - (i + 1))
            case measure => omega
            case rel => exact ⟨i + 1, q, by omega, rfl, by go_num, HQL, HS2, HMEM, HR6, HFR6⟩
          | true =>
            have HINS2 : Hid (A.Ins o (p1, p2) ((q.set m (p1, p2)).set k (y1, y2)) m) := HSW.out (hr.1 rfl)
            have HMNK : Hid (m ≠ k) := by have := HMK.out; show _ ≠ _; omega
            clear hr
            go_wp2_with fail
            have hkq2 : (k : Int) < (q.length : Int) := by omega
            have hmq2 : (m : Int) < (q.length : Int) := by omega
            rw [← HQL.out] at HR6
            refine wp_region_inv [67, 68, 69, 70, 71, 72, 73, 74, 75, 76, 77, 78, 79, 80, 81, 1000, 82, 1001] (SwI w6 (gw + 1) g c k m (p1, p2) (y1, y2) q) [] [(10, .slice (some ⟨g, 0, none⟩) q.length c), (12, .int .i64 (k : Int))] (by kernel_rfl) (by kernel_rfl) (fun L L' vs vs' w hL hv h => h.cong hL hv) (fun _ h => by cases h) ⟨(Frm.refl _ w6).drew, HR6.out, (fun h => by cases h), (fun h => by cases h), fun _ _ _ _ h => by cases h⟩ ?_ ?_ ?_
            · intro x hx
              simp only [List.mem_cons, List.not_mem_nil, or_false] at hx
              rcases hx with rfl | rfl
              · exact ⟨by simp, by rw [HQL.out]; rfl⟩
              · exact ⟨by simp, rfl⟩
            · refine ⟨?_, ?_, ?_, ?_, ?_, ?_, ?_, ?_, ?_, ?_, ?_, ?_, ?_, ?_, ?_, ?_, ?_, ?_, trivial⟩
              · intro Q tm df V L hI hl hd hu
                have u1 : tm[10]?.getD undef = .slice (some ⟨g, 0, none⟩) q.length c := hu (10, _) (by simp)
                have HI := Lib.hid hI
                clear hu hd hI hl
                go_simp
                exact ⟨_, rfl, HI.out.pure (by decide) (by decide) rfl⟩
              · intro Q tm df V L hI hl hd hu
                have u1 : tm[12]?.getD undef = .int .i64 (k : Int) := hu (12, _) (by simp)
                have HI := Lib.hid hI
                clear hu hd hI hl
                go_simp
                exact ⟨_, rfl, HI.out.pure (by decide) (by decide) rfl⟩
              · intro Q tm df V L hI hl hd hu
                have e0 : tm[68]?.getD undef = .int .i64 (k : Int) := hI.2.2.2.2 1 _ (by decide) rfl (hd ⟨1, .data⟩ (by simp) rfl)
                have HI := Lib.hid hI
                clear hu hd hI hl
                go_simp
                exact ⟨_, rfl, HI.out.pure (by decide) (by decide) rfl⟩
              · intro Q tm df V L hI hl hd hu
                have u1 : tm[10]?.getD undef = .slice (some ⟨g, 0, none⟩) q.length c := hu (10, _) (by simp)
                have HI := Lib.hid hI
                clear hu hd hI hl
                go_simp
                exact ⟨_, rfl, HI.out.pure (by decide) (by decide) rfl⟩
              · intro Q tm df V L hI hl hd hu
                have u1 : tm[12]?.getD undef = .int .i64 (k : Int) := hu (12, _) (by simp)
                have HI := Lib.hid hI
                clear hu hd hI hl
                go_simp
                exact ⟨_, rfl, HI.out.pure (by decide) (by decide) rfl⟩
              · intro Q tm df V L hI hl hd hu
                have u1 : tm[10]?.getD undef = .slice (some ⟨g, 0, none⟩) q.length c := hu (10, _) (by simp)
                have HI := Lib.hid hI
                clear hu hd hI hl
                go_simp
                exact ⟨_, rfl, HI.out.pure (by decide) (by decide) rfl⟩
              · intro Q tm df V L hI hl hd hu
                have u1 : tm[12]?.getD undef = .int .i64 (k : Int) := hu (12, _) (by simp)
                have HI := Lib.hid hI
                clear hu hd hI hl
                go_simp
                exact ⟨_, rfl, HI.out.pure (by decide) (by decide) rfl⟩
              · intro Q tm df V L hI hl hd hu
                have e0 : tm[72]?.getD undef = .slice (some ⟨g, 0, none⟩) q.length c := hI.2.2.2.2 5 _ (by decide) rfl (hd ⟨5, .data⟩ (by simp) rfl)
                have e1 : tm[73]?.getD undef = .int .i64 (k : Int) := hI.2.2.2.2 6 _ (by decide) rfl (hd ⟨6, .data⟩ (by simp) rfl)
                have HI := Lib.hid hI
                clear hu hd hI hl
                go_simp
                exact ⟨_, rfl, HI.out.pure (by decide) (by decide) rfl⟩
              · intro Q tm df V L hI hl hd hu
                have e0 : tm[74]?.getD undef = .pointer (some ⟨g, k * 2, none⟩) := hI.2.2.2.2 7 _ (by decide) rfl (hd ⟨7, .data⟩ (by simp) rfl)
                have hr := hI.2.1
                rw [hI.orig (.inl hl)] at hr
                obtain ⟨c0', c1'⟩ := hr.cells (hkq)
                rw [HXK.out] at c0' c1'
                dsimp only at c0' c1'
                have HI := Lib.hid hI
                clear hu hd hI hl hr
                go_simp
                exact ⟨_, rfl, HI.out.pure (by decide) (by decide) rfl⟩
              · intro Q tm df V L hI hl hd hu
                have u1 : tm[10]?.getD undef = .slice (some ⟨g, 0, none⟩) q.length c := hu (10, _) (by simp)
                have HI := Lib.hid hI
                clear hu hd hI hl
                go_simp
                exact ⟨_, rfl, HI.out.pure (by decide) (by decide) rfl⟩
              · intro Q tm df V L hI hl hd hu
                have u1 : tm[12]?.getD undef = .int .i64 (k : Int) := hu (12, _) (by simp)
                have HI := Lib.hid hI
                clear hu hd hI hl
                go_simp
                exact ⟨_, rfl, HI.out.pure (by decide) (by decide) rfl⟩
              · intro Q tm df V L hI hl hd hu
                have e0 : tm[77]?.getD undef = .int .i64 (k : Int) := hI.2.2.2.2 10 _ (by decide) rfl (hd ⟨10, .data⟩ (by simp) rfl)
                have HI := Lib.hid hI
                clear hu hd hI hl
                go_simp
                exact ⟨_, rfl, HI.out.pure (by decide) (by decide) rfl⟩
              · intro Q tm df V L hI hl hd hu
                have e0 : tm[76]?.getD undef = .slice (some ⟨g, 0, none⟩) q.length c := hI.2.2.2.2 9 _ (by decide) rfl (hd ⟨9, .data⟩ (by simp) rfl)
                have e1 : tm[78]?.getD undef = .int .i64 (m : Int) := hI.2.2.2.2 11 _ (by decide) rfl (hd ⟨11, .data⟩ (by simp) rfl)
                have HI := Lib.hid hI
                clear hu hd hI hl
                go_simp
                exact ⟨_, rfl, HI.out.pure (by decide) (by decide) rfl⟩
              · intro Q tm df V L hI hl hd hu
                have e0 : tm[79]?.getD undef = .pointer (some ⟨g, m * 2, none⟩) := hI.2.2.2.2 12 _ (by decide) rfl (hd ⟨12, .data⟩ (by simp) rfl)
                have hr := hI.2.1
                rw [hI.orig (.inr hl)] at hr
                obtain ⟨c0', c1'⟩ := hr.cells (hmq)
                rw [HYK.out] at c0' c1'
                dsimp only at c0' c1'
                have HI := Lib.hid hI
                clear hu hd hI hl hr
                go_simp
                exact ⟨_, rfl, HI.out.pure (by decide) (by decide) rfl⟩
              · intro Q tm df V L hI hl hd hu
                have e0 : tm[67]?.getD undef = .slice (some ⟨g, 0, none⟩) q.length c := hI.2.2.2.2 0 _ (by decide) rfl (hd ⟨0, .data⟩ (by simp) rfl)
                have e1 : tm[69]?.getD undef = .int .i64 (m : Int) := hI.2.2.2.2 2 _ (by decide) rfl (hd ⟨2, .data⟩ (by simp) rfl)
                have HI := Lib.hid hI
                clear hu hd hI hl
                go_simp
                exact ⟨_, rfl, HI.out.pure (by decide) (by decide) rfl⟩
              · intro Q tm df V L hI hl hd hu
                have l8 := hd ⟨8, .data⟩ (by simp) rfl
                have l13 := hd ⟨13, .phase⟩ (by simp) rfl
                have e0 : tm[81]?.getD undef = .pointer (some ⟨g, m * 2, none⟩) := hI.2.2.2.2 14 _ (by decide) rfl (hd ⟨14, .data⟩ (by simp) rfl)
                have e1 : tm[75]?.getD undef = .agg #[.int .i64 p1, .int .i64 p2] := hI.2.2.2.2 8 _ (by decide) rfl (hd ⟨8, .data⟩ (by simp) rfl)
                have hlen' : m < (swO k m (p1, p2) (y1, y2) q L).length := by rw [swO_len]; exact hmq
                obtain ⟨c0', c1'⟩ := hI.2.1.cells hlen'
                have hpr : V.ownsRow (gw + 1) 40 2 (.slice (some ⟨g, 0, none⟩) q.length c) q.length ((swO k m (p1, p2) (y1, y2) q L).flatMap pairC) := by
                  have h := hI.2.1
                  unfold PRow at h
                  rw [swO_len] at h
                  exact h
                have z0 := World.ownsRow.frozenAt hpr (m * 2)
                have z1 := World.ownsRow.frozenAt hpr (m * 2 + 1)
                have hst := hI.s15 hl l8 l13 hmq HMNK.out
                have HST := Lib.hid hst
                clear hu hd hI hl hst hpr
                generalize (swO k m (p1, p2) (y1, y2) q L)[m] = old at c0' c1'
                go_simp
                exact HST.out
              · intro Q tm df V L hI hl hd hu
                have e0 : tm[70]?.getD undef = .slice (some ⟨g, 0, none⟩) q.length c := hI.2.2.2.2 3 _ (by decide) rfl (hd ⟨3, .data⟩ (by simp) rfl)
                have e1 : tm[71]?.getD undef = .int .i64 (k : Int) := hI.2.2.2.2 4 _ (by decide) rfl (hd ⟨4, .data⟩ (by simp) rfl)
                have HI := Lib.hid hI
                clear hu hd hI hl
                go_simp
                exact ⟨_, rfl, HI.out.pure (by decide) (by decide) rfl⟩
              · intro Q tm df V L hI hl hd hu
                have l8 := hd ⟨8, .phase⟩ (by simp) rfl
                have l13 := hd ⟨13, .data⟩ (by simp) rfl
                have e0 : tm[82]?.getD undef = .pointer (some ⟨g, k * 2, none⟩) := hI.2.2.2.2 16 _ (by decide) rfl (hd ⟨16, .data⟩ (by simp) rfl)
                have e1 : tm[80]?.getD undef = .agg #[.int .i64 y1, .int .i64 y2] := hI.2.2.2.2 13 _ (by decide) rfl (hd ⟨13, .data⟩ (by simp) rfl)
                have hlen' : k < (swO k m (p1, p2) (y1, y2) q L).length := by rw [swO_len]; exact hkq
                obtain ⟨c0', c1'⟩ := hI.2.1.cells hlen'
                have hpr : V.ownsRow (gw + 1) 40 2 (.slice (some ⟨g, 0, none⟩) q.length c) q.length ((swO k m (p1, p2) (y1, y2) q L).flatMap pairC) := by
                  have h := hI.2.1
                  unfold PRow at h
                  rw [swO_len] at h
                  exact h
                have z0 := World.ownsRow.frozenAt hpr (k * 2)
                have z1 := World.ownsRow.frozenAt hpr (k * 2 + 1)
                have hst := hI.s17 hl l8 l13 hkq
                have HST := Lib.hid hst
                clear hu hd hI hl hst hpr
                generalize (swO k m (p1, p2) (y1, y2) q L)[k] = old at c0' c1'
                go_simp
                exact HST.out
            · intro vs V hI
              have hrow := hI.2.1
              have eo : swO k m (p1, p2) (y1, y2) q (fun _ => true) = (q.set m (p1, p2)).set k (y1, y2) := by simp [swO]
              rw [eo, HQL.out] at hrow
              have HR7 : Hid (PRow V (gw + 1) (.slice (some ⟨g, 0, none⟩) (i + 1) c) ((q.set m (p1, p2)).set k (y1, y2))) := hrow
              have HFR7 : Hid (Frm (fun b => gw + 1 ≤ b) w4 V) := HFR6.out.trans (hI.1.mono fun b _ e => by subst e; exact hg)
              clear hI hrow eo
              simp only [putAll, List.size_toArray, List.length_cons, List.length_nil, Nat.zero_add, Nat.reduceAdd, show List.range 18 = [0, 1, 2, 3, 4, 5, 6, 7, 8, 9, 10, 11, 12, 13, 14, 15, 16, 17] from rfl, List.foldl_cons, List.foldl_nil, List.getD_cons_zero, List.getD_cons_succ, List.setIfInBounds_toArray, List.set_cons_zero, List.set_cons_succ]
              have hmlt : m < k := by have := HMK.out; omega
              go_wp2_with fail
              go_roundg (m + 1)
              case measure => omega
              case rel => exact ⟨m, _, by omega, rfl, rfl, HINS2, HR7, HFR7⟩
    · have hlt' : ¬ (i : Int) < (M : Int) := by omega
      obtain rfl : M = i := by omega
      have HREL : Hid (A.Rel1 a b o 0) := ⟨fun h => absurd HFI.out h, fun _ h => absurd h HD.out, fun _ _ => ⟨rfl, HOS.out, fun z => by
        rw [HOM.out, List.take_of_length_le (by rw [List.length_map, HMM.out]; exact Nat.le_refl _)]
        exact A.good_iff HT.out HWT.out HND.out z⟩⟩
      have HOL2 : Hid (o.length ≤ 20000) := by have := HOL.out; show _ ≤ _; omega
      have HFW : Hid (Frm (fun _ => False) w wr) := (((HF3.out.trans HF34.out).mono fun _ _ h => h.elim).trans HFR.out).mono fun x hx h => by have h1 := HF3.out.1; have h2 := HW3.out; omega
      obtain ⟨AO, co, rfl⟩ := own_form HR.out
      go_wp2_with fail
      refine bodyPost_ret (v := .tuple #[.slice AO o.length co, .int .i64 0]) (by simp [results, Try.results11, go_sem]) rfl ⟨_, o, _, rfl, HR.out.prs.mono_ fun _ _ => trivial, HOL2.out, HREL.out, HFW.out⟩
end Go.Proofs.Ytiekaicbjinbaaa
end
section
namespace Go.Proofs.Ytiekaicbjinbaaa.A
/-- What is asked of the pair at i. -/
def okAt (a b : Mac) (l : List Pr) (i : Nat) : Prop := ∃ h : i < l.length, InP a b l[i] ∧ ¬ (l[i].1 < 0 ∧ l[i].2 < 0) ∧ (0 < i → ord (l[i - 1]'(by omega)) l[i] < 0)
theorem relFrom_iff {a b : Mac} : ∀ (l : List Pr) (last : Pr), relFrom a b last l = true ↔ (∀ i (h : i < l.length), InP a b l[i]) ∧ (∀ h : 0 < l.length, ord last l[0] < 0) ∧ ∀ i (h : i + 1 < l.length), ord (l[i]'(by omega)) l[i + 1] < 0
  | [], last => ⟨fun _ => ⟨fun i h => absurd h (Nat.not_lt_zero i), fun h => absurd h (Nat.not_lt_zero 0), fun i h => absurd h (Nat.not_lt_zero _)⟩, fun _ => rfl⟩
  | p :: l, last => by
    unfold relFrom
    rw [Bool.and_eq_true, Bool.and_eq_true, okPair_in, decide_eq_true_eq, relFrom_iff l p]
    constructor
    · rintro ⟨h1, h2, h3, h4, h5⟩
      refine ⟨fun i h => ?_, fun _ => h2, fun i h => ?_⟩
      · cases i with
        | zero => exact h1
        | succ i => exact h3 i (by simpa using h)
      · cases i with
        | zero => exact h4 (by simpa using h)
        | succ i => exact h5 i (by simpa using h)
    · rintro ⟨h1, h2, h3⟩
      refine ⟨h1 0 (by simp), h2 (by simp), fun i h => h1 (i + 1) (by simpa using h), fun h => h3 0 (by simpa using h), fun i h => h3 (i + 1) (by simpa using h)⟩
theorem ord_neg {a b : Mac} {p : Pr} (h : InP a b p) : ord (-1, -1) p < 0 ↔ ¬ (p.1 < 0 ∧ p.2 < 0) := by
  obtain ⟨p1, p2⟩ := p
  obtain ⟨⟨h1, _⟩, h2, _⟩ := h
  unfold ord
  dsimp only at h1 h2 ⊢
  by_cases e : (-1 : Int) ≠ p1
  · rw [if_pos e]; omega
  · rw [if_neg e]; omega
theorem isRel_iff {a b : Mac} (l : List Pr) : isRel a b l = true ↔ ∀ i, i < l.length → okAt a b l i := by
  unfold isRel
  rw [relFrom_iff]
  constructor
  · rintro ⟨h1, h2, h3⟩ i hi
    have hlow : ∀ j (hj : j < l.length), ord (-1, -1) l[j] < 0 := by
      intro j
      induction j with
      | zero => intro hj; exact h2 hj
      | succ j ih => intro hj; exact ord_trans (ih (by omega)) (h3 j hj)
    refine ⟨hi, h1 i hi, (ord_neg (h1 i hi)).1 (hlow i hi), fun h0 => ?_⟩
    have := h3 (i - 1) (by omega)
    have e : i - 1 + 1 = i := by omega
    simp only [e] at this
    exact this
  · intro h
    refine ⟨fun i hi => (h i hi).2.1, fun h0 => ?_, fun i hi => ?_⟩
    · obtain ⟨_, h1, h2, _⟩ := h 0 h0
      exact (ord_neg h1).2 h2
    · obtain ⟨_, _, _, h3⟩ := h (i + 1) hi
      exact h3 (by omega)
theorem check_form {a b : Mac} {l : List Pr} (hf : fit a b = 0) {i : Nat} (hi : i < l.length) (h : ¬ okAt a b l i) : check a b l = 2 := by
  unfold check
  rw [if_pos hf, if_neg (fun h' => h ((isRel_iff l).1 h' i hi))]
theorem among_in {a b : Mac} {l : List Pr} {p : Pr} (h : InP a b p) : among l p = true ↔ ((p.1 < 0 ∧ p.2 < 0) ∨ p ∈ l) := by
  rw [among_iff]
  refine or_congr_left ⟨fun e => by rw [e]; exact ⟨by decide, by decide⟩, fun ⟨h1, h2⟩ => ?_⟩
  obtain ⟨⟨h3, _⟩, h4, _⟩ := h
  exact Prod.ext (show p.1 = -1 by omega) (show p.2 = -1 by omega)
theorem check_apart {a b : Mac} {l : List Pr} (hf : fit a b = 0) (hr : ∀ i, i < l.length → okAt a b l i) (h : shows a b l = false) : check a b l = 8 := by
  unfold check
  rw [if_pos hf, if_pos ((isRel_iff l).2 hr), h]
  rfl
theorem shows_iff {a b : Mac} {l : List Pr} : shows a b l = true ↔ among l (a.start, b.start) = true ∧ ∀ i (h : i < l.length), agree a b l[i] = true ∧ ∀ k : Nat, k < a.letters.toNat → among l (leadP a b l[i] k) = true := by
  unfold shows
  rw [Bool.and_eq_true, List.all_eq_true]
  refine and_congr_right fun _ => ⟨fun h i hi => ?_, fun h p hp => ?_⟩
  · have := h _ (List.getElem_mem hi)
    rw [Bool.and_eq_true, List.all_eq_true] at this
    exact ⟨this.1, fun k hk => this.2 k (List.mem_range.2 hk)⟩
  · obtain ⟨i, hi, rfl⟩ := List.getElem_of_mem hp
    rw [Bool.and_eq_true, List.all_eq_true]
    exact ⟨(h i hi).1, fun k hk => (h i hi).2 k (List.mem_range.1 hk)⟩
theorem shows_no {a b : Mac} {l : List Pr} (h : ¬ (among l (a.start, b.start) = true ∧ ∀ i (h : i < l.length), agree a b l[i] = true ∧ ∀ k : Nat, k < a.letters.toNat → among l (leadP a b l[i] k) = true)) : shows a b l = false := by
  cases e : shows a b l
  · rfl
  · exact absurd (shows_iff.1 e) h
theorem check_ok {a b : Mac} {l : List Pr} (hf : fit a b = 0) (hr : ∀ i, i < l.length → okAt a b l i) (h : shows a b l = true) : check a b l = 0 := by
  unfold check
  rw [if_pos hf, if_pos ((isRel_iff l).2 hr), if_pos h]
end Go.Proofs.Ytiekaicbjinbaaa.A
end
section
namespace Go.Proofs.Ytiekaicbjinbaaa
open Go.RowKit
theorem there_b {w : World} {P : Nat → Prop} {v : Value} {l : List A.Pr} {a b : A.Mac} (h : Prs2 w P v l) (hl : l.length ≤ maxLen) (p : A.Pr) (hp : A.InP a b p) : Calls Try.prog 27 #[v, .agg #[.int .i64 p.1, .int .i64 p.2]] w fun e w' => e = .returned (.bool (A.among l p)) ∧ Frm (fun _ => False) w w' :=
  (there_any h hl p).mono fun e w' ⟨⟨r, he, hr⟩, F⟩ => ⟨by
    have e2 : r = A.among l p := by
      rw [Bool.eq_iff_iff, hr, A.among_in hp]
    rw [he, e2], F⟩
set_option maxRecDepth 100000 in
set_option maxHeartbeats 16000000 in
theorem rcheck_any {w : World} {P Q R : Nat → Prop} {v v' vl : Value} {a b : A.Mac} {l : List A.Pr} (h : MachAt w P v a) (h' : MachAt w Q v' b) (hl : Prs2 w R vl l) (hs : Sized a) (hs' : Sized b) (hll : l.length ≤ 100000) :
    Calls Try.prog 12 #[v, v', vl] w fun e w' => e = .returned (.int .i64 (A.check a b l)) ∧ Frm (fun _ => False) w w' := by
  obtain ⟨A1, c1, A2, c2, rfl⟩ := h.form
  obtain ⟨B1, d1, B2, d2, rfl⟩ := h'.form
  obtain ⟨AP, cp, rfl, hpp⟩ := id hl
  have HB0 : Hid (Bx w _ (macC a A1 c1 A2 c2) (macC b B1 d1 B2 d2)) := Bx.new w _ _
  have HM := Lib.hid h
  have HM' := Lib.hid h'
  have HSZ := Lib.hid hs
  have HSZ' := Lib.hid hs'
  have HL := Lib.hid hl
  have HPP := Lib.hid hpp
  have HCF : Hid (A.check a b l = if A.fit a b = 0 then (if A.isRel a b l then (if A.shows a b l then 0 else 8) else 2) else A.fit a b) := rfl
  have e0 := HB0.out.ba.cell 0
  have e1 := HB0.out.ba.cell 1
  have e2 := HB0.out.ba.cell 2
  have e3 := HB0.out.ba.cell 3
  have g0 := HB0.out.bb.cell 0
  have g1 := HB0.out.bb.cell 1
  have g2 := HB0.out.bb.cell 2
  have g3 := HB0.out.bb.cell 3
  simp only [macC] at e0 e1 e2 e3 g0 g1 g2 g3
  clear h h' hs hs' hl hpp
  go_enter Try.func12, Try.ntmps12
  go_wp2_with fail
  refine (rtwo_any (HM.out.keep0 HB0.out.fr) (HM'.out.keep0 HB0.out.fr) HSZ.out HSZ'.out).mono ?_
  rintro _ w1 ⟨rfl, f1⟩
  have HB1 := Lib.hid (HB0.out.call f1)
  clear f1 HB0 e0 e1 e2 e3 g0 g1 g2 g3
  by_cases hf : A.fit a b = 0
  case neg =>
    have hb : (A.fit a b != 0) = true := by rw [bne_iff_ne]; exact hf
    have HCK : Hid (A.check a b l = A.fit a b) := by show _ = _; rw [HCF.out, if_neg hf]
    clear hf HCF
    go_wp2_with fail
    go_ret
    exact ⟨by rw [HCK.out]; rfl, HB1.out.fr⟩
  have HT := Lib.hid (A.fit_two hf)
  have HFI := Lib.hid hf
  have hb : (A.fit a b != 0) = false := by rw [hf]; rfl
  rw [hf]
  clear hf hb HCF
  go_wp2_with fail
  have HBAD : Hid (∀ i, i < l.length → ¬ A.okAt a b l i → A.check a b l = 2) := fun i hi h => A.check_form HFI.out hi h
  go_loopg [8] (l.length + 1) (fun n u8 wr => ∃ i : Nat, i ≤ l.length ∧ n = l.length + 1 - i ∧ u8 = .int .i64 (i : Int) ∧ Hid (∀ j, j < i → A.okAt a b l j) ∧ Hid (Frm (fun _ => False) w1 wr))
  case atStart => exact ⟨0, Nat.zero_le _, rfl, rfl, fun j h => absurd h (Nat.not_lt_zero j), Frm.refl _ _⟩
  case round =>
    obtain ⟨i, hi, rfl, rfl, HOK, HFR⟩ := hrel
    by_cases hlt : i < l.length
    · have hlt' : (i : Int) < (l.length : Int) := by omega
      obtain ⟨gp, op, rfl, hgp, c1', c2'⟩ := HPP.out i hlt
      obtain ⟨⟨p1, p2⟩, hp⟩ : ∃ q, q = l[i] := ⟨_, rfl⟩
      rw [← hp] at c1' c2'
      dsimp only at c1' c2'
      have d1' := HFR.out.cell id (HB1.out.fr.cell id c1')
      have d2' := HFR.out.cell id (HB1.out.fr.cell id c2')
      have HP := Lib.hid hp
      clear c1' c2' hp
      go_wp2_with fail
      clear d1' d2'
      have HG : Hid (Blk (wr.alloc (.cells #[.int .i64 p1, .int .i64 p2] 40)) wr.heap.size 40 #[.int .i64 p1, .int .i64 p2]) := Blk.new wr _ _
      have HFA : Hid (Frm (fun _ => False) w1 (wr.alloc (.cells #[.int .i64 p1, .int .i64 p2] 40))) := HFR.out.alloc _
      obtain ⟨gq, hgq⟩ : ∃ gq, gq = wr.heap.size := ⟨_, rfl⟩
      rw [← hgq] at HG
      rw [← hgq]
      generalize wr.alloc (.cells #[.int .i64 p1, .int .i64 p2] 40) = wa at *
      clear hgq HFR
      have y0 := HG.out.cell 0
      have y1 := HG.out.cell 1
      have a2 := (HFA.out.blk HB1.out.ba id).cell 2
      have b2 := (HFA.out.blk HB1.out.bb id).cell 2
      simp only [macC] at a2 b2
      have HBA := HBAD.out i hlt
      have HNOT : Hid (¬ (A.InP a b (p1, p2) ∧ ¬ (p1 < 0 ∧ p2 < 0)) → A.check a b l = 2) := fun h => HBA fun ⟨_, k1, k2, _⟩ => h (by
        rw [← HP.out] at k1 k2
        exact ⟨k1, k2⟩)
      clear HBA
      obtain ⟨NA, hNA⟩ : ∃ NA, NA = a.next.length := ⟨_, rfl⟩
      obtain ⟨NB, hNB⟩ : ∃ NB, NB = b.next.length := ⟨_, rfl⟩
      have HNA := Lib.hid hNA
      have HNB := Lib.hid hNB
      rw [← hNA] at a2
      rw [← hNB] at b2
      clear hNA hNB
      have HFW : Hid (Frm (fun _ => False) w wa) := HB1.out.fr.trans HFA.out
      by_cases k1 : p1 < -1
      · have q1 : decide (p1 < -1) = true := decide_eq_true k1
        have HCK := HNOT.out fun h => by have := h.1.1.1; dsimp only at this; omega
        have HC := Lib.hid HCK
        clear HCK
        go_quiet (fail)
        go_wp2_with fail
        go_ret
        exact ⟨by rw [HC.out]; rfl, HFW.out.drewN nq⟩
      have q1 : decide (p1 < -1) = false := decide_eq_false k1
      by_cases k2 : (NA : Int) ≤ p1
      · have q2 : decide ((NA : Int) ≤ p1) = true := decide_eq_true k2
        have HCK := HNOT.out fun h => by have := h.1.1.2; have := HNA.out; dsimp only at *; omega
        have HC := Lib.hid HCK
        clear HCK
        go_quiet (fail)
        go_wp2_with fail
        go_ret
        exact ⟨by rw [HC.out]; rfl, HFW.out.drewN nq⟩
      have q2 : decide ((NA : Int) ≤ p1) = false := decide_eq_false k2
      by_cases k3 : p2 < -1
      · have q3 : decide (p2 < -1) = true := decide_eq_true k3
        have HCK := HNOT.out fun h => by have := h.1.2.1; dsimp only at this; omega
        have HC := Lib.hid HCK
        clear HCK
        go_quiet (fail)
        go_wp2_with fail
        go_ret
        exact ⟨by rw [HC.out]; rfl, HFW.out.drewN nq⟩
      have q3 : decide (p2 < -1) = false := decide_eq_false k3
      by_cases k4 : (NB : Int) ≤ p2
      · have q4 : decide ((NB : Int) ≤ p2) = true := decide_eq_true k4
        have HCK := HNOT.out fun h => by have := h.1.2.2; have := HNB.out; dsimp only at *; omega
        have HC := Lib.hid HCK
        clear HCK
        go_quiet (fail)
        go_wp2_with fail
        go_ret
        exact ⟨by rw [HC.out]; rfl, HFW.out.drewN nq⟩
      have q4 : decide ((NB : Int) ≤ p2) = false := decide_eq_false k4
      have HIN : Hid (A.InP a b (p1, p2)) := by
        have h1 := HNA.out
        have h2 := HNB.out
        exact ⟨⟨show -1 ≤ p1 by omega, show p1 < _ by omega⟩, show -1 ≤ p2 by omega, show p2 < _ by omega⟩
      by_cases k56 : p1 < 0 ∧ p2 < 0
      · obtain ⟨k5, k6⟩ := k56
        have q5 : decide (p1 < 0) = true := decide_eq_true k5
        have q6 : decide (p2 < 0) = true := decide_eq_true k6
        have HCK := HNOT.out fun h => h.2 ⟨k5, k6⟩
        have HC := Lib.hid HCK
        clear HCK
        go_quiet (fail)
        go_wp2_with fail
        go_ret
        exact ⟨by rw [HC.out]; rfl, HFW.out.drewN nq⟩
      have HNN : Hid (¬ (p1 < 0 ∧ p2 < 0)) := k56
      have hor : decide (p1 < 0) = false ∨ (decide (p1 < 0) = true ∧ decide (p2 < 0) = false) := by
        by_cases h : p1 < 0
        · exact .inr ⟨decide_eq_true h, decide_eq_false fun h' => k56 ⟨h, h'⟩⟩
        · exact .inl (decide_eq_false h)
      clear k56
      rcases Nat.eq_zero_or_pos i with hi0 | hi0
      · subst hi0
        have HOK2 : Hid (∀ j, j < 0 + 1 → A.okAt a b l j) := fun j hj => by
          obtain rfl : j = 0 := by omega
          exact ⟨hlt, by rw [← HP.out]; exact HIN.out, by rw [← HP.out]; exact HNN.out, fun h => absurd h (Nat.lt_irrefl 0)⟩
        rcases hor with q5 | ⟨q5, q6⟩
        all_goals
          go_quiet (fail)
          have HF2 := Lib.hid (HFA.out.drewN nq)
          go_wp2_with fail
          go_roundg (l.length + 1 - (0 + 1))
          case measure => omega
          case rel => exact ⟨0 + 1, by omega, rfl, rfl, HOK2, HF2⟩
      · obtain ⟨m, hm⟩ : ∃ m, m = i - 1 := ⟨_, rfl⟩
        have hml : m < l.length := by omega
        obtain ⟨g', o', e, _, c1', c2'⟩ := HPP.out m hml
        simp only [Option.some.injEq, Addr.mk.injEq, and_true] at e
        obtain ⟨rfl, rfl⟩ := e
        obtain ⟨⟨x1, x2⟩, hx⟩ : ∃ q, q = l[m] := ⟨_, rfl⟩
        rw [← hx] at c1' c2'
        dsimp only at c1' c2'
        have d1' := HFA.out.cell id (HB1.out.fr.cell id c1')
        have d2' := HFA.out.cell id (HB1.out.fr.cell id c2')
        have HXM := Lib.hid hx
        have HMI : Hid (m = i - 1) := hm
        have hkp : (0 : Int) < (i : Int) := by omega
        have q7 : decide ((0 : Int) < (i : Int)) = true := decide_eq_true hkp
        have him : (i : Int) - 1 = (m : Int) := by omega
        have hwm : IntKind.i64.wrap (m : Int) = (m : Int) := IntWalk.i64_in _ (by omega)
        have hml' : (m : Int) < (l.length : Int) := by omega
        clear c1' c2' hx hm
        rcases hor with q5 | ⟨q5, q6⟩
        all_goals
          go_still_tail 44, (by kernel_rfl)
          go_wp2_with fail
          refine (before_any (x1, x2) (p1, p2)).mono ?_
          rintro _ w6 ⟨⟨r, rfl, hr⟩, f6⟩
          have HF6 : Hid (Frm (fun _ => False) w1 w6) := HFA.out.drew.trans f6
          have HFW6 : Hid (Frm (fun _ => False) w w6) := HB1.out.fr.trans HF6.out
          clear f6 d1' d2' y0 y1 a2 b2
          cases r with
          | true =>
            have HOK2 : Hid (∀ j, j < i + 1 → A.okAt a b l j) := fun j hj => by
              by_cases e : j < i
              · exact HOK.out j e
              · obtain rfl : j = i := by omega
                refine ⟨hlt, by rw [← HP.out]; exact HIN.out, by rw [← HP.out]; exact HNN.out, fun _ => ?_⟩
                have h := hr.1 rfl
                rw [HP.out, HXM.out] at h
                simp only [HMI.out] at h
                exact h
            clear hr
            go_wp2_with fail
            go_roundg (l.length + 1 - (i + 1))
            case measure => omega
            case rel => exact ⟨i + 1, by omega, rfl, by go_num, HOK2, HF6⟩
          | false =>
            have HC : Hid (A.check a b l = 2) := HBAD.out i hlt fun ⟨_, _, _, h⟩ => by
              have h := h hi0
              have h2 := hr.2 (by
                rw [HP.out, HXM.out]
                simp only [HMI.out]
                exact h)
              cases h2
            clear hr
            go_wp2_with fail
            go_ret
            exact ⟨by rw [HC.out]; rfl, HFW6.out⟩
    · have hlt' : ¬ (i : Int) < (l.length : Int) := by omega
      obtain rfl : i = l.length := by omega
      have HFW1 : Hid (Frm (fun _ => False) w wr) := HB1.out.fr.trans HFR.out
      have HBR := Lib.hid (HB1.out.call HFR.out)
      have s1 := HBR.out.ba.cell 1
      have s2 := HBR.out.bb.cell 1
      simp only [macC] at s1 s2
      have HLM : Hid (l.length ≤ maxLen) := by show _ ≤ _; unfold maxLen; omega
      have HINS : Hid (A.InP a b (a.start, b.start)) := ⟨HT.out.fa.start, HT.out.fb.start⟩
      clear HBAD HB1 HFR
      go_wp2_with fail
      clear s1 s2
      refine (there_b (HL.out.keep HFW1.out fun _ _ => id) HLM.out (a.start, b.start) HINS.out).mono ?_
      rintro _ w2 ⟨rfl, f2⟩
      have HB2 := Lib.hid (HBR.out.call f2)
      clear f2 HBR HFW1
      obtain ⟨st, hst⟩ : ∃ st, st = A.among l (a.start, b.start) := ⟨_, rfl⟩
      rw [← hst]
      have HST := Lib.hid hst
      clear hst
      cases st with
      | false =>
        have HC : Hid (A.check a b l = 8) := A.check_apart HFI.out HOK.out (A.shows_no fun h => by have h1 := h.1; rw [← HST.out] at h1; cases h1)
        go_wp2_with fail
        go_ret
        exact ⟨by rw [HC.out]; rfl, HB2.out.fr⟩
      | true =>
      obtain ⟨L, hL⟩ := Int.eq_ofNat_of_zero_le HT.out.fa.letters
      have HLE := Lib.hid hL
      have hL3 : L ≤ 300 := by have h1 := HT.out.la; omega
      clear hL
      go_wp2_with fail
      go_loopg [10] (l.length + 1) (fun n u10 wr => ∃ i : Nat, i ≤ l.length ∧ n = l.length + 1 - i ∧ u10 = .int .i64 (i : Int) ∧ Hid (∀ j (h : j < l.length), j < i → A.agree a b l[j] = true ∧ ∀ k : Nat, k < a.letters.toNat → A.among l (A.leadP a b l[j] k) = true) ∧ Hid (Frm (fun _ => False) w2 wr))
      case atStart => exact ⟨0, Nat.zero_le _, rfl, rfl, fun j _ h => absurd h (Nat.not_lt_zero j), Frm.refl _ _⟩
      case round =>
        obtain ⟨i, hi, rfl, rfl, HSH, HFR⟩ := hrel
        by_cases hlt : i < l.length
        case neg =>
          have hlt' : ¬ (i : Int) < (l.length : Int) := by omega
          have HC : Hid (A.check a b l = 0) := A.check_ok HFI.out HOK.out (A.shows_iff.2 ⟨HST.out.symm, fun j h => HSH.out j h (by omega)⟩)
          have HFF : Hid (Frm (fun _ => False) w wr) := HB2.out.fr.trans HFR.out
          go_wp2_with fail
          go_ret
          exact ⟨by rw [HC.out]; rfl, HFF.out⟩
        have hlt' : (i : Int) < (l.length : Int) := by omega
        obtain ⟨gp, op, rfl, hgp, c1', c2'⟩ := HPP.out i hlt
        obtain ⟨⟨p1, p2⟩, hp⟩ : ∃ q, q = l[i] := ⟨_, rfl⟩
        rw [← hp] at c1' c2'
        dsimp only at c1' c2'
        have d1' := HFR.out.cell id (HB2.out.fr.cell id c1')
        have d2' := HFR.out.cell id (HB2.out.fr.cell id c2')
        have HP := Lib.hid hp
        have HIN : Hid (A.InP a b (p1, p2)) := by
          obtain ⟨_, h1, _⟩ := HOK.out i hlt
          rw [← hp] at h1
          exact h1
        clear c1' c2' hp
        go_wp2_with fail
        clear d1' d2'
        have HG : Hid (Blk (wr.alloc (.cells #[.int .i64 p1, .int .i64 p2] 40)) wr.heap.size 40 #[.int .i64 p1, .int .i64 p2]) := Blk.new wr _ _
        have HFA : Hid (Frm (fun _ => False) w2 (wr.alloc (.cells #[.int .i64 p1, .int .i64 p2] 40))) := HFR.out.alloc _
        obtain ⟨gq, hgq⟩ : ∃ gq, gq = wr.heap.size := ⟨_, rfl⟩
        rw [← hgq] at HG
        rw [← hgq]
        generalize wr.alloc (.cells #[.int .i64 p1, .int .i64 p2] 40) = wa at *
        clear hgq HFR
        have HFW : Hid (Frm (fun _ => False) w wa) := HB2.out.fr.trans HFA.out
        have HBA := Lib.hid (HB2.out.call HFA.out)
        refine wp_region_list [95, 96, 97, 98, 99, 100, 101, 102, 103] [vV (.agg #[.int .i64 a.letters, .int .i64 a.start, .slice A1 a.next.length c1, .slice A2 a.fin.length c2]), vV (.pointer (some ⟨gq, 0, none⟩)), vV (.int .i64 p1), vV (.bool (A.ends a p1)), vV (.agg #[.int .i64 b.letters, .int .i64 b.start, .slice B1 b.next.length d1, .slice B2 b.fin.length d2]), vV (.pointer (some ⟨gq, 1, none⟩)), vV (.int .i64 p2), vV (.bool (A.ends b p2)), vV (.bool (A.ends a p1 != A.ends b p2))] (Frm (fun _ => False)) [] [(3, .pointer (some ⟨w.heap.size, 0, none⟩)), (4, .pointer (some ⟨w.heap.size + 1, 0, none⟩)), (11, .pointer (some ⟨gq, 0, none⟩))] (by kernel_rfl) (by kernel_rfl) (fun _ _ _ => Frm.trans) ?_ (fun _ h => by cases h) (Frm.refl _ _).drew ?_ ?_ ?_
        · intro f hf v w w' h F
          simp only [List.mem_cons, List.not_mem_nil, or_false] at hf
          rcases hf with rfl | rfl | rfl | rfl | rfl | rfl | rfl | rfl | rfl <;> exact h
        · intro x hx
          simp only [List.mem_cons, List.not_mem_nil, or_false] at hx
          rcases hx with rfl | rfl | rfl <;> exact ⟨by simp, rfl⟩
        · refine ⟨?_, ?_, ?_, ?_, ?_, ?_, ?_, ?_, ?_, trivial⟩
          · intro Q tm df V hR hu hd
            have u1 : tm[3]?.getD undef = .pointer (some ⟨w.heap.size, 0, none⟩) := hu (3, _) (by simp)
            have hb := hR.blk HBA.out.ba id
            have y0 := hb.cell 0
            have y1 := hb.cell 1
            have y2 := hb.cell 2
            have y3 := hb.cell 3
            simp only [macC] at y0 y1 y2 y3
            clear hu hd hb
            go_simp
            exact ⟨_, rfl, rfl, Frm.refl _ V⟩
          · intro Q tm df V hR hu hd
            have u1 : tm[11]?.getD undef = .pointer (some ⟨gq, 0, none⟩) := hu (11, _) (by simp)
            clear hu hd
            go_simp
            exact ⟨_, rfl, rfl, Frm.refl _ V⟩
          · intro Q tm df V hR hu hd
            have e0 : tm[96]?.getD undef = .pointer (some ⟨gq, 0, none⟩) := hd 1 (by simp)
            have y := (hR.blk HG.out id).cell 0
            clear hu hd
            go_simp
            exact ⟨_, rfl, rfl, Frm.refl _ V⟩
          · intro Q tm df V hR hu hd
            have e0 : tm[95]?.getD undef = .agg #[.int .i64 a.letters, .int .i64 a.start, .slice A1 a.next.length c1, .slice A2 a.fin.length c2] := hd 0 (by simp)
            have e1 : tm[97]?.getD undef = .int .i64 p1 := hd 2 (by simp)
            clear hu hd
            go_simp
            refine (rends_any (HM.out.keep0 (HFW.out.trans hR)) HT.out.fa p1 HIN.out.1).mono ?_
            rintro e w' ⟨rfl, f⟩
            exact ⟨_, rfl, rfl, f⟩
          · intro Q tm df V hR hu hd
            have u1 : tm[4]?.getD undef = .pointer (some ⟨w.heap.size + 1, 0, none⟩) := hu (4, _) (by simp)
            have hb := hR.blk HBA.out.bb id
            have y0 := hb.cell 0
            have y1 := hb.cell 1
            have y2 := hb.cell 2
            have y3 := hb.cell 3
            simp only [macC] at y0 y1 y2 y3
            clear hu hd hb
            go_simp
            exact ⟨_, rfl, rfl, Frm.refl _ V⟩
          · intro Q tm df V hR hu hd
            have u1 : tm[11]?.getD undef = .pointer (some ⟨gq, 0, none⟩) := hu (11, _) (by simp)
            clear hu hd
            go_simp
            exact ⟨_, rfl, rfl, Frm.refl _ V⟩
          · intro Q tm df V hR hu hd
            have e0 : tm[100]?.getD undef = .pointer (some ⟨gq, 1, none⟩) := hd 5 (by simp)
            have y := (hR.blk HG.out id).cell 1
            clear hu hd
            go_simp
            exact ⟨_, rfl, rfl, Frm.refl _ V⟩
          · intro Q tm df V hR hu hd
            have e0 : tm[99]?.getD undef = .agg #[.int .i64 b.letters, .int .i64 b.start, .slice B1 b.next.length d1, .slice B2 b.fin.length d2] := hd 4 (by simp)
            have e1 : tm[101]?.getD undef = .int .i64 p2 := hd 6 (by simp)
            clear hu hd
            go_simp
            refine (rends_any (HM'.out.keep0 (HFW.out.trans hR)) HT.out.fb p2 HIN.out.2).mono ?_
            rintro e w' ⟨rfl, f⟩
            exact ⟨_, rfl, rfl, f⟩
          · intro Q tm df V hR hu hd
            have e0 : tm[98]?.getD undef = .bool (A.ends a p1) := hd 3 (by simp)
            have e1 : tm[102]?.getD undef = .bool (A.ends b p2) := hd 7 (by simp)
            clear hu hd
            go_simp
            exact ⟨_, rfl, rfl, Frm.refl _ V⟩
        · intro vs V hR hf
          have e8 : vs 8 = .bool (A.ends a p1 != A.ends b p2) := hf 8 (by decide)
          clear hf
          simp only [putAll, List.size_toArray, List.length_cons, List.length_nil, Nat.zero_add, Nat.reduceAdd, show List.range 9 = [0, 1, 2, 3, 4, 5, 6, 7, 8] from rfl, List.foldl_cons, List.foldl_nil, List.getD_cons_zero, List.getD_cons_succ, List.setIfInBounds_toArray, List.set_cons_zero, List.set_cons_succ, e8]
          have HFV := Lib.hid (HFA.out.trans hR)
          have HGV := Lib.hid (hR.blk HG.out id)
          clear hR e8 HFA HG HFW HBA
          by_cases hag : A.ends a p1 = A.ends b p2
          case neg =>
            have hb : (A.ends a p1 != A.ends b p2) = true := by rw [bne_iff_ne]; exact hag
            have HC : Hid (A.check a b l = 8) := A.check_apart HFI.out HOK.out (A.shows_no fun h => by
              have h1 := (h.2 i hlt).1
              rw [← HP.out] at h1
              exact hag (by simpa [A.agree] using h1))
            have HFF : Hid (Frm (fun _ => False) w V) := HB2.out.fr.trans HFV.out
            rw [hb]
            clear hag hb
            go_wp2_with fail
            go_ret
            exact ⟨by rw [HC.out]; rfl, HFF.out⟩
          have HAG : Hid (A.agree a b l[i] = true) := by
            rw [← HP.out]
            show (A.ends a p1 == A.ends b p2) = true
            rw [hag]
            simp
          have hb : (A.ends a p1 != A.ends b p2) = false := by rw [hag]; simp
          rw [hb]
          clear hag hb
          go_wp2_with fail
          go_loopg [12] (L + 1) (fun n u12 wr => ∃ k : Nat, k ≤ L ∧ n = L + 1 - k ∧ u12 = .int .i64 (k : Int) ∧ Hid (∀ j : Nat, j < k → A.among l (A.leadP a b l[i] j) = true) ∧ Hid (Blk wr gq 40 #[.int .i64 p1, .int .i64 p2]) ∧ Hid (Frm (fun _ => False) w2 wr))
          case atStart => exact ⟨0, Nat.zero_le _, rfl, rfl, fun j h => absurd h (Nat.not_lt_zero j), HGV, HFV⟩
          case round =>
            clear HGV HFV
            obtain ⟨k, hk, rfl, rfl, HAM, HG, HFR⟩ := hrel
            have HFW : Hid (Frm (fun _ => False) w wr) := HB2.out.fr.trans HFR.out
            have HBA := Lib.hid (HB2.out.call HFR.out)
            have x0 := HBA.out.ba.cell 0
            simp only [macC] at x0
            rw [HLE.out] at x0
            by_cases hkl : k < L
            case neg =>
              have hkl' : ¬ (k : Int) < (L : Int) := by omega
              have HSH2 : Hid (∀ j (h : j < l.length), j < i + 1 → A.agree a b l[j] = true ∧ ∀ k : Nat, k < a.letters.toNat → A.among l (A.leadP a b l[j] k) = true) := fun j h hj => by
                by_cases e : j < i
                · exact HSH.out j h e
                · obtain rfl : j = i := by omega
                  exact ⟨HAG.out, fun k' hk' => HAM.out k' (by rw [HLE.out, Int.toNat_natCast] at hk'; omega)⟩
              go_wp2_with fail
              go_roundg (l.length + 1 - (i + 1))
              case measure => omega
              case rel => exact ⟨i + 1, by omega, rfl, by go_num, HSH2, HFR⟩
            have hkl' : (k : Int) < (L : Int) := by omega
            go_wp2_with fail
            clear x0
            obtain ⟨q1, hq1⟩ : ∃ q1, q1 = A.lead a p1 k := ⟨_, rfl⟩
            obtain ⟨q2, hq2⟩ : ∃ q2, q2 = A.lead b p2 k := ⟨_, rfl⟩
            have HQ1 := Lib.hid hq1
            have HQ2 := Lib.hid hq2
            have HLQ : Hid (A.leadP a b l[i] k = (q1, q2)) := by show _ = _; rw [← HP.out, hq1, hq2]; rfl
            have HINQ : Hid (A.InP a b (q1, q2)) := by
              rw [hq1, hq2]
              exact HT.out.lead HIN.out (by omega) (by rw [HLE.out]; omega)
            clear hq1 hq2
            refine wp_region_list [110, 111, 112, 113, 114, 115, 116, 117, 118, 119, 120, 121, 122, 123] [vV (.slice (some ⟨gp, op, none⟩) l.length cp), vV (.agg #[.int .i64 a.letters, .int .i64 a.start, .slice A1 a.next.length c1, .slice A2 a.fin.length c2]), vV (.pointer (some ⟨gq, 0, none⟩)), vV (.int .i64 p1), vV (.int .i64 (k : Int)), vV (.int .i64 q1), vV (.agg #[.int .i64 b.letters, .int .i64 b.start, .slice B1 b.next.length d1, .slice B2 b.fin.length d2]), vV (.pointer (some ⟨gq, 1, none⟩)), vV (.int .i64 p2), vV (.int .i64 (k : Int)), vV (.int .i64 q2), vV (.agg #[.int .i64 q1, .int .i64 q2]), vV (.bool (A.among l (q1, q2))), vV (.bool (!A.among l (q1, q2)))] (Frm (fun _ => False)) [] [(2, .slice (some ⟨gp, op, none⟩) l.length cp), (3, .pointer (some ⟨w.heap.size, 0, none⟩)), (4, .pointer (some ⟨w.heap.size + 1, 0, none⟩)), (11, .pointer (some ⟨gq, 0, none⟩)), (12, .int .i64 (k : Int))] (by kernel_rfl) (by kernel_rfl) (fun _ _ _ => Frm.trans) ?_ (fun _ h => by cases h) (Frm.refl _ _).drew ?_ ?_ ?_
            · intro f hf v w w' h F
              simp only [List.mem_cons, List.not_mem_nil, or_false] at hf
              rcases hf with rfl | rfl | rfl | rfl | rfl | rfl | rfl | rfl | rfl | rfl | rfl | rfl | rfl | rfl <;> exact h
            · intro x hx
              simp only [List.mem_cons, List.not_mem_nil, or_false] at hx
              rcases hx with rfl | rfl | rfl | rfl | rfl <;> exact ⟨by simp, rfl⟩
            · refine ⟨?_, ?_, ?_, ?_, ?_, ?_, ?_, ?_, ?_, ?_, ?_, ?_, ?_, ?_, trivial⟩
              · intro Q tm df V hR hu hd
                have u1 : tm[2]?.getD undef = .slice (some ⟨gp, op, none⟩) l.length cp := hu (2, _) (by simp)
                clear hu hd
                go_simp
                exact ⟨_, rfl, rfl, Frm.refl _ V⟩
              · intro Q tm df V hR hu hd
                have u1 : tm[3]?.getD undef = .pointer (some ⟨w.heap.size, 0, none⟩) := hu (3, _) (by simp)
                have hb := hR.blk HBA.out.ba id
                have y0 := hb.cell 0
                have y1 := hb.cell 1
                have y2 := hb.cell 2
                have y3 := hb.cell 3
                simp only [macC] at y0 y1 y2 y3
                clear hu hd hb
                go_simp
                exact ⟨_, rfl, rfl, Frm.refl _ V⟩
              · intro Q tm df V hR hu hd
                have u1 : tm[11]?.getD undef = .pointer (some ⟨gq, 0, none⟩) := hu (11, _) (by simp)
                clear hu hd
                go_simp
                exact ⟨_, rfl, rfl, Frm.refl _ V⟩
              · intro Q tm df V hR hu hd
                have e0 : tm[112]?.getD undef = .pointer (some ⟨gq, 0, none⟩) := hd 2 (by simp)
                have y := (hR.blk HG.out id).cell 0
                clear hu hd
                go_simp
                exact ⟨_, rfl, rfl, Frm.refl _ V⟩
              · intro Q tm df V hR hu hd
                have u1 : tm[12]?.getD undef = .int .i64 (k : Int) := hu (12, _) (by simp)
                clear hu hd
                go_simp
                exact ⟨_, rfl, rfl, Frm.refl _ V⟩
              · intro Q tm df V hR hu hd
                have e0 : tm[111]?.getD undef = .agg #[.int .i64 a.letters, .int .i64 a.start, .slice A1 a.next.length c1, .slice A2 a.fin.length c2] := hd 1 (by simp)
                have e1 : tm[113]?.getD undef = .int .i64 p1 := hd 3 (by simp)
                have e2 : tm[114]?.getD undef = .int .i64 (k : Int) := hd 4 (by simp)
                clear hu hd
                go_simp
                refine (rstep_any (HM.out.keep0 (HFW.out.trans hR)) HT.out.fa p1 k HIN.out.1 (by omega) (by rw [HLE.out]; omega)).mono ?_
                rintro e w' ⟨rfl, f⟩
                exact ⟨_, rfl, by rw [← HQ1.out]; rfl, f⟩
              · intro Q tm df V hR hu hd
                have u1 : tm[4]?.getD undef = .pointer (some ⟨w.heap.size + 1, 0, none⟩) := hu (4, _) (by simp)
                have hb := hR.blk HBA.out.bb id
                have y0 := hb.cell 0
                have y1 := hb.cell 1
                have y2 := hb.cell 2
                have y3 := hb.cell 3
                simp only [macC] at y0 y1 y2 y3
                clear hu hd hb
                go_simp
                exact ⟨_, rfl, rfl, Frm.refl _ V⟩
              · intro Q tm df V hR hu hd
                have u1 : tm[11]?.getD undef = .pointer (some ⟨gq, 0, none⟩) := hu (11, _) (by simp)
                clear hu hd
                go_simp
                exact ⟨_, rfl, rfl, Frm.refl _ V⟩
              · intro Q tm df V hR hu hd
                have e0 : tm[117]?.getD undef = .pointer (some ⟨gq, 1, none⟩) := hd 7 (by simp)
                have y := (hR.blk HG.out id).cell 1
                clear hu hd
                go_simp
                exact ⟨_, rfl, rfl, Frm.refl _ V⟩
              · intro Q tm df V hR hu hd
                have u1 : tm[12]?.getD undef = .int .i64 (k : Int) := hu (12, _) (by simp)
                clear hu hd
                go_simp
                exact ⟨_, rfl, rfl, Frm.refl _ V⟩
              · intro Q tm df V hR hu hd
                have e0 : tm[116]?.getD undef = .agg #[.int .i64 b.letters, .int .i64 b.start, .slice B1 b.next.length d1, .slice B2 b.fin.length d2] := hd 6 (by simp)
                have e1 : tm[118]?.getD undef = .int .i64 p2 := hd 8 (by simp)
                have e2 : tm[119]?.getD undef = .int .i64 (k : Int) := hd 9 (by simp)
                clear hu hd
                go_simp
                refine (rstep_any (HM'.out.keep0 (HFW.out.trans hR)) HT.out.fb p2 k HIN.out.2 (by omega) (by rw [← HT.out.ll]; rw [HLE.out]; omega)).mono ?_
                rintro e w' ⟨rfl, f⟩
                exact ⟨_, rfl, by rw [← HQ2.out]; rfl, f⟩
              · intro Q tm df V hR hu hd
                have e0 : tm[115]?.getD undef = .int .i64 q1 := hd 5 (by simp)
                have e1 : tm[120]?.getD undef = .int .i64 q2 := hd 10 (by simp)
                clear hu hd
                go_simp
                exact ⟨_, rfl, rfl, Frm.refl _ V⟩
              · intro Q tm df V hR hu hd
                have e0 : tm[110]?.getD undef = .slice (some ⟨gp, op, none⟩) l.length cp := hd 0 (by simp)
                have e1 : tm[121]?.getD undef = .agg #[.int .i64 q1, .int .i64 q2] := hd 11 (by simp)
                clear hu hd
                go_simp
                refine (there_b (HL.out.keep (HFW.out.trans hR) fun _ _ => id) HLM.out (q1, q2) HINQ.out).mono ?_
                rintro e w' ⟨rfl, f⟩
                exact ⟨_, rfl, rfl, f⟩
              · intro Q tm df V hR hu hd
                have e0 : tm[122]?.getD undef = .bool (A.among l (q1, q2)) := hd 12 (by simp)
                clear hu hd
                go_simp
                exact ⟨_, rfl, rfl, Frm.refl _ V⟩
            · intro vs V hR hf
              have e13 : vs 13 = .bool (!A.among l (q1, q2)) := hf 13 (by decide)
              clear hf
              simp only [putAll, List.size_toArray, List.length_cons, List.length_nil, Nat.zero_add, Nat.reduceAdd, show List.range 14 = [0, 1, 2, 3, 4, 5, 6, 7, 8, 9, 10, 11, 12, 13] from rfl, List.foldl_cons, List.foldl_nil, List.getD_cons_zero, List.getD_cons_succ, List.setIfInBounds_toArray, List.set_cons_zero, List.set_cons_succ, e13]
              have HFV := Lib.hid (HFR.out.trans hR)
              have HGV := Lib.hid (hR.blk HG.out id)
              clear hR e13 HFR HG HFW HBA
              obtain ⟨am, ham⟩ : ∃ am, am = A.among l (q1, q2) := ⟨_, rfl⟩
              rw [← ham]
              have HAMQ := Lib.hid ham
              clear ham
              cases am with
              | false =>
                have HC : Hid (A.check a b l = 8) := A.check_apart HFI.out HOK.out (A.shows_no fun h => by
                  have h1 := (h.2 i hlt).2 k (by rw [HLE.out, Int.toNat_natCast]; exact hkl)
                  rw [HLQ.out, ← HAMQ.out] at h1
                  cases h1)
                have HFF : Hid (Frm (fun _ => False) w V) := HB2.out.fr.trans HFV.out
                go_wp2_with fail
                go_ret
                exact ⟨by rw [HC.out]; rfl, HFF.out⟩
              | true =>
                have HAM2 : Hid (∀ j : Nat, j < k + 1 → A.among l (A.leadP a b l[i] j) = true) := fun j hj => by
                  by_cases e : j < k
                  · exact HAM.out j e
                  · obtain rfl : j = k := by omega
                    rw [HLQ.out]
                    exact HAMQ.out.symm
                go_wp2_with fail
                go_roundg (L + 1 - (k + 1))
                case measure => omega
                case rel => exact ⟨k + 1, by omega, rfl, by go_num, HAM2, HGV, HFV⟩
end Go.Proofs.Ytiekaicbjinbaaa
end
section
namespace Go.Proofs.Ytiekaicbjinbaaa
open Go.RowKit
section
variable {P : Program}
theorem wp_app_emptyN {o : Oper} {a : Act} {w : World} {K : Act → World → Prop} {Q : Exit → Act → World → Prop} (s x : Operand) {t e : TypeId} {i : TypeInfo} {z : Value} {bytes n b size : Nat} {vx : Value} {xs : List Value}
    (ho : o.op = .call { callee := .builtin .append, args := #[s, x], argTypes := #[t, t] }) (ht : P.underlying t = some (.slice e)) (hi : P.info? e = some i) (hz : i.zero = some z) (hsize : i.size = size) (hby : i.bytes = bytes)
    (hv : a.eval s = .slice (some ⟨b, 0, none⟩) 0 0) (hx : a.eval x = vx) (hb : Blk w b e #[]) (hs : Src P size t vx n xs w) (hbytes : n * bytes ≤ 140737488355328) (h63 : n ≤ 9223372036854775807)
    (h : ∀ v' w' g c cs, v' = .slice (some ⟨g, 0, none⟩) n c → Frm (fun _ => False) w w' → Blk w' g e cs → (∀ k, k < xs.length → cs[k]? = xs[k]?) → K (a.put o.dst v') w') : o.wp P a w K Q := by
  have hxl : xs.length = n * size := hs.newsLen
  obtain ⟨v', w', g, c, cs, hr, h1, h2, h3, h4⟩ : ∃ v' w' g c cs, (Builtin.append_ #[t, t] o.type #[.slice (some ⟨b, 0, none⟩) 0 0, vx]).run P w = .ok v' w' ∧ v' = .slice (some ⟨g, 0, none⟩) n c ∧ Frm (fun _ => False) w w' ∧ Blk w' g e cs ∧ ∀ k, k < xs.length → cs[k]? = xs[k]? := by
    by_cases hn : n = 0
    · subst hn
      have hx0 : xs = [] := List.eq_nil_of_length_eq_zero (by omega)
      subst hx0
      have hr := run_append_room_src (P := P) w t t o.type e i ht hi b 0 0 0 vx 0 [] (hsize ▸ hs) (Nat.le_refl _) (fun j h => absurd h (by simp)) (fun j h => absurd h (by simp))
      exact ⟨_, _, b, 0, #[], hr, rfl, Frm.refl _ _, hb, fun k hk => absurd hk (by simp)⟩
    · have hr := run_append_grow_src (P := P) w t t o.type e i z ht hi hz (some ⟨b, 0, none⟩) 0 0 [] (run_firstCells_some w.drew i.size 0 ⟨b, 0, none⟩ 0 0 [] (by simp) (fun j u h => by cases h)) vx n xs (hsize ▸ hs) (by omega) (by omega) (by
        have : Builtin.nextslicecap (0 + n) 0 = n := by unfold Builtin.nextslicecap; rw [if_pos (by omega)]; omega
        rw [this, hby]; omega)
      refine ⟨_, _, w.heap.size, _, _, hr, by rw [Nat.zero_add], ((Frm.refl _ w).drew).alloc _, Blk.new w.drew _ _, fun k hk => ?_⟩
      rw [List.nil_append, Array.getElem?_append_left (by simpa using hk)]
      simp
  unfold Oper.wp execOp
  simp only [ho, resolve, invoke, builtin, Sem.run_bind, Sem.run_pure, Result.andThen_ok, List.map_toArray, List.map_cons, List.map_nil, hv, hx, hr]
  exact h v' w' g c cs h1 h2 h3 h4
end
theorem pC_len : ∀ l : List A.Pr, (l.flatMap pairC).length = l.length * 2
  | [] => rfl
  | a :: l => by rw [List.flatMap_cons, List.length_append, pC_len l, List.length_cons]; simp [pairC]; omega
theorem prs_src {w : World} {S : Nat → Prop} {v : Value} {l : List A.Pr} (h : Prs2 w S v l) : Src Try.prog 2 35 v l.length (l.flatMap pairC) w := by
  obtain ⟨A0, c, rfl, h⟩ := h
  rcases A0 with _ | a
  · have : l = [] := by
      rcases l with _ | ⟨x, r⟩
      · rfl
      · obtain ⟨g, o, e, _⟩ := h 0 (by simp)
        cases e
    subst this
    exact Src.ofNil w Try.underlying35 c
  · refine Src.ofSlice w Try.underlying35 a _ c _ (pC_len l) (fun j u hu => ?_) (fun u hu => by
      obtain ⟨p, _, hp⟩ := List.mem_flatMap.1 hu
      simp only [pairC, List.mem_cons, List.not_mem_nil, or_false] at hp
      rcases hp with rfl | rfl <;> rfl)
    have hj : j < l.length * 2 := by
      rcases Nat.lt_or_ge j (l.length * 2) with h | h
      · exact h
      · rw [List.getElem?_eq_none (by rw [pC_len]; exact h)] at hu; cases hu
    obtain ⟨g, o, e, _, hc1, hc2⟩ := h (j / 2) (by omega)
    injection e with e
    subst e
    have : (⟨g, o, none⟩ : Addr).add j = ⟨g, o + j, none⟩ := by
      unfold Addr.add
      split
      · subst_vars; simp
      · rfl
    rw [this]
    obtain ⟨k1, k2⟩ := pC_get l (j / 2) (by omega)
    rcases Nat.mod_two_eq_zero_or_one j with hm | hm
    · have ej : j / 2 * 2 = j := by omega
      rw [ej] at k1 hc1
      rw [hc1, ← hu, k1]
    · have ej : j / 2 * 2 + 1 = j := by omega
      rw [ej] at k2
      rw [Nat.add_assoc, ej] at hc2
      rw [hc2, ← hu, k2]
theorem prs_of_blk {w : World} {g n c : Nat} {cs : Array Value} {l : List A.Pr} (hn : n = l.length) (hb : Blk w g 40 cs) (hc : ∀ k, k < (l.flatMap pairC).length → cs[k]? = (l.flatMap pairC)[k]?) : Prs2 w (fun _ => True) (.slice (some ⟨g, 0, none⟩) n c) l := by
  subst hn
  refine ⟨_, c, rfl, fun k hk => ⟨g, 0, rfl, trivial, ?_, ?_⟩⟩
  · rw [Nat.zero_add, hb.cell, hc _ (by rw [pC_len]; omega), (pC_get l k hk).1]
  · rw [Nat.zero_add, hb.cell, hc _ (by rw [pC_len]; omega), (pC_get l k hk).2]
end Go.Proofs.Ytiekaicbjinbaaa
end
section
namespace Go.Proofs.Ytiekaicbjinbaaa
open Go.RowKit
set_option maxRecDepth 100000 in
set_option maxHeartbeats 16000000 in
theorem relates_law {w : World} {P Q S : Nat → Prop} {va vb vl : Value} {a b : A.Mac} {pl : List A.Pr} (hpl : Prs2 w S vl pl) (hpm : pl.length ≤ maxLen) (ha : MachAt w P va a) (hb : MachAt w Q vb b) (sa : Sized a) (sb : Sized b) (fa : a.fin.length ≤ 140737488355328) (ra : ∀ row ∈ a.next, row.length * 8 ≤ 140737488355328) (fb : b.fin.length ≤ 140737488355328) (rb : ∀ row ∈ b.next, row.length * 8 ≤ 140737488355328) :
    Calls Try.prog 4 #[va, vb, vl] w fun e w' => e = .returned (.bool true) ∧ Frm (fun _ => False) w w' := by
  obtain ⟨A1, c1, A2, c2, rfl⟩ := ha.form
  obtain ⟨B1, d1, B2, d2, rfl⟩ := hb.form
  obtain ⟨AP, cp, rfl, -⟩ := id hpl
  have HL := Lib.hid hpl
  have HPM := Lib.hid hpm
  clear hpl hpm
  have HF0 : Hid (Bx w _ (macC a A1 c1 A2 c2) (macC b B1 d1 B2 d2)) := Bx.new w _ _
  have HM := Lib.hid ha
  have HM' := Lib.hid hb
  have HS := Lib.hid sa
  have HS' := Lib.hid sb
  have HCA := Lib.hid fa
  have HCB := Lib.hid fb
  have HRA := Lib.hid ra
  have HRB := Lib.hid rb
  clear ha hb sa sb fa ra fb rb
  have e0 := HF0.out.ba.cell 0
  have e1 := HF0.out.ba.cell 1
  have e2 := HF0.out.ba.cell 2
  have e3 := HF0.out.ba.cell 3
  have g0 := HF0.out.bb.cell 0
  have g1 := HF0.out.bb.cell 1
  have g2 := HF0.out.bb.cell 2
  have g3 := HF0.out.bb.cell 3
  simp only [macC] at e0 e1 e2 e3 g0 g1 g2 g3
  go_enter Try.func4, Try.ntmps4
  go_wp2_with fail
  clear e0 e1 e2 e3 g0 g1 g2 g3
  refine (small_any (HM.out.keep0 HF0.out.fr) HS.out).mono ?_
  rintro _ w1 ⟨rfl, f1⟩
  have HF1 := Lib.hid (HF0.out.call f1)
  clear f1 HF0
  by_cases hsa : A.small a = true
  case neg =>
    rw [show A.small a = false by simpa using hsa]
    clear hsa
    go_wp2_with fail
    refine (awake_any _).mono ?_
    rintro _ w2 ⟨rfl, f2⟩
    have HF2 := Lib.hid (HF1.out.call f2)
    clear f2 HF1
    go_wp2_with fail
    go_ret
    exact ⟨rfl, HF2.out.fr⟩
  rw [hsa]
  have e0 := HF1.out.ba.cell 0
  have e1 := HF1.out.ba.cell 1
  have e2 := HF1.out.ba.cell 2
  have e3 := HF1.out.ba.cell 3
  have g0 := HF1.out.bb.cell 0
  have g1 := HF1.out.bb.cell 1
  have g2 := HF1.out.bb.cell 2
  have g3 := HF1.out.bb.cell 3
  simp only [macC] at e0 e1 e2 e3 g0 g1 g2 g3
  go_wp2_with fail
  clear e0 e1 e2 e3 g0 g1 g2 g3
  refine (small_any (HM'.out.keep0 HF1.out.fr) HS'.out).mono ?_
  rintro _ w2 ⟨rfl, f2⟩
  have HF2 := Lib.hid (HF1.out.call f2)
  clear f2 HF1
  by_cases hsb : A.small b = true
  case neg =>
    rw [show A.small b = false by simpa using hsb]
    clear hsa hsb
    go_wp2_with fail
    refine (awake_any _).mono ?_
    rintro _ w3 ⟨rfl, f3⟩
    have HF3 := Lib.hid (HF2.out.call f3)
    clear f3 HF2
    go_wp2_with fail
    go_ret
    exact ⟨rfl, HF3.out.fr⟩
  rw [hsb]
  have HRM := Lib.hid (A.small_room hsa hsb)
  have HLA : Hid (a.next.length ≤ 8000) := show _ ≤ _ by have := A.small_len hsa; omega
  have HLB : Hid (b.next.length ≤ 8000) := show _ ≤ _ by have := A.small_len hsb; omega
  clear hsa hsb
  by_cases hbig : 1000 < pl.length
  · have hbig' : (1000 : Int) < (pl.length : Int) := by omega
    go_wp2_with fail
    refine (awake_any _).mono ?_
    rintro _ w3 ⟨rfl, f3⟩
    have HF3 := Lib.hid (HF2.out.call f3)
    clear f3 HF2
    go_wp2_with fail
    go_ret
    exact ⟨rfl, HF3.out.fr⟩
  have hbig' : ¬ (1000 : Int) < (pl.length : Int) := by omega
  have e0 := HF2.out.ba.cell 0
  have e1 := HF2.out.ba.cell 1
  have e2 := HF2.out.ba.cell 2
  have e3 := HF2.out.ba.cell 3
  have g0 := HF2.out.bb.cell 0
  have g1 := HF2.out.bb.cell 1
  have g2 := HF2.out.bb.cell 2
  have g3 := HF2.out.bb.cell 3
  simp only [macC] at e0 e1 e2 e3 g0 g1 g2 g3
  go_wp2_with fail
  clear e0 e1 e2 e3 g0 g1 g2 g3
  refine (rrelate_any (HM.out.keep0 HF2.out.fr) (HM'.out.keep0 HF2.out.fr) HS.out HS'.out fun _ => HRM.out).mono ?_
  rintro _ w3 ⟨u3, l, c, rfl, hp3, hl3, hr3, f3⟩
  have HF3 := Lib.hid (HF2.out.call f3)
  have HR3 := Lib.hid hr3
  obtain ⟨AQ, cq, rfl, -⟩ := id hp3
  have HP3 := Lib.hid hp3
  clear f3 HF2 hp3 hr3
  have e0 := HF3.out.ba.cell 0
  have e1 := HF3.out.ba.cell 1
  have e2 := HF3.out.ba.cell 2
  have e3 := HF3.out.ba.cell 3
  have g0 := HF3.out.bb.cell 0
  have g1 := HF3.out.bb.cell 1
  have g2 := HF3.out.bb.cell 2
  have g3 := HF3.out.bb.cell 3
  simp only [macC] at e0 e1 e2 e3 g0 g1 g2 g3
  go_wp2_with fail
  clear e0 e1 e2 e3 g0 g1 g2 g3
  refine (rcheck_any (HM.out.keep0 HF3.out.fr) (HM'.out.keep0 HF3.out.fr) (HL.out.keep HF3.out.fr fun _ _ => id) HS.out HS'.out (by omega)).mono ?_
  rintro _ w4 ⟨rfl, f4⟩
  have HF4 := Lib.hid (HF3.out.call f4)
  have HP4 := Lib.hid (HP3.out.keep f4 fun _ _ => id)
  clear f4 HF3 HP3
  go_wp2_with fail
  refine wp_region_listI [38, 39, 40, 41, 42, 37, 43, 44, 10, 11] [vV (.agg #[.int .i64 a.letters, .int .i64 a.start, .slice A1 a.next.length c1, .slice A2 a.fin.length c2]), fun v w' => MachAt w' (fun b => w4.heap.size ≤ b) v a, vV (.agg #[.int .i64 b.letters, .int .i64 b.start, .slice B1 b.next.length d1, .slice B2 b.fin.length d2]), fun v w' => MachAt w' (fun b => w4.heap.size ≤ b) v b, fun v w' => ∃ u, v = .tuple #[u, .int .i64 c] ∧ Prs2 w' (fun _ => True) u l, fun v w' => ∃ u, v = .tuple #[u, .int .i64 c] ∧ Prs2 w' (fun _ => True) u l, fun v w' => Prs2 w' (fun _ => True) v l, vV (.int .i64 c), fun v w' => Prs2 w' (fun _ => True) v l, vV (.int .i64 c)] (Frm (fun _ => False)) [] [(3, .pointer (some ⟨w.heap.size, 0, none⟩)), (4, .pointer (some ⟨w.heap.size + 1, 0, none⟩))] (by kernel_rfl) (by kernel_rfl) (by kernel_rfl) (fun _ _ _ => Frm.trans) ?_ (fun _ h => by cases h) (Frm.refl _ _).drew ?_ ?_ ?_
  · intro f hf v w w' h F
    simp only [List.mem_cons, List.not_mem_nil, or_false] at hf
    rcases hf with rfl | rfl | rfl | rfl | rfl | rfl | rfl | rfl | rfl | rfl
    · exact h
    · exact MachAt.keep0 h F
    · exact h
    · exact MachAt.keep0 h F
    · obtain ⟨u, e, hi⟩ := h
      exact ⟨u, e, hi.keep F fun _ _ => id⟩
    · obtain ⟨u, e, hi⟩ := h
      exact ⟨u, e, hi.keep F fun _ _ => id⟩
    · exact Prs2.keep h F fun _ _ => id
    · exact h
    · exact Prs2.keep h F fun _ _ => id
    · exact h
  · intro x hx
    simp only [List.mem_cons, List.not_mem_nil, or_false] at hx
    rcases hx with rfl | rfl <;> exact ⟨by simp, rfl⟩
  · refine ⟨?_, ?_, ?_, ?_, ?_, ?_, ?_, ?_, ?_, ?_, trivial⟩
    · intro Q tm df V hR hu hd
      have u1 : tm[3]?.getD undef = .pointer (some ⟨w.heap.size, 0, none⟩) := hu (3, _) (by simp)
      have hb := hR.blk HF4.out.ba id
      have y0 := hb.cell 0
      have y1 := hb.cell 1
      have y2 := hb.cell 2
      have y3 := hb.cell 3
      simp only [macC] at y0 y1 y2 y3
      clear hu hd hb
      go_simp
      exact ⟨_, rfl, rfl, Frm.refl _ V⟩
    · intro Q tm df V hR hu hd
      have e0 : tm[38]?.getD undef = .agg #[.int .i64 a.letters, .int .i64 a.start, .slice A1 a.next.length c1, .slice A2 a.fin.length c2] := hd 0 (by simp [Region.binds])
      clear hu hd
      go_simp
      refine (copy_any (HM.out.keep0 (HF4.out.fr.trans hR)) HLA.out HCA.out HRA.out).mono ?_
      rintro e w' ⟨r, rfl, m, f⟩
      exact ⟨_, rfl, m.mono fun x hx => Nat.le_trans hR.1 hx, f⟩
    · intro Q tm df V hR hu hd
      have u1 : tm[4]?.getD undef = .pointer (some ⟨w.heap.size + 1, 0, none⟩) := hu (4, _) (by simp)
      have hb := hR.blk HF4.out.bb id
      have y0 := hb.cell 0
      have y1 := hb.cell 1
      have y2 := hb.cell 2
      have y3 := hb.cell 3
      simp only [macC] at y0 y1 y2 y3
      clear hu hd hb
      go_simp
      exact ⟨_, rfl, rfl, Frm.refl _ V⟩
    · intro Q tm df V hR hu hd
      have e0 : tm[40]?.getD undef = .agg #[.int .i64 b.letters, .int .i64 b.start, .slice B1 b.next.length d1, .slice B2 b.fin.length d2] := hd 2 (by simp [Region.binds])
      clear hu hd
      go_simp
      refine (copy_any (HM'.out.keep0 (HF4.out.fr.trans hR)) HLB.out HCB.out HRB.out).mono ?_
      rintro e w' ⟨r, rfl, m, f⟩
      exact ⟨_, rfl, m.mono fun x hx => Nat.le_trans hR.1 hx, f⟩
    · intro Q tm df V hR hu hd
      have m1 : MachAt V (fun b => w4.heap.size ≤ b) (tm[39]?.getD undef) a := hd 1 (by simp [Region.binds])
      have m2 : MachAt V (fun b => w4.heap.size ≤ b) (tm[41]?.getD undef) b := hd 3 (by simp [Region.binds])
      have HM1 := Lib.hid m1
      have HM2 := Lib.hid m2
      clear hu hd m1 m2
      go_simp
      refine (relate_up HM1.out HM2.out HS.out HS'.out fun _ => HRM.out).mono ?_
      rintro e w' ⟨u, l', c', rfl, hp, _, hr, f⟩
      obtain ⟨rfl, rfl⟩ := HR3.out.uniq hr
      exact ⟨_, rfl, ⟨u, rfl, hp⟩, f⟩
    · intro Q tm df V hR hu hd
      obtain ⟨u, e0, hi⟩ : ∃ u, (tm[42]?.getD undef) = .tuple #[u, .int .i64 c] ∧ Prs2 V (fun _ => True) u l := hd 4 (by simp [Region.binds])
      have HI1 := Lib.hid hi
      clear hu hd hi
      go_simp
      exact ⟨_, rfl, ⟨u, rfl, HI1.out⟩, Frm.refl _ V⟩
    · intro Q tm df V hR hu hd
      obtain ⟨u, e0, hi⟩ : ∃ u, (tm[37]?.getD undef) = .tuple #[u, .int .i64 c] ∧ Prs2 V (fun _ => True) u l := hd 5 (by simp [Region.binds])
      have HI1 := Lib.hid hi
      clear hu hd hi
      go_simp
      exact ⟨_, rfl, HI1.out, Frm.refl _ V⟩
    · intro Q tm df V hR hu hd
      obtain ⟨u, e0, hi⟩ : ∃ u, (tm[37]?.getD undef) = .tuple #[u, .int .i64 c] ∧ Prs2 V (fun _ => True) u l := hd 5 (by simp [Region.binds])
      clear hu hd hi
      go_simp
      exact ⟨_, rfl, rfl, Frm.refl _ V⟩
    · intro Q tm df V hR hu hd
      have hi : Prs2 V (fun _ => True) (tm[43]?.getD undef) l := hd 6 (by simp [Region.binds])
      have HI1 := Lib.hid hi
      clear hu hd hi
      go_simp
      exact ⟨_, rfl, HI1.out, Frm.refl _ V⟩
    · intro Q tm df V hR hu hd
      have e0 : tm[44]?.getD undef = .int .i64 c := hd 7 (by simp [Region.binds])
      clear hu hd
      go_simp
      exact ⟨_, rfl, rfl, Frm.refl _ V⟩
  · intro vs V hR hf
    have h8 : Prs2 V (fun _ => True) (vs 8) l := hf 8 (by decide)
    have e9 : vs 9 = .int .i64 c := hf 9 (by decide)
    clear hf
    obtain ⟨AR, cr, e8, h8c⟩ := id h8
    simp only [putAll, List.size_toArray, List.length_cons, List.length_nil, Nat.zero_add, Nat.reduceAdd, show List.range 10 = [0, 1, 2, 3, 4, 5, 6, 7, 8, 9] from rfl, List.foldl_cons, List.foldl_nil, List.getD_cons_zero, List.getD_cons_succ, List.setIfInBounds_toArray, List.set_cons_zero, List.set_cons_succ, e8, e9]
    obtain ⟨AQ', cq', eq', h7c⟩ := HP4.out.keep hR fun _ _ => id
    injection eq' with eq1 eq2 eq3
    subst eq1 eq3
    have H8 := Lib.hid h8c
    have H7 := Lib.hid h7c
    have HF5 := Lib.hid (HF4.out.call hR)
    have HCK : Hid (∃ ck, ck = A.check a b pl) := ⟨_, rfl⟩
    have hcc : (c != c) = false := by simp
    have hl5 : l.length ≤ 20000 := hl3
    clear h8 h8c h7c e8 e9 hR eq2 HF4 HP4 HCK
    go_wp2_with fail
    go_loopg [12] (l.length + 1) (fun n u12 wr => ∃ i : Nat, i ≤ l.length ∧ n = l.length + 1 - i ∧ u12 = .int .i64 (i : Int) ∧ Hid (Frm (fun _ => False) V wr))
    case atStart => exact ⟨0, Nat.zero_le _, rfl, rfl, Frm.refl _ _⟩
    case round =>
      obtain ⟨i, hi, rfl, rfl, HFR⟩ := hrel
      by_cases hlt : i < l.length
      · have hlt' : (i : Int) < (l.length : Int) := by omega
        obtain ⟨g8, o8, rfl, _, a1, a2⟩ := H8.out i hlt
        obtain ⟨g7, o7, rfl, _, b1, b2⟩ := H7.out i hlt
        obtain ⟨⟨p1, p2⟩, hp⟩ : ∃ q, q = l[i] := ⟨_, rfl⟩
        rw [← hp] at a1 a2 b1 b2
        dsimp only at a1 a2 b1 b2
        have A1' := HFR.out.cell id a1
        have A2' := HFR.out.cell id a2
        have B1' := HFR.out.cell id b1
        have B2' := HFR.out.cell id b2
        clear a1 a2 b1 b2 hp
        go_wp2_with fail
        go_quiet (fail)
        have HF2 := Lib.hid (HFR.out.drewN nq)
        go_wp2_with fail
        go_roundg (l.length + 1 - (i + 1))
        case measure => omega
        case rel => exact ⟨i + 1, by omega, rfl, by go_num, HF2⟩
      · have hlt' : ¬ (i : Int) < (l.length : Int) := by omega
        have HF6 := Lib.hid (HF5.out.call HFR.out)
        clear HF5 HFR
        go_wp2_with fail
        obtain ⟨ck, hck⟩ : ∃ ck, ck = A.check a b pl := ⟨_, rfl⟩
        rw [← hck]
        have HCK := Lib.hid hck
        clear hck
        obtain ⟨w6, hw6⟩ : ∃ w6, w6 = wr := ⟨_, rfl⟩
        subst hw6
        refine wp_region_listI [70, 71, 72, 73, 74, 75, 76, 77, 78, 79, 80, 81, 82, 6] [vV (.agg #[.int .i64 a.letters, .int .i64 a.start, .slice A1 a.next.length c1, .slice A2 a.fin.length c2]), fun v w' => MachAt w' (fun b => w6.heap.size ≤ b) v a, vV (.agg #[.int .i64 b.letters, .int .i64 b.start, .slice B1 b.next.length d1, .slice B2 b.fin.length d2]), fun v w' => MachAt w' (fun b => w6.heap.size ≤ b) v b, eB w6.heap.size 40, vV (.slice AP pl.length cp), fun v w' => Prs2 w' (fun _ => True) v pl, vV (.int .i64 ck), vV (.int .i64 ck), vV (.bool true), vV (.bool true), vV (.bool true), vV (.bool true), vV (.bool true)] (Frm (fun _ => False)) [(10, true)] [(3, .pointer (some ⟨w.heap.size, 0, none⟩)), (4, .pointer (some ⟨w.heap.size + 1, 0, none⟩)), (2, .slice AP pl.length cp), (9, .int .i64 ck)] (by kernel_rfl) (by kernel_rfl) (by kernel_rfl) (fun _ _ _ => Frm.trans) ?_ (fun g hg v w' h => by rw [List.mem_singleton.1 hg] at h ⊢; exact h) (Frm.refl _ _).drew ?_ ?_ ?_
        · intro f hf v w w' h F
          simp only [List.mem_cons, List.not_mem_nil, or_false] at hf
          rcases hf with rfl | rfl | rfl | rfl | rfl | rfl | rfl | rfl | rfl | rfl | rfl | rfl | rfl | rfl
          · exact h
          · exact MachAt.keep0 h F
          · exact h
          · exact MachAt.keep0 h F
          · exact eB.q h F
          · exact h
          · exact Prs2.keep h F fun _ _ => id
          · exact h
          · exact h
          · exact h
          · exact h
          · exact h
          · exact h
          · exact h
        · intro x hx
          simp only [List.mem_cons, List.not_mem_nil, or_false] at hx
          rcases hx with rfl | rfl | rfl | rfl <;> exact ⟨by simp, rfl⟩
        · refine ⟨?_, ?_, ?_, ?_, ?_, ?_, ?_, ?_, ?_, ?_, ?_, ?_, ?_, ?_, trivial⟩
          · intro Q tm df V hR hu hd
            have u1 : tm[3]?.getD undef = .pointer (some ⟨w.heap.size, 0, none⟩) := hu (3, _) (by simp)
            have hb := hR.blk HF6.out.ba id
            have y0 := hb.cell 0
            have y1 := hb.cell 1
            have y2 := hb.cell 2
            have y3 := hb.cell 3
            simp only [macC] at y0 y1 y2 y3
            clear hu hd hb
            go_simp
            exact ⟨_, rfl, rfl, Frm.refl _ V⟩
          · intro Q tm df V hR hu hd
            have e0 : tm[70]?.getD undef = .agg #[.int .i64 a.letters, .int .i64 a.start, .slice A1 a.next.length c1, .slice A2 a.fin.length c2] := hd 0 (by simp [Region.binds])
            clear hu hd
            go_simp
            refine (copy_any (HM.out.keep0 (HF6.out.fr.trans hR)) HLA.out HCA.out HRA.out).mono ?_
            rintro e w' ⟨r, rfl, m, f⟩
            exact ⟨_, rfl, m.mono fun x hx => Nat.le_trans hR.1 hx, f⟩
          · intro Q tm df V hR hu hd
            have u1 : tm[4]?.getD undef = .pointer (some ⟨w.heap.size + 1, 0, none⟩) := hu (4, _) (by simp)
            have hb := hR.blk HF6.out.bb id
            have y0 := hb.cell 0
            have y1 := hb.cell 1
            have y2 := hb.cell 2
            have y3 := hb.cell 3
            simp only [macC] at y0 y1 y2 y3
            clear hu hd hb
            go_simp
            exact ⟨_, rfl, rfl, Frm.refl _ V⟩
          · intro Q tm df V hR hu hd
            have e0 : tm[72]?.getD undef = .agg #[.int .i64 b.letters, .int .i64 b.start, .slice B1 b.next.length d1, .slice B2 b.fin.length d2] := hd 2 (by simp [Region.binds])
            clear hu hd
            go_simp
            refine (copy_any (HM'.out.keep0 (HF6.out.fr.trans hR)) HLB.out HCB.out HRB.out).mono ?_
            rintro e w' ⟨r, rfl, m, f⟩
            exact ⟨_, rfl, m.mono fun x hx => Nat.le_trans hR.1 hx, f⟩
          · intro Q tm df V hR hu hd
            clear hu hd
            go_simp
            exact ⟨_, rfl, ⟨V.heap.size, rfl, hR.1, Blk.new _ _ _⟩, (Frm.refl _ V).alloc _⟩
          · intro Q tm df V hR hu hd
            have u1 : tm[2]?.getD undef = .slice AP pl.length cp := hu (2, _) (by simp)
            clear hu hd
            go_simp
            exact ⟨_, rfl, rfl, Frm.refl _ V⟩
          · intro Q tm df V hR hu hd
            obtain ⟨b', e0, hb1, hb2⟩ : eB w6.heap.size 40 (tm[74]?.getD undef) V := hd 4 (by simp [Region.binds])
            have e1 : tm[75]?.getD undef = .slice AP pl.length cp := hd 5 (by simp [Region.binds])
            obtain ⟨i0, hi0, hz0, hz1, hz2⟩ := info_parts info_pair_
            refine wp_app_emptyN (.tmp 74) (.tmp 75) rfl Try.underlying35 hi0 hz0 hz1 hz2 (by simpa [Act.eval] using e0) (by simpa [Act.eval] using e1) hb2 (prs_src (HL.out.keep (HF6.out.fr.trans hR) fun _ _ => id)) (by omega) (by omega) fun v' w' g' c' cs' e' F hb' hc' => ?_
            subst e'
            exact ⟨_, rfl, prs_of_blk rfl hb' hc', F⟩
          · intro Q tm df V hR hu hd
            have m1 : MachAt V (fun b => w6.heap.size ≤ b) (tm[71]?.getD undef) a := hd 1 (by simp [Region.binds])
            have m2 : MachAt V (fun b => w6.heap.size ≤ b) (tm[73]?.getD undef) b := hd 3 (by simp [Region.binds])
            have m3 : Prs2 V (fun _ => True) (tm[76]?.getD undef) pl := hd 6 (by simp [Region.binds])
            have HM1 := Lib.hid m1
            have HM2 := Lib.hid m2
            have HM3 := Lib.hid m3
            clear hu hd m1 m2 m3
            go_simp
            refine (check_any HM1.out HM2.out HM3.out HS.out HS'.out HPM.out).mono ?_
            rintro e w' ⟨rfl, f⟩
            exact ⟨_, rfl, by rw [HCK.out]; rfl, f⟩
          · intro Q tm df V hR hu hd
            have u1 : tm[9]?.getD undef = .int .i64 ck := hu (9, _) (by simp)
            clear hu hd
            go_simp
            exact ⟨_, rfl, rfl, Frm.refl _ V⟩
          · intro Q tm df V hR hu hd
            have e0 : tm[77]?.getD undef = .int .i64 ck := hd 7 (by simp [Region.binds])
            have e1 : tm[78]?.getD undef = .int .i64 ck := hd 8 (by simp [Region.binds])
            have hcc2 : (ck == ck) = true := by simp
            clear hu hd
            go_simp
            exact ⟨_, rfl, rfl, Frm.refl _ V⟩
          · intro Q tm df V hR hu hd
            have e0 : tm[79]?.getD undef = .bool true := hd 9 (by simp [Region.binds])
            clear hu hd
            go_simp
            exact ⟨_, rfl, rfl, Frm.refl _ V⟩
          · intro Q tm df V hR hu hd
            clear hu hd
            go_simp
            refine (awake_any _).mono ?_
            rintro e w' ⟨rfl, f⟩
            exact ⟨_, rfl, rfl, f⟩
          · intro Q tm df V hR hu hd
            have e0 : tm[80]?.getD undef = .bool true := hd 10 (by simp [Region.binds])
            have e1 : tm[81]?.getD undef = .bool true := hd 11 (by simp [Region.binds])
            clear hu hd
            go_simp
            exact ⟨_, rfl, rfl, Frm.refl _ V⟩
          · intro Q tm df V hR hu hd
            have e0 : tm[82]?.getD undef = .bool true := hd 12 (by simp [Region.binds])
            clear hu hd
            go_simp
            exact ⟨_, rfl, rfl, Frm.refl _ V⟩
        · intro vs V hR hf
          have e13 : vs 13 = .bool true := hf 13 (by decide)
          clear hf
          simp only [putAll, List.size_toArray, List.length_cons, List.length_nil, Nat.zero_add, Nat.reduceAdd, show List.range 14 = [0, 1, 2, 3, 4, 5, 6, 7, 8, 9, 10, 11, 12, 13] from rfl, List.foldl_cons, List.foldl_nil, List.getD_cons_zero, List.getD_cons_succ, List.setIfInBounds_toArray, List.set_cons_zero, List.set_cons_succ, e13]
          have HFV : Hid (Frm (fun _ => False) w V) := HF6.out.fr.trans hR
          clear e13 hR
          go_wp2_with fail
          go_ret
          exact ⟨rfl, HFV.out⟩
end Go.Proofs.Ytiekaicbjinbaaa
end
section
namespace Go.Proofs.Ytiekaicbjinbaaa.RelatesP
open Go.ChangeShapes Go.WideShapes Go.ChangeAt Go.RowKit
theorem own : ownKnob Try.prog.godebug = none := by kernel_rfl
theorem laidOut : laidOutB Try.prog = true := by kernel_rfl
theorem kept {w w' : World} (h : Frm (fun _ => False) w w') (may : MemPlace → Prop) : w.keptBut w' may := by
  refine ⟨h.3.1, h.3.2, fun i hi => ?_⟩
  rw [h.2 i hi id]
  split <;> simp_all
/-- An argument reads behind the call as it did. -/
theorem stays {H : Type} {enc : TypeId × Value → H} {t : TypeId} (hr : Try.prog.readableRec t = true) (hrow : t < Try.prog.types.size) {W W' : World} {v : Value} {d : DataW H} {ps : List MemPlace}
    (h : DataW.Trod enc Try.prog W 0 (fun _ => true) true t v d ps) (F : Frm (fun _ => False) W W') (hlt : ∀ x ∈ ps, x.block < W.heap.size) : DataW.Trod enc Try.prog W' 0 (fun b => decide (b < W.heap.size)) true t v d ps :=
  WideElems.Trod_stays laidOut hr hrow h (fun x hx => by
    have h1 := F.2 x.block (hlt x hx) id
    cases x with
    | cell b off => exact World.cell?_of_block (w := W) (w' := W') (a := ⟨b, off, none⟩) h1
    | map b => exact h1) fun x hx => by simpa using hlt x hx
set_option maxRecDepth 100000 in
theorem lifted (os : Os) (started : os.Started) (H : Type) (enc : TypeId × Value → H) :
    ReturnsInHanded {} Try.checked os 4 .any (Rows.autoRelatesSpec.pre6 enc Try.prog Try.f4 Rows.autoRelatesRow.domain false) (Rows.autoRelatesSpec.post enc Try.prog Try.f4 false true false false) := by
  refine returnsInHanded_of_change_sized (C := Try.checked) own started (by kernel_rfl) Try.func4
    (ChangeSpec.witness6 (enc := enc) (C := Try.checked) false ⟨#[], #[.agg #[.int .i64 0, .int .i64 0, .slice none 0 0, .slice none 0 0], .agg #[.int .i64 0, .int .i64 0, .slice none 0 0, .slice none 0 0], .slice none 0 0], []⟩ 8 (by kernel_rfl) (by kernel_rfl) (by kernel_rfl) (by kernel_rfl)) ?_
  intro W base args ds gs before hval0 hW hcnd hsz0 _
  have hval : ∀ (j : Nat) t v, Try.f4.params[j]? = some t → args[j]? = some v → Value.okWide Try.prog W .any base t v := hval0
  have hW' := hW
  obtain ⟨p, q, hA0, hV, rfl, hfz, hnd⟩ := hW
  have hA : DataW.TrodAll enc Try.prog W 0 (fun _ => true) true Try.f4.params.toList args.toList ds p := hA0
  have hsz : (DataW.weightsEach Try.prog (Try.f4.params.toList ++ Rows.autoRelatesSpec.plain.varTypes Try.prog) (ds ++ gs)).all (· ≤ reachBytes) = true := hsz0
  rw [Try.params4] at hA hval hsz
  obtain ⟨v0, vs0, d0, ds0, p0, q0, hargs, rfl, rfl, h0, r0⟩ := trodAll_cons hA
  obtain ⟨v1, vs1, d1, ds1, p1, q1, rfl, rfl, rfl, h1, r1⟩ := trodAll_cons r0
  obtain ⟨v2, vs2, d2, ds2, p2, q2, rfl, rfl, rfl, h2, r2⟩ := trodAll_cons r1
  obtain ⟨rfl, rfl, rfl⟩ := trodAll_nil r2
  obtain rfl : args = #[v0, v1, v2] := by cases args; simp_all
  obtain ⟨rfl, rfl⟩ := trodVars_none hV
  clear hA0 hval0
  simp only [List.append_nil] at hW'
  have hlt : ∀ x ∈ p0 ++ (p1 ++ p2), x.block < W.heap.size := fun x hx => hW'.lt x (by simpa using hx)
  have light : ∀ (j : Nat) (t : TypeId) (d : DataW H), [25, 25, 35][j]? = some t → [d0, d1, d2][j]? = some d → Light t d := fun j t d ht hd n hn => by
    have := List.all_eq_true.1 hsz n (DataW.weights_mem_each (j := j) (t := t) (d := d) (by
      match j, ht with
      | 0, ht => exact ht
      | 1, ht => exact ht
      | 2, ht => exact ht) (by
      match j, hd with
      | 0, hd => exact hd
      | 1, hd => exact hd
      | 2, hd => exact hd) n hn)
    simpa using this
  obtain ⟨m, ma, sa, sf, sr⟩ := mach_light (hval 0 25 v0 rfl rfl) h0 (light 0 _ _ rfl rfl)
  obtain ⟨m', ma', sa', sf', sr'⟩ := mach_light (hval 1 25 v1 rfl rfl) h1 (light 1 _ _ rfl rfl)
  obtain ⟨pl, hpl, hpm⟩ : ∃ l, Prs2 W (fun _ => True) v2 l ∧ l.length ≤ maxLen := by
    obtain ⟨A3, n3, c3, rfl⟩ := okWide_slice Try.underlying35 (hval 2 35 v2 rfl rfl)
    obtain ⟨f3, hf3⟩ := h2
    exact pairs_of hf3
  refine (relates_law hpl hpm ma ma' sa sa' sf sr sf' sr').mono fun e W' ⟨he, F⟩ => ?_
  subst he
  exact ⟨_, rfl, _, _, _, _, _, _, hW', trodAll_cons_mk (shut_bool Try.underlying4 _) trodAll_mk0, trodAll_cons_mk (stays (by kernel_rfl) (of_decide_eq_true (by kernel_rfl)) h0 F fun x hx => hlt x (by simp [hx])) (trodAll_cons_mk (stays (by kernel_rfl) (of_decide_eq_true (by kernel_rfl)) h1 F fun x hx => hlt x (by simp [hx])) (trodAll_cons_mk (stays (by kernel_rfl) (of_decide_eq_true (by kernel_rfl)) h2 F fun x hx => hlt x (by simp [hx])) trodAll_mk0)), rfl, kept F _, fun h => by cases h⟩
theorem proved : Rows.AutoRelatesSaid :=
  OpenClaim.holds_of_wide 4 Try.f4 rfl rfl rfl rfl rfl rfl rfl ⟨rfl, rfl, rfl, rfl, rfl⟩ rfl rfl rfl rfl rfl (by kernel_rfl) Try.func4 (by kernel_rfl)
    (of_decide_eq_true (by kernel_rfl)) (by unfold Func.isWrapper; first | (rw [if_pos (by decide +kernel)]; kernel_rfl) | (rw [if_neg (by decide +kernel)]; exact ⟨rfl, rfl⟩))
    (fun os started H enc _ => lifted os started H enc)
end Go.Proofs.Ytiekaicbjinbaaa.RelatesP
namespace Go.Proofs.Ytiekaicbjinbaaa
/-- AutoRelates. -/
theorem autoRelates_holds : Rows.AutoRelatesSaid := RelatesP.proved
end Go.Proofs.Ytiekaicbjinbaaa
end
