/- together's other closure: where a letter leads a pair, counted. Search at pairs, as Both and Either ask for it. together: Both and Either. Both and Either. The reference's shaped, Valid, step, ends, Accepts. The reference's Valid, step, ends. Contracts of the program's functions, with no condition beyond what each theorem states. -/
import Derived.Test.YtldmjpnldgekaaaC08
import Derived.Test.YtldmjpnldgekaaaC09
import Derived.Test.YtldmjpnldgekaaaC05
import Derived.Test.YtldmjpnldgekaaaC07
import Derived.Test.YtldmjpnldgekaaaC02
section
namespace Go.Proofs.Ytldmjpnldgekaaa
open Go.RowKit
/-- A least one of two machines' pairs, as the closures see it: the boxes of the two machines, of the rule, and of the counting function. -/
structure TgAt (w : World) (T : Bool → Bool → Bool) (tf ab bb tb cb : Nat) (x y : A.Mac) (A1 : Option Addr) (c1 : Nat) (A2 : Option Addr) (c2 : Nat) (B1 : Option Addr) (d1 : Nat) (B2 : Option Addr) (d2 : Nat) : Prop where
  ba : Blk w ab 25 (macC x A1 c1 A2 c2)
  bb : Blk w bb 25 (macC y B1 d1 B2 d2)
  bt : Blk w tb 50 #[.func (.func tf) #[] #[]]
  bc : Blk w cb 73 #[.func (.func 48) #[] #[.pointer (some ⟨tb, 0, none⟩)]]
  mx : MachAt w (fun b => b < w.heap.size) (macV x A1 c1 A2 c2) x
  my : MachAt w (fun b => b < w.heap.size) (macV y B1 d1 B2 d2) y
section
variable {w w' : World} {T : Bool → Bool → Bool} {tf ab bb tb cb : Nat} {x y : A.Mac} {A1 A2 B1 B2 : Option Addr} {c1 c2 d1 d2 : Nat}
/-- What lies behind all of it may change. -/
theorem TgAt.frm {E : Nat → Prop} (h : TgAt w T tf ab bb tb cb x y A1 c1 A2 c2 B1 d1 B2 d2) (F : Frm E w w') (hE : ∀ b, b < w.heap.size → ¬ E b) : TgAt w' T tf ab bb tb cb x y A1 c1 A2 c2 B1 d1 B2 d2 :=
  ⟨F.blk h.ba (hE _ h.ba.lt), F.blk h.bb (hE _ h.bb.lt), F.blk h.bt (hE _ h.bt.lt), F.blk h.bc (hE _ h.bc.lt), (h.mx.keep F fun b hb => hE b hb).below, (h.my.keep F fun b hb => hE b hb).below⟩
set_option maxRecDepth 100000 in
set_option maxHeartbeats 4000000 in
theorem tog2_any (hc : Tells T tf) (h : TgAt w T tf ab bb tb cb x y A1 c1 A2 c2 B1 d1 B2 d2) (ht : A.Two x y) (p : A.Pr) (k : Int) (hp : A.InP x y p) (h0 : 0 ≤ k) (hk : k < x.letters) :
    Calls Try.prog 49 #[pairV p, .int .i64 k, .pointer (some ⟨cb, 0, none⟩), .pointer (some ⟨ab, 0, none⟩), .pointer (some ⟨bb, 0, none⟩)] w fun e w' => e = .returned (pairV (A.cnt T (A.leadP x y p k))) ∧ Frm (fun _ => False) w w' := by
  obtain ⟨p1, p2⟩ := p
  obtain ⟨W0, hW0⟩ : ∃ W0, W0 = (w.alloc (.cells #[.int .i64 p1, .int .i64 p2] 57)).alloc (.cells #[.int .i64 0, .int .i64 0] 57) := ⟨_, rfl⟩
  have HF0 : Hid (Frm (fun _ => False) w W0) := by rw [hW0]; exact ((Frm.refl _ w).alloc _).alloc _
  have HP : Hid (Blk W0 w.heap.size 57 #[.int .i64 p1, .int .i64 p2]) := by rw [hW0]; exact (Blk.new w _ _).alloc _
  have HR : Hid (Blk W0 (w.heap.size + 1) 57 #[.int .i64 0, .int .i64 0]) := by rw [hW0]; exact blk_at (by simp)
  have HG := Lib.hid h
  have HC := Lib.hid hc
  have HT := Lib.hid ht
  have HIN := Lib.hid hp
  obtain ⟨q, hq⟩ : ∃ q, q = A.leadP x y (p1, p2) k := ⟨_, rfl⟩
  obtain ⟨r, hr⟩ : ∃ r, r = A.cnt T q := ⟨_, rfl⟩
  have HQ := Lib.hid hq
  have HRR := Lib.hid hr
  rw [← hq, ← hr]
  obtain ⟨r1, r2⟩ := r
  clear h hc ht hp hq hr
  simp only [pairV]
  go_enter Try.func49, Try.ntmps49
  go_wp2_with fail
  rw [← hW0]
  have HFX : Hid (∀ {V : World}, Frm (fun b => b = w.heap.size + 1) W0 V → Frm (fun _ => False) w V) := fun F => ((HF0.out.mono fun _ _ h => h.elim).trans F).mono fun b hb h => by omega
  have HGX : Hid (∀ {V : World}, Frm (fun b => b = w.heap.size + 1) W0 V → TgAt V T tf ab bb tb cb x y A1 c1 A2 c2 B1 d1 B2 d2) := fun F => HG.out.frm (HFX.out F) fun _ _ => id
  clear hW0
  refine wp_region_depI [8, 9, 10, 11, 12, 13, 14, 1000] [[0], [1], [2], [3], [4], [5], [6], []]
    [f1 (vV (.func (.func 48) #[] #[.pointer (some ⟨tb, 0, none⟩)])), f1 (vV (macV x A1 c1 A2 c2)), f1 (vV (macV y B1 d1 B2 d2)), f1 (vV (pairV (p1, p2))), f1 (vV (.int .i64 k)), f1 (vV (pairV q)), f1 (vV (pairV (r1, r2))), fun _ V => Blk V (w.heap.size + 1) 57 #[.int .i64 r1, .int .i64 r2]]
    (Frm (fun b => b = w.heap.size + 1)) (fun i => if i = 7 then Frm (fun b => b = w.heap.size + 1) else Frm (fun _ => False)) (fun i V => i = 7 → Blk V (w.heap.size + 1) 57 #[.int .i64 0, .int .i64 0]) [] [(1, .int .i64 k), (2, .pointer (some ⟨cb, 0, none⟩)), (3, .pointer (some ⟨ab, 0, none⟩)), (4, .pointer (some ⟨bb, 0, none⟩)), (5, .pointer (some ⟨w.heap.size, 0, none⟩)), (7, .pointer (some ⟨w.heap.size + 1, 0, none⟩))] (by kernel_rfl) (by kernel_rfl) (by kernel_rfl) (fun _ _ _ => Frm.trans) ?_ ?_ ?_ ?_ (fun _ h => by cases h) (Frm.refl _ _).drew ?_ ?_ ?_
  · intro i a b h
    split at h
    · exact h
    · exact h.mono fun _ _ h => h.elim
  · intro j i hj hi hne hna l a b hf hr
    have hj' : j < 8 := hj
    have hcs : j = 0 ∨ j = 1 ∨ j = 2 ∨ j = 3 ∨ j = 4 ∨ j = 5 ∨ j = 6 ∨ j = 7 := by omega
    rcases hcs with rfl | rfl | rfl | rfl | rfl | rfl | rfl | rfl
    · exact hf
    · exact hf
    · exact hf
    · exact hf
    · exact hf
    · exact hf
    · exact hf
    · rw [if_neg hne] at hr
      exact Frm.blk hr hf id
  · intro i k hk hne _ a b h hr e
    subst e
    rw [if_neg (Ne.symm hne)] at hr
    exact hr.blk (h rfl) id
  · intro i e
    exact HR.out.drew
  · intro x hx
    simp only [List.mem_cons, List.not_mem_nil, or_false] at hx
    rcases hx with rfl | rfl | rfl | rfl | rfl | rfl <;> exact ⟨by simp, rfl⟩
  · refine ⟨?_, ?_, ?_, ?_, ?_, ?_, ?_, ?_, trivial⟩
    · intro Q tm df V hR _ hu hd
      have u1 : tm[2]?.getD undef = .pointer (some ⟨cb, 0, none⟩) := hu (2, _) (by simp)
      have y0 := (HGX.out hR).bc.cell 0
      clear hu hd
      go_simp
      exact ⟨_, rfl, rfl, Frm.refl _ V⟩
    · intro Q tm df V hR _ hu hd
      have u1 : tm[3]?.getD undef = .pointer (some ⟨ab, 0, none⟩) := hu (3, _) (by simp)
      have y0 := (HGX.out hR).ba.cell 0
      have y1 := (HGX.out hR).ba.cell 1
      have y2 := (HGX.out hR).ba.cell 2
      have y3 := (HGX.out hR).ba.cell 3
      simp only [macC] at y0 y1 y2 y3
      clear hu hd
      go_simp
      exact ⟨_, rfl, rfl, Frm.refl _ V⟩
    · intro Q tm df V hR _ hu hd
      have u1 : tm[4]?.getD undef = .pointer (some ⟨bb, 0, none⟩) := hu (4, _) (by simp)
      have y0 := (HGX.out hR).bb.cell 0
      have y1 := (HGX.out hR).bb.cell 1
      have y2 := (HGX.out hR).bb.cell 2
      have y3 := (HGX.out hR).bb.cell 3
      simp only [macC] at y0 y1 y2 y3
      clear hu hd
      go_simp
      exact ⟨_, rfl, rfl, Frm.refl _ V⟩
    · intro Q tm df V hR _ hu hd
      have u1 : tm[5]?.getD undef = .pointer (some ⟨w.heap.size, 0, none⟩) := hu (5, _) (by simp)
      have hb := hR.blk HP.out (by omega)
      have y0 := hb.cell 0
      have y1 := hb.cell 1
      clear hu hd hb
      go_simp
      exact ⟨_, rfl, rfl, Frm.refl _ V⟩
    · intro Q tm df V hR _ hu hd
      have u1 : tm[1]?.getD undef = .int .i64 k := hu (1, _) (by simp)
      clear hu hd
      go_simp
      exact ⟨_, rfl, rfl, Frm.refl _ V⟩
    · intro Q tm df V hR _ hu hd
      have e0 : tm[9]?.getD undef = macV x A1 c1 A2 c2 := hd 1 (by simp [Region.binds])
      have e1 : tm[10]?.getD undef = macV y B1 d1 B2 d2 := hd 2 (by simp [Region.binds])
      have e2 : tm[11]?.getD undef = pairV (p1, p2) := hd 3 (by simp [Region.binds])
      have e3 : tm[12]?.getD undef = .int .i64 k := hd 4 (by simp [Region.binds])
      have HV := Lib.hid (HGX.out hR)
      clear hu hd hR
      go_simp
      refine (leadPair_any HV.out.mx HV.out.my HT.out (p1, p2) k HIN.out h0 hk).mono ?_
      rintro e w' ⟨rfl, f⟩
      rw [← HQ.out]
      exact ⟨_, rfl, rfl, f⟩
    · intro Q tm df V hR _ hu hd
      have e0 : tm[8]?.getD undef = .func (.func 48) #[] #[.pointer (some ⟨tb, 0, none⟩)] := hd 0 (by simp [Region.binds])
      have e1 : tm[13]?.getD undef = pairV q := hd 5 (by simp [Region.binds])
      have HV := Lib.hid (HGX.out hR)
      clear hu hd hR
      go_simp
      refine (tog1_any HC.out HV.out.bt q).mono ?_
      rintro e w' ⟨rfl, f⟩
      rw [← HRR.out]
      exact ⟨_, rfl, rfl, f⟩
    · intro Q tm df V hR hS hu hd
      have u1 : tm[7]?.getD undef = .pointer (some ⟨w.heap.size + 1, 0, none⟩) := hu (7, _) (by simp)
      have e1 : tm[14]?.getD undef = pairV (r1, r2) := hd 6 (by simp [Region.binds])
      have hb := hS rfl
      have y0 := hb.cell 0
      have y1 := hb.cell 1
      have z0 := hb.frozen 0
      have z1 := hb.frozen 1
      have hB := (hb.set_ 0 (.int .i64 r1)).set_ 1 (.int .i64 r2)
      have hF := Frm.set2 (w := V) (w.heap.size + 1) (.int .i64 r1) (.int .i64 r2)
      have HB := Lib.hid hB
      have HFF := Lib.hid hF
      clear hu hd hS hb hB hF
      simp only [pairV] at e1
      go_simp
      exact ⟨HB.out, HFF.out⟩
  · intro vs V hR hf
    have HB : Hid (Blk V (w.heap.size + 1) 57 #[.int .i64 r1, .int .i64 r2]) := hf 7 (by decide)
    clear hf
    have HF := Lib.hid (HFX.out hR)
    clear hR
    have y0 := HB.out.cell 0
    have y1 := HB.out.cell 1
    simp only [putAll, List.size_toArray, List.length_cons, List.length_nil, Nat.zero_add, Nat.reduceAdd, show List.range 8 = [0, 1, 2, 3, 4, 5, 6, 7] from rfl, List.foldl_cons, List.foldl_nil, List.getD_cons_zero, List.getD_cons_succ, List.setIfInBounds_toArray, List.set_cons_zero, List.set_cons_succ]
    go_wp2_with fail
    refine bodyPost_ret (v := .agg #[.int .i64 r1, .int .i64 r2]) (by simp [results, Try.results49, go_sem, y0, y1]) rfl ⟨rfl, HF.out⟩
end
end Go.Proofs.Ytldmjpnldgekaaa
end
section
namespace Go.Proofs.Ytldmjpnldgekaaa
open Go.RowKit Go.Maps
set_option maxRecDepth 100000 in
set_option maxHeartbeats 16000000 in
theorem searchJ_any {w : World} {nx : A.Pr → Int → Option A.Pr} {p1 p2 p3 : Value} {f L : Nat} {first none_ : A.Pr} {most : Int} {ts : List A.Pr} {rows : List (List Int)} (hnx : ∀ (x : A.Pr) (k : Int) (y : A.Pr) (W : World), nx x k = some y → Frm (fun _ => False) w W → okP y ∧ Calls Try.prog 49 #[pairV x, .int .i64 k, p1, p2, p3] W fun e w' => e = .returned (pairV y) ∧ Frm (fun _ => False) W w') (hf : okP first) (hn : okP none_) (hL : L ≤ 300) (hfl : f ≤ 100000000) (hmost : most ≤ 1000000) (hs : A.searchO nx f first none_ L most = some (ts, rows)) :
    Calls Try.prog 37 #[pairV first, pairV none_, .int .i64 L, .int .i64 most, .func (.func 49) #[] #[p1, p2, p3]] w fun e w' => ∃ uT uR, e = .returned (.tuple #[uT, uR, .bool true]) ∧ w'.ownsRow w.heap.size 57 2 uT ts.length (ts.flatMap pairC) ∧ Rows2 w' (fun b => w.heap.size ≤ b) uR rows ∧ Frm (fun _ => False) w w' := by
  have HNX := Lib.hid hnx
  have HS := Lib.hid hs
  have HF := Lib.hid hf
  have HN := Lib.hid hn
  have hmm := @run_makeMap Try.prog
  clear hnx hs hf hn
  simp only [pairV]
  go_enter Try.func37, Try.ntmps37
  obtain ⟨W0, hW0⟩ : ∃ W0, W0 = (w.alloc (.cells #[.int .i64 first.1, .int .i64 first.2] 57)).alloc (.cells #[.int .i64 none_.1, .int .i64 none_.2] 57) := ⟨_, rfl⟩
  have hkey0 : keyOf Try.prog 57 (.agg #[.int .i64 none_.1, .int .i64 none_.2]) = some (klP none_) := keyOf_pair HN.out
  have hs00 : W0.heap.size = w.heap.size + 2 := by rw [hW0]; simp
  have F00 : Frm (fun _ => False) w W0 := by rw [hW0]; exact ((Frm.refl _ w).alloc _).alloc _
  have b5 : Blk W0 w.heap.size 57 #[.int .i64 first.1, .int .i64 first.2] := by rw [hW0]; exact (Blk.new w _ _).alloc _
  have hm0 : (W0.alloc (.map #[] 0)).ownsMap (H := Unit) Try.prog 57 (plainElem Try.prog 3) (w.heap.size + 2) 0 (.map []) := by rw [← hs00]; exact World.ownsMap_made _ _ _ _
  have b5m := b5.alloc (.map #[] 0)
  rw [hW0] at hm0 b5m
  go_wp2_with fail
  try go_step3
  go_wp2_with (refine wpList_insert_own _ rfl _ _ _ 94 rfl 57 3 law_pair Try.underlying94 _ (w.heap.size + 2) _ _ rfl hm0 (by decide) _ _ _ rfl rfl hkey0 _ [] (plainElem_int Try.underlying3 (by decide)) ?_; intro w1 hown1 hgrow1; have c5 := ((Blk.grown b5m hgrow1 (by simp)).alloc (.cells #[.map (some (w.heap.size + 1 + 1)), .slice none 0 0] 96)).cell 0; have c6 := ((Blk.grown b5m hgrow1 (by simp)).alloc (.cells #[.map (some (w.heap.size + 1 + 1)), .slice none 0 0] 96)).cell 1)
  have HB5 := Lib.hid (Blk.grown b5m hgrow1 (by simp))
  rw [← hW0] at hgrow1
  have F1 : Frm (fun _ => False) w w1 := (F00.alloc (.map #[] 0)).grown hgrow1 fun g e hlt => by injection e with e; omega
  have hsz1 := hgrow1.size
  rw [World.size_alloc, hs00] at hsz1
  have HFD0 : Hid (FdP (w1.alloc (.cells #[.map (some (w.heap.size + 1 + 1)), .slice none 0 0] 96)) (fun b => w.heap.size ≤ b ∧ b < w1.heap.size + 1) w1.heap.size none_ []) := by
    refine ⟨w.heap.size + 1 + 1, _, _, Blk.new w1 _ _, ownsMap_heap hown1 (Below.heap_alloc w1 _ _ (by omega)), Reads.new klP_key klP_inj HN.out, World.ownsRow_nil _ _ _ _, ⟨by omega, by omega⟩, ⟨by omega, by omega⟩, fun g hg => (by cases hg), by omega⟩
  have HF0 : Hid (Frm (fun _ => False) w (w1.alloc (.cells #[.map (some (w.heap.size + 1 + 1)), .slice none 0 0] 96))) := F1.alloc _
  obtain ⟨fb, hfb⟩ : ∃ fb, fb = w1.heap.size := ⟨_, rfl⟩
  have HSZ1 : Hid (w.heap.size ≤ fb) := show _ ≤ _ by omega
  rw [← hfb] at HFD0 ⊢
  clear F00 b5 b5m F1 hsz1 hs00 hown1 hgrow1 hm0 hmm hkey0 hW0 c5 c6
  refine (numberP_any HFD0.out HF.out (by simp)).mono ?_
  rintro _ w2 ⟨rfl, q2, f2⟩
  have hF2 : Frm (fun _ => False) w w2 := Frm.mono (E := fun b => w.heap.size ≤ b) ((HF0.out.mono fun _ _ h => h.elim).trans (f2.mono fun b _ h => h.1)) fun b hb h => by omega
  have HF2 := Lib.hid hF2
  have HFD2 : Hid (FdP w2 (fun b => w.heap.size ≤ b ∧ b < w2.heap.size) fb none_ (A.numO none_ first []).2) := by
    obtain ⟨mb, v, D, h⟩ := q2
    exact ⟨mb, v, D, h.mono fun b hb hs => ⟨by rcases hs with hs | hs; exact hs.1; exact Nat.le_trans HF0.out.1 hs, hb⟩⟩
  have HSR : Hid (A.srchO nx none_ L most f 0 (A.numO none_ first []).2 [] = some (ts, rows)) := HS
  have HTL2 : Hid ((A.numO none_ first []).2.length ≤ 1000001) := show _ ≤ _ by unfold A.numO; split <;> simp
  generalize (A.numO none_ first []).1 = n1 at *
  generalize (A.numO none_ first []).2 = ts1 at *
  clear q2 f2 hF2 HS HF0 HFD0 hfb
  go_wp2_with fail
  try go_step3
  go_wp2_with fail
  obtain ⟨S0, hS0⟩ : ∃ S0 : Nat → Prop, S0 = fun b => w.heap.size ≤ b ∧ b < w2.heap.size := ⟨_, rfl⟩
  rw [← hS0] at HFD2
  have HSS0 : Hid (∀ b, S0 b → w.heap.size ≤ b ∧ b < w2.heap.size) := by rw [hS0]; exact fun b h => h
  have HRW0 : Hid (RowsOwn w2 w.heap.size L S0 (.slice none 0 0) []) := ⟨[], rfl, World.ownsRow_nil _ _ _ _, fun g hg => (by cases hg), fun i hi => by simp at hi⟩
  clear hS0
  go_loopg [14, 15] f (fun n u i wr => ∃ (at_ : Nat) (tk : List A.Pr) (rk : List (List Int)) (Sk : Nat → Prop), i = .int .i64 (at_ : Int) ∧ at_ + n ≤ f ∧ rk.length = at_ ∧ Hid (at_ ≤ tk.length) ∧ Hid (tk.length ≤ 1000001) ∧ Hid (A.srchO nx none_ L most n at_ tk rk = some (ts, rows)) ∧ Hid (FdP wr Sk fb none_ tk) ∧ Hid (RowsOwn wr w.heap.size L Sk u rk) ∧ Hid (∀ b, Sk b → w.heap.size ≤ b ∧ b < wr.heap.size) ∧ Hid (Frm (fun _ => False) w wr))
  case atStart => exact ⟨0, ts1, [], S0, rfl, by omega, rfl, Nat.zero_le _, HTL2, HSR, HFD2, HRW0, HSS0, HF2⟩
  case round =>
    clear HTL2 HSR HFD2 HRW0 HSS0 HF2
    obtain ⟨at_, tk, rk, Sk, rfl, hat, hrk, HLE, HTL, HSR, HFD, HRW, HSS, HF⟩ := hrel
    obtain ⟨mb, vT, D, hFd⟩ := HFD.out
    obtain ⟨AT, cT, rfl⟩ := own_form hFd.row
    have x1 := hFd.out.cell 1
    have hrow := hFd.row
    have hsr := HSR.out
    unfold A.srchO at hsr
    by_cases hlt : at_ < tk.length
    · rw [dif_pos hlt] at hsr
      have hlt' : (at_ : Int) < (tk.length : Int) := by omega
      cases gk with
      | zero => cases hsr
      | succ n =>
      dsimp only at hsr
      cases hrs : A.rowS nx none_ most (tk[at_]'hlt) (List.range L) tk [] with
      | none => rw [hrs] at hsr; cases hsr
      | some rr =>
      obtain ⟨ts2, row⟩ := rr
      rw [hrs] at hsr
      dsimp only at hsr
      have HS2 := Lib.hid hsr
      obtain ⟨x, hx⟩ : ∃ x, x = tk[at_]'hlt := ⟨_, rfl⟩
      rw [← hx] at hrs
      have HRS : Hid (A.rowS nx none_ most x ((List.range L).drop 0) tk [] = some (ts2, row)) := hrs
      have HXA : Hid (tk[at_]? = some x) := by rw [hx]; exact List.getElem?_eq_getElem hlt
      have hmk := run_make_row' (P := Try.prog) 37 3 (.int .i64 0) 8 Try.underlying37 info_int rfl .i64 .i64 L (by omega) (by omega)
      clear hsr hrs hx hFd hrow HSR
      go_wp2_with fail
      have HXT := Lib.hid hlt
      obtain ⟨rb, hrb⟩ : ∃ rb, rb = wr.heap.size := ⟨_, rfl⟩
      have HB0 : Hid (Blk (wr.alloc (.cells (madeCells #[.int .i64 0] L) 3)) rb 3 (intCs ([] ++ List.replicate (L - 0) 0))) := by
        rw [List.nil_append, Nat.sub_zero, ← intCs_made, hrb]; exact Blk.new wr _ _
      have HFD0 : Hid (FdP (wr.alloc (.cells (madeCells #[.int .i64 0] L) 3)) Sk fb none_ tk) := by
        obtain ⟨a1, a2, a3, a4⟩ := HFD.out
        exact ⟨a1, a2, a3, a4.frm ((Frm.refl (fun _ => False) wr).alloc _) fun _ _ _ h => h⟩
      have HRW0 : Hid (RowsOwn (wr.alloc (.cells (madeCells #[.int .i64 0] L) 3)) w.heap.size L (fun b => Sk b ∨ b = rb) u14 rk) := HRW.out.frm ((Frm.refl (fun _ => False) wr).alloc _) (fun _ _ h => h.elim) fun b hb h => by
        rcases h with h | h
        · exact h
        · omega
      have HSS0 : Hid (∀ b, Sk b → w.heap.size ≤ b ∧ b < (wr.alloc (.cells (madeCells #[.int .i64 0] L) 3)).heap.size) := fun b h => by
        have := HSS.out b h
        simp; omega
      have HNS : Hid (¬ Sk rb) := fun h => by have := HSS.out rb h; omega
      have HRB : Hid (w.heap.size ≤ rb) := show _ ≤ _ by rw [hrb]; exact HF.out.1
      have HF0 : Hid (Frm (fun _ => False) w (wr.alloc (.cells (madeCells #[.int .i64 0] L) 3))) := HF.out.alloc _
      have HUB : Hid (u14.ownBlock ≠ some rb) := fun e => by
        obtain ⟨gs, h1, h2, _⟩ := HRW.out
        have := (World.ownsRow.lt h2 rb e).2
        omega
      rw [← hrb]
      clear hrb HFD HRW HSS HF hmk x1
      generalize (wr.alloc (.cells (madeCells #[.int .i64 0] L) 3)) = wo at *
      clear wr
      go_loopg [38] L (fun n u wr => ∃ (j : Nat) (tj : List A.Pr) (rj : List Int) (Sj : Nat → Prop), u = .int .i64 (j : Int) ∧ j + n = L ∧ Hid (rj.length = j) ∧ Hid (tj.length ≤ 1000001) ∧ Hid (A.rowS nx none_ most x ((List.range L).drop j) tj rj = some (ts2, row)) ∧ Hid (tj[at_]? = some x) ∧ Hid (Blk wr rb 3 (intCs (rj ++ List.replicate (L - j) 0))) ∧ Hid (FdP wr Sj fb none_ tj) ∧ Hid (RowsOwn wr w.heap.size L (fun b => Sj b ∨ b = rb) u14 rk) ∧ Hid (∀ b, Sj b → w.heap.size ≤ b ∧ b < wr.heap.size) ∧ Hid (¬ Sj rb) ∧ Hid (Frm (fun _ => False) w wr))
      case atStart => exact ⟨0, tk, [], Sk, rfl, by omega, rfl, HTL, HRS, HXA, HB0, HFD0, HRW0, HSS0, HNS, HF0⟩
      case round =>
        clear HTL HRS HXA HB0 HFD0 HRW0 HSS0 HNS HF0
        obtain ⟨j, tj, rj, Sj, rfl, hjn, HJL, HTL, HRS, HXA, HB, HFD, HRW, HSS, HNS, HF⟩ := hrel
        obtain ⟨mb2, vT2, D2, hFd⟩ := HFD.out
        obtain ⟨A2, c2, rfl⟩ := own_form hFd.row
        by_cases hj : j < L
        · have hj' : (j : Int) < (L : Int) := by omega
          have hlt2 : at_ < tj.length := by
            obtain ⟨h, _⟩ := List.getElem?_eq_some_iff.1 HXA.out
            exact h
          have hlt3 : (at_ : Int) < (tj.length : Int) := by omega
          have x1 := hFd.out.cell 1
          obtain ⟨g, hA2, hc, hc2⟩ : ∃ g, A2 = some ⟨g, 0, none⟩ ∧ wr.cell? ⟨g, at_ * 2, none⟩ = some (.int .i64 x.1) ∧ wr.cell? ⟨g, at_ * 2 + 1, none⟩ = some (.int .i64 x.2) := by
            rcases hFd.row.2 with ⟨_, hn⟩ | ⟨g, cap, cur, e, hb, _⟩
            · exact absurd hn (by omega)
            · injection e with e1 e2 e3
              subst e1
              have e2 : (ts2_flat tj)[at_ * 2]? = some (.int .i64 x.1) ∧ (ts2_flat tj)[at_ * 2 + 1]? = some (.int .i64 x.2) := flat_at HXA.out
              refine ⟨g, rfl, ?_, ?_⟩
              · have hc := @World.ownsRow.cells _ _ _ _ _ _ _ hFd.row g rfl (at_ * 2) (.int .i64 x.1) e2.1
                rw [add_zero_off] at hc
                exact hc
              · have hc := @World.ownsRow.cells _ _ _ _ _ _ _ hFd.row g rfl (at_ * 2 + 1) (.int .i64 x.2) e2.2
                rw [add_zero_off] at hc
                exact hc
          subst hA2
          have hd : (List.range L).drop j = j :: (List.range L).drop (j + 1) := by
            rw [List.drop_eq_getElem_cons (by simp; omega)]; simp
          have hrs := HRS.out
          rw [hd] at hrs
          unfold A.rowS at hrs
          cases hy : nx x (j : Int) with
          | none => rw [hy] at hrs; cases hrs
          | some y =>
          rw [hy] at hrs
          dsimp only at hrs
          by_cases hmo : most < ((A.numO none_ y tj).2.length : Int)
          · rw [if_pos hmo] at hrs; cases hrs
          rw [if_neg hmo] at hrs
          have HR2 := Lib.hid hrs
          obtain ⟨hoky, hcall⟩ := HNX.out x j y wr hy HF.out
          have HY := Lib.hid hoky
          have HC := Lib.hid hcall
          have HD := Lib.hid hd
          have HM := Lib.hid hmo
          clear hd hrs hoky hcall hmo HRS
          have cb := HB.out.cell j
          go_wp2_with fail
          refine (show Calls Try.prog 49 #[.agg #[.int .i64 x.1, .int .i64 x.2], .int .i64 (j : Int), p1, p2, p3] wr _ from HC.out).mono ?_
          rintro _ w3 ⟨rfl, f3⟩
          have HF3 : Hid (Frm (fun _ => False) w w3) := HF.out.trans f3
          have HFD3 : Hid (FdP w3 Sj fb none_ tj) := ⟨mb2, _, D2, hFd.frm f3 fun _ _ _ h => h⟩
          have HB3 : Hid (Blk w3 rb 3 (intCs (rj ++ List.replicate (L - j) 0))) := f3.blk HB.out id
          have HRW3 : Hid (RowsOwn w3 w.heap.size L (fun b => Sj b ∨ b = rb) u14 rk) := HRW.out.frm f3 (fun _ _ h => h.elim) fun _ _ h => h
          have HSS3 : Hid (∀ b, Sj b → w.heap.size ≤ b ∧ b < w3.heap.size) := fun b h => ⟨(HSS.out b h).1, Nat.lt_of_lt_of_le (HSS.out b h).2 f3.1⟩
          have HRB3 : Hid (rb < w3.heap.size) := HB3.out.lt
          clear f3 HF HFD HB HRW HSS HC hFd x1 cb hc hc2
          simp only [pairV]
          go_wp2_with fail
          refine (numberP_any HFD3.out HY.out (by have := HTL.out; omega)).mono ?_
          rintro _ w4 ⟨rfl, q4, f4⟩
          have HF4 : Hid (Frm (fun _ => False) w w4) := Frm.mono (E := fun b => w.heap.size ≤ b) ((HF3.out.mono fun _ _ h => h.elim).trans (f4.mono fun b _ h => (HSS3.out b h).1)) fun b hb h => by omega
          have HB4 : Hid (Blk w4 rb 3 (intCs (rj ++ List.replicate (L - j) 0))) := f4.blk HB3.out HNS.out
          have HFD4 : Hid (FdP w4 (fun b => Sj b ∨ w3.heap.size ≤ b) fb none_ (A.numO none_ y tj).2) := q4
          have HRW4 : Hid (RowsOwn w4 w.heap.size L (fun b => (Sj b ∨ w3.heap.size ≤ b) ∨ b = rb) u14 rk) := HRW3.out.frm f4 (fun _ _ h => .inl h) fun b hb h => by
            rcases h with (h | h) | h
            · exact .inl h
            · omega
            · exact .inr h
          have HTL4 : Hid ((A.numO none_ y tj).2.length ≤ 1000001) := show _ ≤ _ by have := HM.out; omega
          have HXA4 : Hid ((A.numO none_ y tj).2[at_]? = some x) := show _ = _ by
            have h1 := HXA.out
            unfold A.numO
            split
            · exact h1
            · split
              · exact h1
              · rw [List.getElem?_append_left hlt2]; exact h1
          generalize (A.numO none_ y tj).1 = n2 at *
          generalize (A.numO none_ y tj).2 = t2 at *
          clear f4 q4 HF3 HFD3 HB3 HRW3 HTL HXA hlt3
          have cb := HB4.out.cell j
          have fb4 := HB4.out.frozen j
          have HIJ : (intCs (rj ++ List.replicate (L - j) 0))[j]? = some (.int .i64 0) := by
            have hl := HJL.out
            rw [intCs_getD (by simp; omega)]
            simp [List.getD, hl, List.getElem?_append, List.getElem?_replicate]
            rw [if_pos (by omega)]; rfl
          rw [HIJ] at cb
          clear HIJ
          have HNS4 : Hid (¬ (Sj rb ∨ w3.heap.size ≤ rb)) := fun h => by
            have := HRB3.out
            rcases h with h | h
            · exact HNS.out h
            · omega
          obtain ⟨mb4, v4, D4, hF4⟩ := HFD4.out
          obtain ⟨A4, c4, rfl⟩ := own_form hF4.row
          have hne : fb ≠ rb := fun e => HNS4.out (e ▸ hF4.sf)
          have x4 := (hF4.out.far (p := ⟨rb, j, none⟩) hne (.int .i64 n2)).cell 1
          have HF5 : Hid (Frm (fun _ => False) w (w4.setCell ⟨rb, j, none⟩ (.int .i64 n2))) := HF4.out.set_ (p := ⟨rb, j, none⟩) (fun h => by have := HRB.out; simp at h; omega) _
          have f5 : Frm (fun b => b = rb) w4 (w4.setCell ⟨rb, j, none⟩ (.int .i64 n2)) := (Frm.refl (fun b => b = rb) w4).set_ (p := ⟨rb, j, none⟩) (fun _ => rfl) _
          have HFD5 : Hid (FdP (w4.setCell ⟨rb, j, none⟩ (.int .i64 n2)) (fun b => (Sj b ∨ w3.heap.size ≤ b) ∧ b < w4.heap.size) fb none_ t2) := ⟨mb4, _, D4, (hF4.mono (S' := fun b => (Sj b ∨ w3.heap.size ≤ b) ∧ b < w4.heap.size) fun b hb h => ⟨h, hb⟩).frm f5 fun b _ h e => HNS4.out (e ▸ h.1)⟩
          have HRW5 : Hid (RowsOwn (w4.setCell ⟨rb, j, none⟩ (.int .i64 n2)) w.heap.size L (fun b => ((Sj b ∨ w3.heap.size ≤ b) ∧ b < w4.heap.size) ∨ b = rb) u14 rk) := HRW4.out.frm f5 (fun _ _ h => .inr h) fun b _ h => h.imp (·.1) id
          have HB5 : Hid (Blk (w4.setCell ⟨rb, j, none⟩ (.int .i64 n2)) rb 3 (intCs ((rj ++ [n2]) ++ List.replicate (L - (j + 1)) 0))) := show Blk _ _ _ _ by
            have := HB4.out.set_ j (.int .i64 n2)
            rw [intCs_set] at this
            have e : (rj ++ List.replicate (L - j) 0).set j n2 = (rj ++ [n2]) ++ List.replicate (L - (j + 1)) 0 := by
              have hl := HJL.out
              rw [List.set_append, if_neg (by omega), hl, Nat.sub_self, show L - j = (L - (j + 1)) + 1 by omega, List.replicate_succ]
              simp
            rw [e] at this
            exact this
          have HS5 : Hid ((w4.setCell ⟨rb, j, none⟩ (.int .i64 n2)).heap.size = w4.heap.size) := show _ = _ by simp [World.setCell]
          have hmo : ¬ most < (t2.length : Int) := by have := HM.out; omega
          have HW3 : Hid (w.heap.size ≤ w3.heap.size) := show _ ≤ _ by have := HRB3.out; have := HRB.out; omega
          clear HF4 HFD4 HRW4 HB4 hF4 f5
          cases gk with
          | zero => omega
          | succ m =>
          go_wp2_with fail
          go_roundg m
          refine ⟨j + 1, t2, rj ++ [n2], _, rfl, by omega, (show _ = _ by simp [HJL.out]), HTL4, HR2, HXA4, HB5, HFD5, HRW5, ?_, ?_, HF5⟩
          · refine fun b h => ?_
            have := HS5.out
            have := HW3.out
            rcases h with ⟨h | h, h2⟩
            · have := HSS3.out b h; omega
            · omega
          · exact fun h => HNS4.out h.1
          all_goals omega
        · have e : L = j := by omega
          subst e
          have hrs := HRS.out
          rw [show (List.range L).drop L = [] by simp] at hrs
          obtain ⟨e1, e2⟩ : ts2 = tj ∧ row = rj := by
            unfold A.rowS at hrs
            injection hrs with hrs
            exact ⟨(congrArg Prod.fst hrs).symm, (congrArg Prod.snd hrs).symm⟩
          subst e1 e2
          have HRN : Hid (row.length = L) := HJL
          have HBB : Hid (Blk wr rb 3 (intCs row)) := show Blk _ _ _ _ by have := HB.out; rw [Nat.sub_self] at this; simpa using this
          clear HB hrs HRS
          obtain ⟨A14, c14, rfl⟩ := own_form HRW.out.choose_spec.2.1
          obtain ⟨gs, hgs⟩ : ∃ gs, gs = HRW.out.choose := ⟨_, rfl⟩
          have HO := Lib.hid HRW.out.choose_spec.2.1
          rw [← hgs] at HO
          have HGS := Lib.hid hgs
          clear hgs
          have HRK : Hid (rk.length + 1 ≤ 100000000) := show _ ≤ _ by omega
          have HKL := Lib.hid hrk
          clear hrk
          obtain ⟨i0, hi0, hz0, hz1, hz2⟩ := info_parts info_sInt
          go_wp2_with (at_builtin; refine wpList_append_own_at _ rfl _ _ 22 rfl w.heap.size 37 i0 (.slice none 0 0) 1 24 Try.underlying22 hi0 hz0 hz1 hz2 rfl (by decide) _ _ _ rfl (HO.out.alloc _) ⟨wr.heap.size, 0, none⟩ 1 1 [.slice (some ⟨rb, 0, none⟩) L L] rfl rfl (cell_one_at rfl) (by simp [Value.oneCell']) (by have := HRK.out; unfold maxLen; omega) (by have := HRK.out; omega) (by have := HF.out.1; simp; omega) ?_)
          intro v' w4 hown1 hgrow _ hat4
          have f4 : Frm (fun b => (Value.slice A14 rk.length c14).ownBlock = some b) wr w4 := ((Frm.refl _ wr).alloc _).grown hgrow fun g hg _ => hg
          have HR4 : Hid (RowsOwn w4 w.heap.size L Sj v' (rk ++ [row])) := HRW.out.push HBB.out HRN.out HRB.out HNS.out f4 (HGS.out ▸ hown1) hat4 (by simp) fun b hb => (HSS.out b hb).2
          have HFD4 : Hid (FdP w4 Sj fb none_ ts2) := ⟨mb2, _, D2, hFd.frm f4 fun b _ hs e => by
            obtain ⟨gs, _, _, h3, _⟩ := HRW.out
            exact h3 b e (.inl hs)⟩
          have HSS4 : Hid (∀ b, Sj b → w.heap.size ≤ b ∧ b < w4.heap.size) := fun b hb => ⟨(HSS.out b hb).1, Nat.lt_of_lt_of_le (HSS.out b hb).2 f4.1⟩
          have HF4 : Hid (Frm (fun _ => False) w w4) := Frm.mono (E := fun b => w.heap.size ≤ b) ((HF.out.mono fun _ _ h => h.elim).trans (f4.mono fun b _ h => (World.ownsRow.lt HO.out b h).1)) fun b hb h => by omega
          obtain ⟨A5, c5, rfl⟩ := own_form hown1
          clear f4 hown1 hgrow hat4 hi0 hz0 hz1 hz2 HO hFd HGS HRW HFD
          have HLE4 : Hid (at_ + 1 ≤ ts2.length) := (List.getElem?_eq_some_iff.1 HXA.out).1
          go_wp2_with fail
          go_roundg n
          refine ⟨at_ + 1, ts2, rk ++ [row], Sj, by go_num, by omega, by simp [HKL.out], HLE4, HTL, HS2, HFD4, ?_, HSS4, HF4⟩
          all_goals (first | omega | exact HR4 | skip)
    · rw [dif_neg hlt] at hsr
      injection hsr with hsr
      obtain ⟨e1, e2⟩ : ts = tk ∧ rows = rk := ⟨(congrArg Prod.fst hsr).symm, (congrArg Prod.snd hsr).symm⟩
      subst e1 e2
      have hlt' : ¬ (at_ : Int) < (ts.length : Int) := by omega
      have hrl : rows.length = ts.length := by have := HLE.out; omega
      have hal : at_ = ts.length := by have := HLE.out; omega
      have HR := HRW.out
      obtain ⟨A14, c14, rfl⟩ := own_form HR.choose_spec.2.1
      have HRR : Hid (RowsOwn wr w.heap.size L Sk (.slice A14 ts.length c14) rows) := by rw [← hrl]; exact HRW.out
      rw [hrl]
      have HFF := Lib.hid hFd
      clear HR HRW hsr hrow hFd hrk hrl HSR
      subst hal
      go_wp2_with fail
      clear hlt hlt' hat HLE HFD HNX
      go_quiet (fail)
      go_wp2
      try rw [Exit.noGoto_ret]
      refine bodyPost_ret (v := .tuple #[.slice AT ts.length cT, .slice A14 ts.length c14, .bool true]) (by simp [results, Try.results37, go_sem]) rfl ?_
      refine ⟨_, _, rfl, ?_, HRR.out.rows2, HF.out⟩
      have h := HFF.out.row
      refine ⟨h.1, ?_⟩
      rcases h.2 with h2 | ⟨g, cap, cur, e, _, h3, h4, h5, h6, h7⟩
      · exact .inl h2
      · refine .inr ⟨g, cap, cur, e, ?_, h3, h4, h5, h6, ?_⟩
        · have := (HFF.out.sv g (by rw [e]; rfl)).1
          exact (HSS.out g this).1
        · exact h7
end Go.Proofs.Ytldmjpnldgekaaa
end
section
namespace Go.Proofs.Ytldmjpnldgekaaa
open Go.RowKit
/-- A machine of its own in a fresh place. -/
def frM (n1 : Nat) (m : A.Mac) (v : Value) (w : World) : Prop := MachAt w (fun b => n1 ≤ b) v m
/-- A block of a machine that lies behind n1. -/
def bxM (n1 bx : Nat) (m : A.Mac) (v : Value) (w : World) : Prop := ∃ A1 c1 A2 c2, v = macV m A1 c1 A2 c2 ∧ Blk w bx 25 (macC m A1 c1 A2 c2) ∧ MachAt w (fun b => n1 ≤ b) v m
def pbP (n : Nat) (v : Value) (w : World) : Prop := ∃ g k0 k1, v = .pointer (some ⟨g, 0, none⟩) ∧ n ≤ g ∧ Blk w g 57 #[k0, k1]
def pbQ (n : Nat) (q : A.Pr) (v : Value) (w : World) : Prop := ∃ g, v = .pointer (some ⟨g, 0, none⟩) ∧ n ≤ g ∧ Blk w g 57 #[.int .i64 q.1, .int .i64 q.2]
def pbR (n : Nat) (a b : World) : Prop := ∃ g k0 k1, n ≤ g ∧ Blk b g 57 #[k0, k1] ∧ Frm (fun x => x = g) a b
theorem pbP.r {n : Nat} {v : Value} {a b : World} (h : pbP n v a) (r : pbR n a b) : pbP n v b := by
  obtain ⟨g, k0, k1, e, hg, hb⟩ := h
  obtain ⟨g', k0', k1', h1, h2, F⟩ := r
  by_cases e' : g = g'
  · subst e'
    exact ⟨g, k0', k1', e, hg, h2⟩
  · exact ⟨g, k0, k1, e, hg, F.blk hb e'⟩
theorem pbP.q {n : Nat} {v : Value} {a b : World} (h : pbP n v a) (r : Frm (fun _ => False) a b) : pbP n v b := by
  obtain ⟨g, k0, k1, e, hg, hb⟩ := h
  exact ⟨g, k0, k1, e, hg, r.blk hb id⟩
theorem pbQ.q {n : Nat} {q : A.Pr} {v : Value} {a b : World} (h : pbQ n q v a) (r : Frm (fun _ => False) a b) : pbQ n q v b := by
  obtain ⟨g, e, hg, hb⟩ := h
  exact ⟨g, e, hg, r.blk hb id⟩
namespace A
def fillB {α : Type} (f : α → Bool) (ts : List α) (k : Nat) : List Bool := (ts.take k).map f ++ List.replicate (ts.length - k) false
section
variable {α : Type} {f : α → Bool} {ts : List α}
theorem fillB_len {k : Nat} (hk : k ≤ ts.length) : (fillB f ts k).length = ts.length := by simp [fillB]; omega
theorem fillB_zero : fillB f ts 0 = List.replicate ts.length false := by simp [fillB]
theorem fillB_all : fillB f ts ts.length = ts.map f := by simp [fillB]
theorem fillB_succ {k : Nat} {x : α} (hx : ts[k]? = some x) : (fillB f ts k).set k (f x) = fillB f ts (k + 1) := by
  obtain ⟨hk, rfl⟩ := List.getElem?_eq_some_iff.1 hx
  unfold fillB
  rw [List.set_append_right _ _ (by simp; omega), show ts.length - k = (ts.length - (k + 1)) + 1 by omega, List.replicate_succ]
  have e : k - ((ts.take k).map f).length = 0 := by simp; omega
  rw [e, List.set_cons_zero, List.take_add_one, List.map_append]
  simp [hk]
end
end A
theorem pairC_get : ∀ (l : List A.Pr) (j : Nat) (hj : j < l.length), (l.flatMap pairC)[j * 2]? = some (.int .i64 l[j].1) ∧ (l.flatMap pairC)[j * 2 + 1]? = some (.int .i64 l[j].2)
  | [], j, hj => by simp at hj
  | a :: l, 0, _ => ⟨rfl, rfl⟩
  | a :: l, j + 1, hj => by
    rw [List.flatMap_cons]
    have := pairC_get l j (by simpa using hj)
    have e : (j + 1) * 2 = (pairC a).length + j * 2 := by simp [pairC]; omega
    rw [List.getElem?_append_right (by rw [e]; omega), List.getElem?_append_right (by rw [e]; omega), e, Nat.add_sub_cancel_left, show (pairC a).length + j * 2 + 1 - (pairC a).length = j * 2 + 1 by omega]
    exact this
/-- What a search hands back. -/
def jT (n : Nat) (ts : List A.Pr) (v : Value) (w : World) : Prop := w.ownsRow n 57 2 v ts.length (ts.flatMap pairC)
def jR (n : Nat) (rows : List (List Int)) (v : Value) (w : World) : Prop := Rows2 w (fun b => n ≤ b) v rows
def jP (n : Nat) (ts : List A.Pr) (rows : List (List Int)) (v : Value) (w : World) : Prop := ∃ uT uR, v = .tuple #[uT, uR, .bool true] ∧ jT n ts uT w ∧ jR n rows uR w
theorem jT.q {n : Nat} {ts : List A.Pr} {v : Value} {a b : World} (h : jT n ts v a) (F : Frm (fun _ => False) a b) : jT n ts v b := F.row h (fun _ _ => id) (Nat.le_refl _)
theorem jR.q {n : Nat} {rows : List (List Int)} {v : Value} {a b : World} (h : jR n rows v a) (F : Frm (fun _ => False) a b) : jR n rows v b := Rows2.keep h F fun _ _ => id
theorem jP.q {n : Nat} {ts : List A.Pr} {rows : List (List Int)} {v : Value} {a b : World} (h : jP n ts rows v a) (F : Frm (fun _ => False) a b) : jP n ts rows v b := by
  obtain ⟨uT, uR, e, h1, h2⟩ := h
  exact ⟨uT, uR, e, h1.q F, h2.q F⟩
set_option maxRecDepth 100000 in
set_option maxHeartbeats 16000000 in
theorem together_any {w : World} {P Q : Nat → Prop} {va vb : Value} {a b : A.Mac} {T : Bool → Bool → Bool} {tf : Nat} (h : MachAt w P va a) (h' : MachAt w Q vb b) (sa : Sized a) (sb : Sized b) (hT : A.Rule T) (hc : Tells T tf) (hN : A.fit a b = 0 → (1 + a.next.length) * (1 + b.next.length) ≤ 4000) :
    Calls Try.prog 24 #[va, vb, .func (.func tf) #[] #[]] w fun e w' => ∃ r, e = .returned (.tuple #[r, .int .i64 (A.tog T a b).2]) ∧ MachAt w' (fun x => w.heap.size ≤ x) r (A.tog T a b).1 ∧ Frm (fun _ => False) w w' := by
  obtain ⟨A1, c1, A2, c2, rfl⟩ := h.form
  obtain ⟨B1, d1, B2, d2, rfl⟩ := h'.form
  obtain ⟨W0, hW0⟩ : ∃ W0, W0 = (((w.alloc (.cells (macC a A1 c1 A2 c2) 25)).alloc (.cells (macC b B1 d1 B2 d2) 25)).alloc (.cells #[.func (.func tf) #[] #[]] 50)).alloc (.cells zeroM 25) := ⟨_, rfl⟩
  have HF0 : Hid (Frm (fun _ => False) w W0) := by rw [hW0]; exact ((((Frm.refl _ w).alloc _).alloc _).alloc _).alloc _
  have HA0 : Hid (Blk W0 w.heap.size 25 (macC a A1 c1 A2 c2)) := by rw [hW0]; exact (((Blk.new w _ _).alloc _).alloc _).alloc _
  have HB0 : Hid (Blk W0 (w.heap.size + 1) 25 (macC b B1 d1 B2 d2)) := by rw [hW0]; exact (Blk.alloc (Blk.alloc (blk_at (by simp)) _) _)
  have HT0 : Hid (Blk W0 (w.heap.size + 1 + 1) 50 #[.func (.func tf) #[] #[]]) := by rw [hW0]; exact (Blk.alloc (blk_at (by simp)) _)
  have HZ0 : Hid (Blk W0 (w.heap.size + 1 + 1 + 1) 25 zeroM) := by rw [hW0]; exact blk_at (by simp)
  have HM := Lib.hid h
  have HM' := Lib.hid h'
  have HS := Lib.hid sa
  have HS' := Lib.hid sb
  have HTR := Lib.hid hT
  have HC := Lib.hid hc
  have HNN := Lib.hid hN
  clear h h' sa sb hT hc hN
  have e0 := HA0.out.cell 0
  have e1 := HA0.out.cell 1
  have e2 := HA0.out.cell 2
  have e3 := HA0.out.cell 3
  have g0 := HB0.out.cell 0
  have g1 := HB0.out.cell 1
  have g2 := HB0.out.cell 2
  have g3 := HB0.out.cell 3
  simp only [macC] at e0 e1 e2 e3 g0 g1 g2 g3
  have HW0 := Lib.hid hW0
  simp only [zeroM, macC] at hW0
  rw [hW0] at e0 e1 e2 e3 g0 g1 g2 g3
  go_enter Try.func24, Try.ntmps24
  go_wp2_with fail
  rw [← hW0]
  clear e0 e1 e2 e3 g0 g1 g2 g3 hW0 HW0
  refine (fit_any (HM.out.keep0 HF0.out) (HM'.out.keep0 HF0.out) HS.out HS'.out).mono ?_
  rintro _ w1 ⟨rfl, f1⟩
  have HF1 := Lib.hid (HF0.out.trans f1)
  have HA1 := Lib.hid (f1.blk HA0.out id)
  have HB1 := Lib.hid (f1.blk HB0.out id)
  have HT1 := Lib.hid (f1.blk HT0.out id)
  have HZ1 := Lib.hid (f1.blk HZ0.out id)
  clear f1 HF0 HA0 HB0 HT0 HZ0
  by_cases hfit : A.fit a b = 0
  case neg =>
    have hne : (A.fit a b != 0) = true := by rw [bne_iff_ne]; exact hfit
    have HY : Hid (A.tog T a b = (⟨0, 0, [], []⟩, A.fit a b)) := show _ = _ by unfold A.tog; rw [if_neg hfit]
    have z0 := HZ1.out.cell 0
    have z1 := HZ1.out.cell 1
    have z2 := HZ1.out.cell 2
    have z3 := HZ1.out.cell 3
    have q0 := HZ1.out.frozen 0
    have q1 := HZ1.out.frozen 1
    have q2 := HZ1.out.frozen 2
    have q3 := HZ1.out.frozen 3
    simp only [zeroM] at z0 z1 z2 z3
    clear hfit
    go_wp2_with fail
    refine bodyPost_ret (w := put4 w1 (w.heap.size + 1 + 1 + 1) (.int .i64 0) (.int .i64 0) (.slice none 0 0) (.slice none 0 0)) (v := .tuple #[.agg #[.int .i64 0, .int .i64 0, .slice none 0 0, .slice none 0 0], .int .i64 (A.fit a b)]) ?_ rfl ⟨_, by rw [HY.out], by rw [HY.out]; exact mach_zero _ _, put4_frm HF1.out (by omega)⟩
    have h4 := put4_blk (l := .int .i64 0) (s := .int .i64 0) (n := .slice none 0 0) (e := .slice none 0 0) HZ1.out
    generalize put4 w1 (w.heap.size + 1 + 1 + 1) (.int .i64 0) (.int .i64 0) (.slice none 0 0) (.slice none 0 0) = w4 at *
    have y0 := h4.cell 0
    have y1 := h4.cell 1
    have y2 := h4.cell 2
    have y3 := h4.cell 3
    simp [results, Try.results24, go_sem, y0, y1, y2, y3]
  have HFIT := Lib.hid hfit
  rw [hfit]
  have ht := A.fit_two hfit
  obtain ⟨hva, hvb⟩ : A.valid a = 0 ∧ A.valid b = 0 := by
    unfold A.fit at hfit
    split at hfit
    · rename_i hv; exact hv
    · cases hfit
  obtain ⟨x, hx⟩ : ∃ x, x = A.leastM a := ⟨_, rfl⟩
  obtain ⟨y, hy⟩ : ∃ y, y = A.leastM b := ⟨_, rfl⟩
  have lx := A.leastM_is hva
  have ly := A.leastM_is hvb
  rw [← hx] at lx
  rw [← hy] at ly
  have HY : Hid (A.tog T a b = (A.togM T x y, 0)) := show _ = _ by unfold A.tog; rw [if_pos hfit, ← hx, ← hy]
  have HLX := Lib.hid lx
  have HLY := Lib.hid ly
  have HTW : Hid (A.Two x y) := ⟨lx.2.mn.fits, ly.2.mn.fits, by rw [lx.2.ll, ly.2.ll, ht.ll], by rw [lx.2.ll]; exact ht.la, by have := lx.2.le; have := ht.na; omega, by have := ly.2.le; have := ht.nb; omega⟩
  have HNX : Hid ((1 + x.next.length) * (1 + y.next.length) ≤ 4000) := show _ ≤ _ from Nat.le_trans (Nat.mul_le_mul (by have := lx.2.le; omega) (by have := ly.2.le; omega)) (HNN.out hfit)
  have HTA := Lib.hid ht
  have HVA := Lib.hid hva
  have HVB := Lib.hid hvb
  clear hfit ht hva hvb hx hy lx ly
  go_wp2_with fail
  obtain ⟨n1, hn1⟩ : ∃ n1, n1 = w1.heap.size := ⟨_, rfl⟩
  have HN1 := Lib.hid hn1
  have HNZ : Hid (w.heap.size + 1 + 1 + 1 < n1) := show _ < _ by rw [hn1]; exact HZ1.out.lt
  have HFX : Hid (∀ {V : World}, Frm (fun b => b = w.heap.size ∨ b = w.heap.size + 1) w1 V → Frm (fun _ => False) w V) := fun F => ((HF1.out.mono fun _ _ h => h.elim).trans F).mono fun b hb h => by omega
  clear hn1
  refine wp_region_depI [25, 26, 27, 28, 1000, 1001] [[0], [1], [2], [3], [1], [3]]
    [f1 (vV (macV a A1 c1 A2 c2)), f1 (frM n1 x), f1 (vV (macV b B1 d1 B2 d2)), f1 (frM n1 y), f1 (bxM n1 w.heap.size x), f1 (bxM n1 (w.heap.size + 1) y)]
    (Frm (fun b => b = w.heap.size ∨ b = w.heap.size + 1)) (fun i => if i = 4 then Frm (fun b => b = w.heap.size) else if i = 5 then Frm (fun b => b = w.heap.size + 1) else Frm (fun _ => False)) (fun i V => (i = 0 ∨ i = 4 → Blk V w.heap.size 25 (macC a A1 c1 A2 c2)) ∧ (i = 2 ∨ i = 5 → Blk V (w.heap.size + 1) 25 (macC b B1 d1 B2 d2))) [] [(3, .pointer (some ⟨w.heap.size, 0, none⟩)), (4, .pointer (some ⟨w.heap.size + 1, 0, none⟩))] (by kernel_rfl) (by kernel_rfl) (by kernel_rfl) (fun _ _ _ => Frm.trans) ?_ ?_ ?_ ?_ (fun _ h => by cases h) (Frm.refl _ _).drew ?_ ?_ ?_
  · intro i a b h
    split at h
    · exact h.mono fun _ _ h => .inl h
    · split at h
      · exact h.mono fun _ _ h => .inr h
      · exact h.mono fun _ _ h => h.elim
  · intro j i hj hi hne hna l a' b' hf hr
    have hj' : j < 6 := hj
    have hi' : i < 6 := hi
    have keep : ∀ {m : A.Mac} {v : Value}, frM n1 m v a' → frM n1 m v b' := fun {m v} hm => by
      have hnz := HNZ.out
      split at hr
      · exact MachAt.keep hm hr fun b hb e => by omega
      · split at hr
        · exact MachAt.keep hm hr fun b hb e => by omega
        · exact MachAt.keep hm hr fun b hb e => e
    have hcs : j = 0 ∨ j = 1 ∨ j = 2 ∨ j = 3 ∨ j = 4 ∨ j = 5 := by omega
    rcases hcs with rfl | rfl | rfl | rfl | rfl | rfl
    · exact hf
    · exact keep hf
    · exact hf
    · exact keep hf
    · obtain ⟨E1, k1, E2, k2, h1, h2, h3⟩ := hf
      refine ⟨E1, k1, E2, k2, h1, ?_, keep h3⟩
      rw [if_neg hne] at hr
      split at hr
      · exact Frm.blk hr h2 (by omega)
      · exact Frm.blk hr h2 id
    · obtain ⟨E1, k1, E2, k2, h1, h2, h3⟩ := hf
      refine ⟨E1, k1, E2, k2, h1, ?_, keep h3⟩
      split at hr
      · exact Frm.blk hr h2 (by omega)
      · first
        | exact Frm.blk hr h2 id
        | (rw [if_neg hne] at hr; exact Frm.blk hr h2 id)
  · intro i k hk hne hna a' b' h hr
    have hk' : k < 6 := hk
    refine ⟨fun e => ?_, fun e => ?_⟩
    · have hb := h.1 e
      split at hr
      · rename_i hk4
        subst hk4
        rcases e with rfl | rfl
        · simp [Region.binds] at hna
        · exact absurd rfl hne
      · split at hr
        · exact hr.blk hb (by omega)
        · exact hr.blk hb id
    · have hb := h.2 e
      split at hr
      · exact hr.blk hb (by omega)
      · split at hr
        · rename_i hk5
          subst hk5
          rcases e with rfl | rfl
          · simp [Region.binds] at hna
          · exact absurd rfl hne
        · exact hr.blk hb id
  · intro i
    exact ⟨fun _ => HA1.out.drew, fun _ => HB1.out.drew⟩
  · intro x hx
    simp only [List.mem_cons, List.not_mem_nil, or_false] at hx
    rcases hx with rfl | rfl <;> exact ⟨by simp, rfl⟩
  · refine ⟨?_, ?_, ?_, ?_, ?_, ?_, trivial⟩
    · intro Q tm df V hR hS hu hd
      have u1 : tm[3]?.getD undef = .pointer (some ⟨w.heap.size, 0, none⟩) := hu (3, _) (by simp)
      have hb := hS.1 (.inl rfl)
      have y0 := hb.cell 0
      have y1 := hb.cell 1
      have y2 := hb.cell 2
      have y3 := hb.cell 3
      simp only [macC] at y0 y1 y2 y3
      clear hu hd hb hS
      go_simp
      exact ⟨_, rfl, rfl, Frm.refl _ V⟩
    · intro Q tm df V hR hS hu hd
      have e0 : tm[25]?.getD undef = macV a A1 c1 A2 c2 := hd 0 (by simp [Region.binds])
      have HV := Lib.hid (HM.out.keep0 (HFX.out hR))
      have HNV : Hid (n1 ≤ V.heap.size) := by have := hR.1; rw [HN1.out]; exact this
      clear hu hd hS hR
      go_simp
      refine (least_any HV.out HTA.out.fa (by have := HTA.out.na; omega) HTA.out.la (by decide) HLX.out.1).mono ?_
      rintro e w' ⟨r, rfl, hm, f⟩
      exact ⟨_, rfl, hm.mono fun b hb => Nat.le_trans HNV.out hb, f⟩
    · intro Q tm df V hR hS hu hd
      have u1 : tm[4]?.getD undef = .pointer (some ⟨w.heap.size + 1, 0, none⟩) := hu (4, _) (by simp)
      have hb := hS.2 (.inl rfl)
      have y0 := hb.cell 0
      have y1 := hb.cell 1
      have y2 := hb.cell 2
      have y3 := hb.cell 3
      simp only [macC] at y0 y1 y2 y3
      clear hu hd hb hS
      go_simp
      exact ⟨_, rfl, rfl, Frm.refl _ V⟩
    · intro Q tm df V hR hS hu hd
      have e0 : tm[27]?.getD undef = macV b B1 d1 B2 d2 := hd 2 (by simp [Region.binds])
      have HV := Lib.hid (HM'.out.keep0 (HFX.out hR))
      have HNV : Hid (n1 ≤ V.heap.size) := by have := hR.1; rw [HN1.out]; exact this
      clear hu hd hS hR
      go_simp
      refine (least_any HV.out HTA.out.fb (by have := HTA.out.nb; omega) (by have := HTA.out.la; have := HTA.out.ll; omega) (by decide) HLY.out.1).mono ?_
      rintro e w' ⟨r, rfl, hm, f⟩
      exact ⟨_, rfl, hm.mono fun b hb => Nat.le_trans HNV.out hb, f⟩
    · intro Q tm df V hR hS hu hd
      have u1 : tm[3]?.getD undef = .pointer (some ⟨w.heap.size, 0, none⟩) := hu (3, _) (by simp)
      have hm : MachAt V (fun b => n1 ≤ b) (tm[26]?.getD undef) x := hd 1 (by simp [Region.binds])
      obtain ⟨E1, k1, E2, k2, e1⟩ := MachAt.form hm
      have hb := hS.1 (.inr rfl)
      have y0 := hb.cell 0
      have y1 := hb.cell 1
      have y2 := hb.cell 2
      have y3 := hb.cell 3
      have z0 := hb.frozen 0
      have z1 := hb.frozen 1
      have z2 := hb.frozen 2
      have z3 := hb.frozen 3
      simp only [macC] at y0 y1 y2 y3
      have h4 := put4_blk (l := .int .i64 x.letters) (s := .int .i64 x.start) (n := .slice E1 x.next.length k1) (e := .slice E2 x.fin.length k2) hb
      have h5 := put4_frm1 (w := V) (b := w.heap.size) (l := .int .i64 x.letters) (s := .int .i64 x.start) (n := .slice E1 x.next.length k1) (e := .slice E2 x.fin.length k2)
      rw [e1] at hm
      have hm4 := hm.keep h5 fun b hb e => by have := HNZ.out; omega
      have hh : ∀ v, v = macV x E1 k1 E2 k2 → bxM n1 w.heap.size x v (put4 V w.heap.size (.int .i64 x.letters) (.int .i64 x.start) (.slice E1 x.next.length k1) (.slice E2 x.fin.length k2)) := fun v e => ⟨E1, k1, E2, k2, e, h4, by rw [e]; exact hm4⟩
      have HH := Lib.hid hh
      have H5 := Lib.hid h5
      clear hu hd hS hb h4 h5 hm4 hh hm
      go_simp
      exact ⟨HH.out _ e1, H5.out⟩
    · intro Q tm df V hR hS hu hd
      have u1 : tm[4]?.getD undef = .pointer (some ⟨w.heap.size + 1, 0, none⟩) := hu (4, _) (by simp)
      have hm : MachAt V (fun b => n1 ≤ b) (tm[28]?.getD undef) y := hd 3 (by simp [Region.binds])
      obtain ⟨E1, k1, E2, k2, e1⟩ := MachAt.form hm
      have hb := hS.2 (.inr rfl)
      have y0 := hb.cell 0
      have y1 := hb.cell 1
      have y2 := hb.cell 2
      have y3 := hb.cell 3
      have z0 := hb.frozen 0
      have z1 := hb.frozen 1
      have z2 := hb.frozen 2
      have z3 := hb.frozen 3
      simp only [macC] at y0 y1 y2 y3
      have h4 := put4_blk (l := .int .i64 y.letters) (s := .int .i64 y.start) (n := .slice E1 y.next.length k1) (e := .slice E2 y.fin.length k2) hb
      have h5 := put4_frm1 (w := V) (b := w.heap.size + 1) (l := .int .i64 y.letters) (s := .int .i64 y.start) (n := .slice E1 y.next.length k1) (e := .slice E2 y.fin.length k2)
      rw [e1] at hm
      have hm4 := hm.keep h5 fun b hb e => by have := HNZ.out; omega
      have hh : ∀ v, v = macV y E1 k1 E2 k2 → bxM n1 (w.heap.size + 1) y v (put4 V (w.heap.size + 1) (.int .i64 y.letters) (.int .i64 y.start) (.slice E1 y.next.length k1) (.slice E2 y.fin.length k2)) := fun v e => ⟨E1, k1, E2, k2, e, h4, by rw [e]; exact hm4⟩
      have HH := Lib.hid hh
      have H5 := Lib.hid h5
      clear hu hd hS hb h4 h5 hm4 hh hm
      go_simp
      exact ⟨HH.out _ e1, H5.out⟩
  · intro vs V hR hf
    obtain ⟨E1, k1, E2, k2, e6, hbx, hmx⟩ : bxM n1 w.heap.size x (vs 1) V := hf 4 (by decide)
    obtain ⟨G1, l1, G2, l2, e7, hby, hmy⟩ : bxM n1 (w.heap.size + 1) y (vs 3) V := hf 5 (by decide)
    clear hf
    simp only [putAll, List.size_toArray, List.length_cons, List.length_nil, Nat.zero_add, Nat.reduceAdd, show List.range 6 = [0, 1, 2, 3, 4, 5] from rfl, List.foldl_cons, List.foldl_nil, List.getD_cons_zero, List.getD_cons_succ, List.setIfInBounds_toArray, List.set_cons_zero, List.set_cons_succ]
    have hF2 := HFX.out hR
    have HT2 := Lib.hid (hR.blk HT1.out (by omega))
    have HZ2 := Lib.hid (hR.blk HZ1.out (by omega))
    obtain ⟨W2, hW2⟩ : ∃ W2, W2 = V.alloc (.cells #[.nilFunc] 73) := ⟨_, rfl⟩
    have hb2 : Blk W2 V.heap.size 73 #[.nilFunc] := by rw [hW2]; exact Blk.new V _ _
    obtain ⟨W3, hW3⟩ : ∃ W3, W3 = V.alloc (.cells #[.func (.func 48) #[] #[.pointer (some ⟨w.heap.size + 1 + 1, 0, none⟩)]] 73) := ⟨_, rfl⟩
    have FA : Frm (fun _ => False) V W3 := by rw [hW3]; exact (Frm.refl _ _).alloc _
    have hb3 : Blk W3 V.heap.size 73 #[.func (.func 48) #[] #[.pointer (some ⟨w.heap.size + 1 + 1, 0, none⟩)]] := by rw [hW3]; exact Blk.new V _ _
    have t0 := hb2.cell 0
    have t1 := hb2.frozen 0
    have hst := run_store Try.prog W2 ⟨V.heap.size, 0, none⟩ (.func (.func 48) #[] #[.pointer (some ⟨w.heap.size + 1 + 1, 0, none⟩)]) .plain rfl
    have hNV : n1 ≤ V.heap.size := by have := hR.1; rw [HN1.out]; exact this
    obtain ⟨cb, hcb⟩ : ∃ cb, cb = V.heap.size := ⟨_, rfl⟩
    rw [e6] at hmx
    rw [e7] at hmy
    have HG3 : Hid (TgAt W3 T tf w.heap.size (w.heap.size + 1) (w.heap.size + 1 + 1) cb x y E1 k1 E2 k2 G1 l1 G2 l2) :=
      ⟨FA.blk hbx id, FA.blk hby id, FA.blk HT2.out id, by rw [hcb]; exact hb3, (hmx.keep0 FA).below, (hmy.keep0 FA).below⟩
    have HF3 : Hid (Frm (fun _ => False) w W3) := hF2.trans FA
    have HZ3 := Lib.hid (FA.blk HZ2.out id)
    have HCB : Hid (n1 ≤ cb) := show _ ≤ _ by omega
    clear hF2 HT2 HZ2 hbx hby hmx hmy FA hR HFX HA1 HB1 HT1 HZ1 HF1 HM HM' hNV
    rw [hW2] at t0 t1 hst
    go_wp2_with fail
    rw [← hW3, ← hcb]
    clear t0 t1 hst hb2 hb3 hW2
    obtain ⟨first, hfi⟩ : ∃ first, first = A.cnt T (x.start, y.start) := ⟨_, rfl⟩
    have HFI := Lib.hid hfi
    obtain ⟨n2, hn2⟩ : ∃ n2, n2 = W3.heap.size := ⟨_, rfl⟩
    have HN2 := Lib.hid hn2
    have HGX : Hid (∀ {V : World}, Frm (fun b => n2 ≤ b) W3 V → TgAt V T tf w.heap.size (w.heap.size + 1) (w.heap.size + 1 + 1) cb x y E1 k1 E2 k2 G1 l1 G2 l2) := fun F => HG3.out.frm F fun b hb e => by have := HN2.out; omega
    clear hW3 hcb hfi hn2 e6 e7
    refine wp_region_depI [30, 31, 32, 33, 34, 10, 1000] [[0], [1], [2], [3], [4], [5], [5]]
      [f1 (vV (.func (.func 48) #[] #[.pointer (some ⟨w.heap.size + 1 + 1, 0, none⟩)])), f1 (vV (macV x E1 k1 E2 k2)), f1 (vV (macV y G1 l1 G2 l2)), f1 (vV (pairV (x.start, y.start))), f1 (vV (pairV first)), f1 (pbP n2), f1 (pbQ n2 first)]
      (Frm (fun b => n2 ≤ b)) (fun i => if i = 6 then pbR n2 else Frm (fun _ => False)) (fun _ _ => True) [] [(9, .pointer (some ⟨cb, 0, none⟩)), (3, .pointer (some ⟨w.heap.size, 0, none⟩)), (4, .pointer (some ⟨w.heap.size + 1, 0, none⟩))] (by kernel_rfl) (by kernel_rfl) (by kernel_rfl) (fun _ _ _ => Frm.trans) ?_ ?_ (fun _ _ _ _ _ _ _ _ _ => trivial) (fun _ => trivial) (fun _ h => by cases h) (Frm.refl _ _).drew ?_ ?_ ?_
    · intro i a b h
      split at h
      · obtain ⟨g, _, _, h1, _, F⟩ := h
        exact F.mono fun b _ e => by omega
      · exact h.mono fun _ _ h => h.elim
    · intro j i hj hi hne hna l a' b' hf hr
      have hj' : j < 7 := hj
      by_cases h6 : i = 6
      · subst h6
        rw [if_pos rfl] at hr
        have hcs : j = 0 ∨ j = 1 ∨ j = 2 ∨ j = 3 ∨ j = 4 ∨ j = 5 := by omega
        rcases hcs with rfl | rfl | rfl | rfl | rfl | rfl
        · exact hf
        · exact hf
        · exact hf
        · exact hf
        · exact hf
        · exact pbP.r hf hr
      · rw [if_neg h6] at hr
        have hcs : j = 0 ∨ j = 1 ∨ j = 2 ∨ j = 3 ∨ j = 4 ∨ j = 5 ∨ j = 6 := by omega
        rcases hcs with rfl | rfl | rfl | rfl | rfl | rfl | rfl
        · exact hf
        · exact hf
        · exact hf
        · exact hf
        · exact hf
        · exact pbP.q hf hr
        · exact pbQ.q hf hr
    · intro x hx
      simp only [List.mem_cons, List.not_mem_nil, or_false] at hx
      rcases hx with rfl | rfl | rfl <;> exact ⟨by simp, rfl⟩
    · refine ⟨?_, ?_, ?_, ?_, ?_, ?_, ?_, trivial⟩
      · intro Q tm df V hR _ hu hd
        have u1 : tm[9]?.getD undef = .pointer (some ⟨cb, 0, none⟩) := hu (9, _) (by simp)
        have y0 := (HGX.out hR).bc.cell 0
        clear hu hd
        go_simp
        exact ⟨_, rfl, rfl, Frm.refl _ V⟩
      · intro Q tm df V hR _ hu hd
        have u1 : tm[3]?.getD undef = .pointer (some ⟨w.heap.size, 0, none⟩) := hu (3, _) (by simp)
        have y0 := (HGX.out hR).ba.cell 0
        have y1 := (HGX.out hR).ba.cell 1
        have y2 := (HGX.out hR).ba.cell 2
        have y3 := (HGX.out hR).ba.cell 3
        simp only [macC] at y0 y1 y2 y3
        clear hu hd
        go_simp
        exact ⟨_, rfl, rfl, Frm.refl _ V⟩
      · intro Q tm df V hR _ hu hd
        have u1 : tm[4]?.getD undef = .pointer (some ⟨w.heap.size + 1, 0, none⟩) := hu (4, _) (by simp)
        have y0 := (HGX.out hR).bb.cell 0
        have y1 := (HGX.out hR).bb.cell 1
        have y2 := (HGX.out hR).bb.cell 2
        have y3 := (HGX.out hR).bb.cell 3
        simp only [macC] at y0 y1 y2 y3
        clear hu hd
        go_simp
        exact ⟨_, rfl, rfl, Frm.refl _ V⟩
      · intro Q tm df V hR _ hu hd
        have e0 : tm[31]?.getD undef = macV x E1 k1 E2 k2 := hd 1 (by simp [Region.binds])
        have e1 : tm[32]?.getD undef = macV y G1 l1 G2 l2 := hd 2 (by simp [Region.binds])
        have HV := Lib.hid (HGX.out hR)
        clear hu hd hR
        go_simp
        refine (starts_any HV.out.mx HV.out.my).mono ?_
        rintro e w' ⟨rfl, f⟩
        exact ⟨_, rfl, rfl, f⟩
      · intro Q tm df V hR _ hu hd
        have e0 : tm[30]?.getD undef = .func (.func 48) #[] #[.pointer (some ⟨w.heap.size + 1 + 1, 0, none⟩)] := hd 0 (by simp [Region.binds])
        have e1 : tm[33]?.getD undef = pairV (x.start, y.start) := hd 3 (by simp [Region.binds])
        have HV := Lib.hid (HGX.out hR)
        clear hu hd hR
        go_simp
        refine (tog1_any HC.out HV.out.bt (x.start, y.start)).mono ?_
        rintro e w' ⟨rfl, f⟩
        rw [← HFI.out]
        exact ⟨_, rfl, rfl, f⟩
      · intro Q tm df V hR _ hu hd
        have HNV : Hid (n2 ≤ V.heap.size) := by have := hR.1; rw [HN2.out]; exact this
        clear hu hd
        go_simp
        exact ⟨_, rfl, ⟨V.heap.size, _, _, rfl, HNV.out, Blk.new _ _ _⟩, (Frm.refl _ V).alloc _⟩
      · intro Q tm df V hR hS hu hd
        obtain ⟨f1_, f2_⟩ := first
        obtain ⟨g, m0, m1, e0, hg, hb⟩ : pbP n2 (tm[10]?.getD undef) V := hd 5 (by simp [Region.binds])
        have e1 : tm[34]?.getD undef = pairV (f1_, f2_) := hd 4 (by simp [Region.binds])
        have y0 := hb.cell 0
        have y1 := hb.cell 1
        have z0 := hb.frozen 0
        have z1 := hb.frozen 1
        have hB := (hb.set_ 0 (.int .i64 f1_)).set_ 1 (.int .i64 f2_)
        have hF := Frm.set2 (w := V) g (.int .i64 f1_) (.int .i64 f2_)
        have hh : ∀ v, v = .pointer (some ⟨g, 0, none⟩) → pbQ n2 (f1_, f2_) v ((V.setCell ⟨g, 0, none⟩ (.int .i64 f1_)).setCell ⟨g, 1, none⟩ (.int .i64 f2_)) := fun v e => ⟨g, e, hg, hB⟩
        have hr : pbR n2 V ((V.setCell ⟨g, 0, none⟩ (.int .i64 f1_)).setCell ⟨g, 1, none⟩ (.int .i64 f2_)) := ⟨g, _, _, hg, hB, hF⟩
        have HH := Lib.hid hh
        have HRR := Lib.hid hr
        clear hu hd hS hb hB hF hh hr
        simp only [pairV] at e1
        go_simp
        exact ⟨HH.out _ e0, HRR.out⟩
    · intro vs3 V3 hR hf
      obtain ⟨pb, e8, hpb, hbp⟩ : pbQ n2 first (vs3 5) V3 := hf 6 (by decide)
      clear hf
      simp only [putAll, List.size_toArray, List.length_cons, List.length_nil, Nat.zero_add, Nat.reduceAdd, show List.range 7 = [0, 1, 2, 3, 4, 5, 6] from rfl, List.foldl_cons, List.foldl_nil, List.getD_cons_zero, List.getD_cons_succ, List.setIfInBounds_toArray, List.set_cons_zero, List.set_cons_succ, e8]
      have HG4 := Lib.hid (HGX.out hR)
      have HP4 := Lib.hid hbp
      have HF4 : Hid (Frm (fun _ => False) w V3) := ((HF3.out.mono fun _ _ h => h.elim).trans hR).mono fun b hb e => by have := HN2.out; have := HF3.out.1; omega
      have HZ4 := Lib.hid (hR.blk HZ3.out (by have := HZ3.out.lt; have := HN2.out; omega))
      clear hR hbp hpb HGX HG3 HF3 HZ3 e8
      go_wp2_with fail
      refine wp_region_listI [35, 36, 37] [vV (pairV first), vV (pairV (-1, -1)), vV (.bool (first.1 == -1 && first.2 == -1))] (Frm (fun _ => False)) [] [(10, .pointer (some ⟨pb, 0, none⟩))] (by kernel_rfl) (by kernel_rfl) (by kernel_rfl) (fun _ _ _ => Frm.trans) ?_ (fun _ h => by cases h) (Frm.refl _ _).drew ?_ ?_ ?_
      · intro f hf v w w' h F
        simp only [List.mem_cons, List.not_mem_nil, or_false] at hf
        rcases hf with rfl | rfl | rfl <;> exact h
      · intro x hx
        simp only [List.mem_cons, List.not_mem_nil, or_false] at hx
        rcases hx with rfl
        exact ⟨by simp, rfl⟩
      · refine ⟨?_, ?_, ?_, trivial⟩
        · intro Q tm df V hR hu hd
          have u1 : tm[10]?.getD undef = .pointer (some ⟨pb, 0, none⟩) := hu (10, _) (by simp)
          have hb := hR.blk HP4.out id
          have y0 := hb.cell 0
          have y1 := hb.cell 1
          clear hu hd hb
          go_simp
          exact ⟨_, rfl, rfl, Frm.refl _ V⟩
        · intro Q tm df V hR hu hd
          clear hu hd
          go_simp
          refine (nowhere_any V).mono ?_
          rintro e w' ⟨rfl, f⟩
          exact ⟨_, rfl, rfl, f⟩
        · intro Q tm df V hR hu hd
          have e0 : tm[35]?.getD undef = pairV first := hd 0 (by simp [Region.binds])
          have e1 : tm[36]?.getD undef = pairV (-1, -1) := hd 1 (by simp [Region.binds])
          clear hu hd
          simp only [pairV] at e0 e1
          by_cases g1 : first.1 = -1
          · by_cases g2 : first.2 = -1
            · have HV : Hid (Value.bool true = .bool (first.1 == -1 && first.2 == -1)) := show _ = _ by simp [g1, g2]
              go_simp
              exact ⟨_, rfl, (by first | rfl | exact HV.out), Frm.refl _ V⟩
            · have HV : Hid (Value.bool false = .bool (first.1 == -1 && first.2 == -1)) := show _ = _ by simp [g1, g2]
              go_simp
              exact ⟨_, rfl, (by first | rfl | exact HV.out | (show Value.bool false = Value.bool (first.2 == -1); simp [g2])), Frm.refl _ V⟩
          · have HV : Hid (Value.bool false = .bool (first.1 == -1 && first.2 == -1)) := show _ = _ by simp [g1]
            go_simp
            exact ⟨_, rfl, (by first | rfl | exact HV.out), Frm.refl _ V⟩
      · intro vs4 V4 hR hf
        have e7 : vs4 2 = .bool (first.1 == -1 && first.2 == -1) := hf 2 (by decide)
        clear hf
        simp only [putAll, List.size_toArray, List.length_cons, List.length_nil, Nat.zero_add, Nat.reduceAdd, show List.range 3 = [0, 1, 2] from rfl, List.foldl_cons, List.foldl_nil, List.getD_cons_zero, List.getD_cons_succ, List.setIfInBounds_toArray, List.set_cons_zero, List.set_cons_succ, e7]
        have HG5 := Lib.hid (HG4.out.frm hR fun _ _ => id)
        have HP5 := Lib.hid (hR.blk HP4.out id)
        have HF5 := Lib.hid (HF4.out.trans hR)
        have HZ5 := Lib.hid (hR.blk HZ4.out id)
        clear hR HG4 HP4 HF4 HZ4 e7
        by_cases hfirst : first = (-1, -1)
        · have hb : (first.1 == -1 && first.2 == -1) = true := by rw [hfirst]; rfl
          have HTM : Hid (A.togM T x y = A.noM x) := A.togM_no (by rw [← HFI.out]; exact hfirst)
          have z0 := HZ5.out.cell 0
          have z1 := HZ5.out.cell 1
          have z2 := HZ5.out.cell 2
          have z3 := HZ5.out.cell 3
          have q0 := HZ5.out.frozen 0
          have q1 := HZ5.out.frozen 1
          have q2 := HZ5.out.frozen 2
          have q3 := HZ5.out.frozen 3
          have x0 := HG5.out.ba.cell 0
          simp only [zeroM] at z0 z1 z2 z3
          simp only [macC] at x0
          rw [hb]
          clear hb hfirst
          go_wp2_with fail
          refine bodyPost_ret (w := put4 V4 (w.heap.size + 1 + 1 + 1) (.int .i64 x.letters) (.int .i64 (-1)) (.slice none 0 0) (.slice none 0 0)) (v := .tuple #[.agg #[.int .i64 x.letters, .int .i64 (-1), .slice none 0 0, .slice none 0 0], .int .i64 0]) ?_ rfl ⟨_, by rw [HY.out], by rw [HY.out]; show MachAt _ _ _ (A.togM T x y); rw [HTM.out]; exact ⟨_, _, rfl, ⟨none, 0, rfl, fun _ hk => absurd hk (Nat.not_lt_zero _)⟩, ⟨none, 0, rfl, fun _ hk => absurd hk (Nat.not_lt_zero _)⟩⟩, put4_frm HF5.out (by omega)⟩
          have h4 := put4_blk (l := .int .i64 x.letters) (s := .int .i64 (-1)) (n := .slice none 0 0) (e := .slice none 0 0) HZ5.out
          generalize put4 V4 (w.heap.size + 1 + 1 + 1) (.int .i64 x.letters) (.int .i64 (-1)) (.slice none 0 0) (.slice none 0 0) = w4 at *
          clear z0 z1 z2 z3 q0 q1 q2 q3
          have y0 := h4.cell 0
          have y1 := h4.cell 1
          have y2 := h4.cell 2
          have y3 := h4.cell 3
          simp [results, Try.results24, go_sem, y0, y1, y2, y3]
        have hb : (first.1 == -1 && first.2 == -1) = false := by
          by_cases g1 : first.1 = -1
          · by_cases g2 : first.2 = -1
            · exact absurd (Prod.ext g1 g2) hfirst
            · simp [g1, g2]
          · simp [g1]
        obtain ⟨ts, rows, hsr, hFd, hpf, htl, hlo, hln, hmn, hjn⟩ := A.togM_ok HTR.out HTW.out.fa HTW.out.fb HTW.out.ll HTW.out.la HNX.out (by rw [← HFI.out]; exact hfirst)
        rw [← HFI.out] at hsr hFd
        obtain ⟨L, hL⟩ := Int.eq_ofNat_of_zero_le HTW.out.fa.letters
        have HSR : Hid (A.searchO (A.nxJ T x y) 20000 first (-1, -1) L 20000 = some (ts, rows)) := by
          rw [hL, Int.toNat_natCast] at hsr
          exact hsr
        have HFD := Lib.hid hFd
        have HPF := Lib.hid hpf
        have HTL := Lib.hid htl
        have HLO := Lib.hid hlo
        have HLN := Lib.hid hln
        have HLL := Lib.hid hL
        rw [hb]
        clear hb hfirst hsr hFd hpf htl hlo hln hmn hjn hL
        go_wp2_with fail
        obtain ⟨n5, hn5⟩ : ∃ n5, n5 = V4.heap.size := ⟨_, rfl⟩
        have HN5 := Lib.hid hn5
        have HOK : Hid (okP first ∧ okP (-1, -1)) := by
          have hd := (HFD.out.dom _ (List.mem_of_getElem? HFD.out.first)).1
          exact ⟨okP_small (BPr.of_in HTW.out hd), okP_small (by unfold BPr; decide)⟩
        have HNXT : Hid (∀ {W1 : World}, Frm (fun _ => False) V4 W1 → ∀ (p : A.Pr) (k : Int) (q : A.Pr) (W : World), A.nxJ T x y p k = some q → Frm (fun _ => False) W1 W → okP q ∧ Calls Try.prog 49 #[pairV p, .int .i64 k, .pointer (some ⟨cb, 0, none⟩), .pointer (some ⟨w.heap.size, 0, none⟩), .pointer (some ⟨w.heap.size + 1, 0, none⟩)] W fun e w' => e = .returned (pairV q) ∧ Frm (fun _ => False) W w') := fun {W1} hW1 p k q W hq hW => by
          unfold A.nxJ at hq
          split at hq
          case isFalse => cases hq
          rename_i hin
          injection hq with hq
          subst hq
          have hI : A.InP x y p := ⟨⟨hin.1, hin.2.1⟩, hin.2.2.1, hin.2.2.2.1⟩
          have hI2 := leadP_in HTW.out hI hin.2.2.2.2.1 hin.2.2.2.2.2
          refine ⟨?_, tog2_any HC.out (HG5.out.frm (hW1.trans hW) fun _ _ => id) HTW.out p k hI hin.2.2.2.2.1 hin.2.2.2.2.2⟩
          rcases A.cnt_or (T := T) (A.leadP x y p k) with h | h
          · rw [h]; exact okP_small (BPr.of_in HTW.out hI2)
          · rw [h]; exact HOK.out.2
        clear hn5
        refine wp_region_listI [42, 43, 44, 45, 46, 47, 41, 48, 49, 50, 11, 12, 13] [vV (pairV first), vV (pairV (-1, -1)), vV (.pointer (some ⟨w.heap.size, 0, none⟩)), vV (.int .i64 (L : Int)), vV (.func (.func 49) #[] #[.pointer (some ⟨cb, 0, none⟩), .pointer (some ⟨w.heap.size, 0, none⟩), .pointer (some ⟨w.heap.size + 1, 0, none⟩)]), jP n5 ts rows, jP n5 ts rows, jT n5 ts, jR n5 rows, vV (.bool true), jT n5 ts, jR n5 rows, vV (.bool true)] (Frm (fun _ => False)) [] [(10, .pointer (some ⟨pb, 0, none⟩)), (9, .pointer (some ⟨cb, 0, none⟩)), (3, .pointer (some ⟨w.heap.size, 0, none⟩)), (4, .pointer (some ⟨w.heap.size + 1, 0, none⟩))] (by kernel_rfl) (by kernel_rfl) (by kernel_rfl) (fun _ _ _ => Frm.trans) ?_ (fun _ h => by cases h) (Frm.refl _ _).drew ?_ ?_ ?_
        · intro f hf v a' b' h F
          simp only [List.mem_cons, List.not_mem_nil, or_false] at hf
          rcases hf with rfl | rfl | rfl | rfl | rfl | rfl | rfl | rfl | rfl | rfl | rfl | rfl | rfl
          · exact h
          · exact h
          · exact h
          · exact h
          · exact h
          · exact jP.q h F
          · exact jP.q h F
          · exact jT.q h F
          · exact jR.q h F
          · exact h
          · exact jT.q h F
          · exact jR.q h F
          · exact h
        · intro x hx
          simp only [List.mem_cons, List.not_mem_nil, or_false] at hx
          rcases hx with rfl | rfl | rfl | rfl <;> exact ⟨by simp, rfl⟩
        · refine ⟨?_, ?_, ?_, ?_, ?_, ?_, ?_, ?_, ?_, ?_, ?_, ?_, ?_, trivial⟩
          · intro Q tm df V hR hu hd
            have u1 : tm[10]?.getD undef = .pointer (some ⟨pb, 0, none⟩) := hu (10, _) (by simp)
            have hb := hR.blk HP5.out id
            have y0 := hb.cell 0
            have y1 := hb.cell 1
            clear hu hd hb
            go_simp
            exact ⟨_, rfl, rfl, Frm.refl _ V⟩
          · intro Q tm df V hR hu hd
            clear hu hd
            go_simp
            refine (nowhere_any V).mono ?_
            rintro e w' ⟨rfl, f⟩
            exact ⟨_, rfl, rfl, f⟩
          · intro Q tm df V hR hu hd
            have u1 : tm[3]?.getD undef = .pointer (some ⟨w.heap.size, 0, none⟩) := hu (3, _) (by simp)
            clear hu hd
            go_simp
            exact ⟨_, rfl, rfl, Frm.refl _ V⟩
          · intro Q tm df V hR hu hd
            have e0 : tm[44]?.getD undef = .pointer (some ⟨w.heap.size, 0, none⟩) := hd 2 (by simp [Region.binds])
            have y0 := (HG5.out.frm hR fun _ _ => id).ba.cell 0
            simp only [macC] at y0
            rw [HLL.out] at y0
            clear hu hd
            go_simp
            exact ⟨_, rfl, rfl, Frm.refl _ V⟩
          · intro Q tm df V hR hu hd
            have u1 : tm[9]?.getD undef = .pointer (some ⟨cb, 0, none⟩) := hu (9, _) (by simp)
            have u2 : tm[3]?.getD undef = .pointer (some ⟨w.heap.size, 0, none⟩) := hu (3, _) (by simp)
            have u3 : tm[4]?.getD undef = .pointer (some ⟨w.heap.size + 1, 0, none⟩) := hu (4, _) (by simp)
            clear hu hd
            go_simp
            exact ⟨_, rfl, rfl, Frm.refl _ V⟩
          · intro Q tm df V hR hu hd
            have e0 : tm[42]?.getD undef = pairV first := hd 0 (by simp [Region.binds])
            have e1 : tm[43]?.getD undef = pairV (-1, -1) := hd 1 (by simp [Region.binds])
            have e2 : tm[45]?.getD undef = .int .i64 (L : Int) := hd 3 (by simp [Region.binds])
            have e3 : tm[46]?.getD undef = .func (.func 49) #[] #[.pointer (some ⟨cb, 0, none⟩), .pointer (some ⟨w.heap.size, 0, none⟩), .pointer (some ⟨w.heap.size + 1, 0, none⟩)] := hd 4 (by simp [Region.binds])
            have HR := Lib.hid hR
            have HNV : Hid (n5 ≤ V.heap.size) := by have := hR.1; rw [HN5.out]; exact this
            have hL3 : L ≤ 300 := by have := HTW.out.la; have := HLL.out; omega
            clear hu hd hR
            go_simp
            refine (searchJ_any (HNXT.out HR.out) HOK.out.1 HOK.out.2 hL3 (by decide) (by decide) HSR.out).mono ?_
            rintro e w' ⟨uT, uR, rfl, ho, hr, f⟩
            exact ⟨_, rfl, ⟨uT, uR, rfl, own_base_ ho HNV.out, hr.mono fun b hb => Nat.le_trans HNV.out hb⟩, f⟩
          · intro Q tm df V hR hu hd
            have e0 : jP n5 ts rows (tm[47]?.getD undef) V := hd 5 (by simp [Region.binds])
            clear hu hd
            go_simp
            exact ⟨_, rfl, e0, Frm.refl _ V⟩
          · intro Q tm df V hR hu hd
            obtain ⟨uT, uR, e0, h1, h2⟩ : jP n5 ts rows (tm[41]?.getD undef) V := hd 6 (by simp [Region.binds])
            have H1 := Lib.hid h1
            clear hu hd h1 h2
            go_simp
            exact ⟨_, rfl, H1.out, Frm.refl _ V⟩
          · intro Q tm df V hR hu hd
            obtain ⟨uT, uR, e0, h1, h2⟩ : jP n5 ts rows (tm[41]?.getD undef) V := hd 6 (by simp [Region.binds])
            have H1 := Lib.hid h2
            clear hu hd h1 h2
            go_simp
            exact ⟨_, rfl, H1.out, Frm.refl _ V⟩
          · intro Q tm df V hR hu hd
            obtain ⟨uT, uR, e0, h1, h2⟩ : jP n5 ts rows (tm[41]?.getD undef) V := hd 6 (by simp [Region.binds])
            clear hu hd h1 h2
            go_simp
            exact ⟨_, rfl, rfl, Frm.refl _ V⟩
          · intro Q tm df V hR hu hd
            have e0 : jT n5 ts (tm[48]?.getD undef) V := hd 7 (by simp [Region.binds])
            clear hu hd
            go_simp
            exact ⟨_, rfl, e0, Frm.refl _ V⟩
          · intro Q tm df V hR hu hd
            have e0 : jR n5 rows (tm[49]?.getD undef) V := hd 8 (by simp [Region.binds])
            clear hu hd
            go_simp
            exact ⟨_, rfl, e0, Frm.refl _ V⟩
          · intro Q tm df V hR hu hd
            have e0 : tm[50]?.getD undef = .bool true := hd 9 (by simp [Region.binds])
            clear hu hd
            go_simp
            exact ⟨_, rfl, rfl, Frm.refl _ V⟩
        · intro vs6 V6 hR hf
          have ho : jT n5 ts (vs6 10) V6 := hf 10 (by decide)
          have hr : jR n5 rows (vs6 11) V6 := hf 11 (by decide)
          have e7 : vs6 12 = .bool true := hf 12 (by decide)
          clear hf
          simp only [putAll, List.size_toArray, List.length_cons, List.length_nil, Nat.zero_add, Nat.reduceAdd, show List.range 13 = [0, 1, 2, 3, 4, 5, 6, 7, 8, 9, 10, 11, 12] from rfl, List.foldl_cons, List.foldl_nil, List.getD_cons_zero, List.getD_cons_succ, List.setIfInBounds_toArray, List.set_cons_zero, List.set_cons_succ, e7]
          generalize vs6 10 = uT at *
          generalize vs6 11 = uR at *
          have HG6 := Lib.hid (HG5.out.frm hR fun _ _ => id)
          have HF6 := Lib.hid (HF5.out.trans hR)
          have HZ6 := Lib.hid (hR.blk HZ5.out id)
          have HN6 : Hid (n5 ≤ V6.heap.size) := by have := hR.1; rw [HN5.out]; exact this
          have htp := HFD.out.pos
          obtain ⟨gT, cT, rfl, hgT⟩ := own_some ho htp
          obtain ⟨AR, cR, rfl, hRR⟩ := id hr
          have HTS : Hid (∀ k (hk : k < ts.length), V6.cell? ⟨gT, k * 2, none⟩ = some (.int .i64 ts[k].1) ∧ V6.cell? ⟨gT, k * 2 + 1, none⟩ = some (.int .i64 ts[k].2)) := fun k hk => by
            have hcl := @World.ownsRow.cells _ _ _ _ _ _ _ ho gT rfl
            obtain ⟨p1, p2⟩ := pairC_get ts k hk
            have c0 := hcl (k * 2) _ p1
            have c1 := hcl (k * 2 + 1) _ p2
            rw [add_zero_off] at c0 c1
            exact ⟨c0, c1⟩
          have HGT : Hid (gT < V6.heap.size) := cell_lt (HTS.out 0 htp).1
          have HRW := Lib.hid hr
          have HNT : Hid (rows.length = ts.length) := HFD.out.ln
          have htl := HTL.out
          have hmk := run_make_row' (P := Try.prog) 23 4 (.bool false) 1 Try.underlying23 info_boolE rfl .i64 .i64 ts.length (by omega) (by omega)
          clear hR ho hr hRR e7 HG5 HF5 HZ5 HP5 HNXT HOK HSR HN5 htp
          go_wp2_with fail
          obtain ⟨V7, hV7⟩ : ∃ V7, V7 = V6.alloc (.cells (madeCells #[.bool false] ts.length) 4) := ⟨_, rfl⟩
          have FA : Frm (fun _ => False) V6 V7 := by rw [hV7]; exact (Frm.refl _ _).alloc _
          obtain ⟨eb, heb⟩ : ∃ eb, eb = V6.heap.size := ⟨_, rfl⟩
          have HE7 : Hid (Blk V7 eb 4 (boolCs (A.fillB (fun p : A.Pr => T (A.ends x p.1) (A.ends y p.2)) ts 0))) := by
            rw [hV7, heb, A.fillB_zero, ← boolCs_made]
            exact Blk.new V6 _ _
          have HEB : Hid (V6.heap.size ≤ eb) := show _ ≤ _ by omega
          have HF7 : Hid (Frm (fun b => V6.heap.size ≤ b) V6 V7) := FA.mono fun _ _ h => h.elim
          rw [← hV7, ← heb]
          clear hmk FA hV7 heb
          go_loopg [59] (ts.length + 1) (fun n u wr => ∃ k : Nat, k ≤ ts.length ∧ n = ts.length + 1 - k ∧ u = .int .i64 (k : Int) ∧ Hid (Blk wr eb 4 (boolCs (A.fillB (fun p : A.Pr => T (A.ends x p.1) (A.ends y p.2)) ts k))) ∧ Hid (Frm (fun b => V6.heap.size ≤ b) V6 wr))
          case atStart => exact ⟨0, Nat.zero_le _, rfl, rfl, HE7, HF7⟩
          case round =>
            clear HE7 HF7
            obtain ⟨k, hk, rfl, rfl, HE, HF⟩ := hrel
            by_cases hlt : k < ts.length
            · have hlt' : (k : Int) < (ts.length : Int) := by omega
              obtain ⟨c0, c1⟩ := HTS.out k hlt
              have c0 := HF.out.cell (show ¬ V6.heap.size ≤ gT by have := HGT.out; omega) c0
              have c1 := HF.out.cell (show ¬ V6.heap.size ≤ gT by have := HGT.out; omega) c1
              obtain ⟨⟨s1, s2⟩, hst⟩ : ∃ q, q = ts[k] := ⟨_, rfl⟩
              rw [← hst] at c0 c1
              have HST : Hid (ts[k]? = some (s1, s2)) := by rw [hst]; exact List.getElem?_eq_getElem hlt
              dsimp only at c0 c1
              clear hst
              go_wp2_with fail
              obtain ⟨V8, hV8⟩ : ∃ V8, V8 = wr.alloc (.cells #[.int .i64 s1, .int .i64 s2] 57) := ⟨_, rfl⟩
              have FA : Frm (fun _ => False) wr V8 := by rw [hV8]; exact (Frm.refl _ _).alloc _
              obtain ⟨qb, hqb⟩ : ∃ qb, qb = wr.heap.size := ⟨_, rfl⟩
              have HQ8 : Hid (Blk V8 qb 57 #[.int .i64 s1, .int .i64 s2]) := by rw [hV8, hqb]; exact Blk.new wr _ _
              have HE8 := Lib.hid (FA.blk HE.out id)
              have HF8 : Hid (Frm (fun b => V6.heap.size ≤ b) V6 V8) := HF.out.trans (FA.mono fun _ _ h => h.elim)
              have HGX : Hid (∀ {V : World}, Frm (fun b => b = eb) V8 V → TgAt V T tf w.heap.size (w.heap.size + 1) (w.heap.size + 1 + 1) cb x y E1 k1 E2 k2 G1 l1 G2 l2) := fun F => HG6.out.frm (HF8.out.trans (F.mono fun b _ e => by have := HEB.out; omega)) fun b hb e => by omega
              have HQE : Hid (qb ≠ eb) := show _ ≠ _ from fun e => by
                have h1 := HQ8.out
                have h2 := HE8.out
                rw [e] at h1
                exact absurd (blk_type h1 h2) (by decide)
              have HSD := HFD.out.dom _ (List.mem_of_getElem? HST.out)
              have HIN : Hid (A.In x s1 ∧ A.In y s2) := HSD.1
              rw [← hV8, ← hqb]
              clear hV8 hqb FA HF HE HSD
              obtain ⟨bo, hbo⟩ : ∃ bo, bo = T (A.ends x s1) (A.ends y s2) := ⟨_, rfl⟩
              have HBO := Lib.hid hbo
              clear hbo
              refine wp_region_depI [64, 65, 66, 67, 68, 69, 70, 71, 72, 73, 74, 75, 76, 1000] [[0], [1], [2], [3], [4], [5], [6], [7], [8], [9], [10], [11], [12], []]
                [f1 (vV (.slice (some ⟨eb, 0, none⟩) ts.length ts.length)), f1 (vV (.int .i64 (k : Int))), f1 (vV (.func (.func tf) #[] #[])), f1 (vV (macV x E1 k1 E2 k2)), f1 (vV (.pointer (some ⟨qb, 0, none⟩))), f1 (vV (.int .i64 s1)), f1 (vV (.bool (A.ends x s1))), f1 (vV (macV y G1 l1 G2 l2)), f1 (vV (.pointer (some ⟨qb, 1, none⟩))), f1 (vV (.int .i64 s2)), f1 (vV (.bool (A.ends y s2))), f1 (vV (.bool bo)), f1 (vV (.pointer (some ⟨eb, k, none⟩))), fun _ V => Blk V eb 4 (boolCs (A.fillB (fun p : A.Pr => T (A.ends x p.1) (A.ends y p.2)) ts (k + 1)))]
                (Frm (fun b => b = eb)) (fun i => if i = 13 then Frm (fun b => b = eb) else Frm (fun _ => False)) (fun i V => i = 13 → Blk V eb 4 (boolCs (A.fillB (fun p : A.Pr => T (A.ends x p.1) (A.ends y p.2)) ts k))) [] [(14, .slice (some ⟨eb, 0, none⟩) ts.length ts.length), (15, .int .i64 (k : Int)), (5, .pointer (some ⟨w.heap.size + 1 + 1, 0, none⟩)), (3, .pointer (some ⟨w.heap.size, 0, none⟩)), (16, .pointer (some ⟨qb, 0, none⟩)), (4, .pointer (some ⟨w.heap.size + 1, 0, none⟩))] (by kernel_rfl) (by kernel_rfl) (by kernel_rfl) (fun _ _ _ => Frm.trans) ?_ ?_ ?_ ?_ (fun _ h => by cases h) (Frm.refl _ _).drew ?_ ?_ ?_
              · intro i a b h
                split at h
                · exact h
                · exact h.mono fun _ _ h => h.elim
              · intro j i hj hi hne hna l a b hf hr
                have hj' : j < 14 := hj
                have hcs : j = 0 ∨ j = 1 ∨ j = 2 ∨ j = 3 ∨ j = 4 ∨ j = 5 ∨ j = 6 ∨ j = 7 ∨ j = 8 ∨ j = 9 ∨ j = 10 ∨ j = 11 ∨ j = 12 ∨ j = 13 := by omega
                rcases hcs with rfl | rfl | rfl | rfl | rfl | rfl | rfl | rfl | rfl | rfl | rfl | rfl | rfl | rfl
                · exact hf
                · exact hf
                · exact hf
                · exact hf
                · exact hf
                · exact hf
                · exact hf
                · exact hf
                · exact hf
                · exact hf
                · exact hf
                · exact hf
                · exact hf
                · rw [if_neg hne] at hr
                  exact Frm.blk hr hf id
              · intro i k hk hne _ a b h hr e
                subst e
                rw [if_neg (Ne.symm hne)] at hr
                exact hr.blk (h rfl) id
              · intro i e
                exact HE8.out.drew
              · intro x hx
                simp only [List.mem_cons, List.not_mem_nil, or_false] at hx
                rcases hx with rfl | rfl | rfl | rfl | rfl | rfl <;> exact ⟨by simp, rfl⟩
              · refine ⟨?_, ?_, ?_, ?_, ?_, ?_, ?_, ?_, ?_, ?_, ?_, ?_, ?_, ?_, trivial⟩
                · intro Q tm df V hR _ hu hd
                  have u1 : tm[14]?.getD undef = .slice (some ⟨eb, 0, none⟩) ts.length ts.length := hu (14, _) (by simp)
                  clear hu hd
                  go_simp
                  exact ⟨_, rfl, rfl, Frm.refl _ V⟩
                · intro Q tm df V hR _ hu hd
                  have u1 : tm[15]?.getD undef = .int .i64 (k : Int) := hu (15, _) (by simp)
                  clear hu hd
                  go_simp
                  exact ⟨_, rfl, rfl, Frm.refl _ V⟩
                · intro Q tm df V hR _ hu hd
                  have u1 : tm[5]?.getD undef = .pointer (some ⟨w.heap.size + 1 + 1, 0, none⟩) := hu (5, _) (by simp)
                  have y0 := (HGX.out hR).bt.cell 0
                  clear hu hd
                  go_simp
                  exact ⟨_, rfl, rfl, Frm.refl _ V⟩
                · intro Q tm df V hR _ hu hd
                  have u1 : tm[3]?.getD undef = .pointer (some ⟨w.heap.size, 0, none⟩) := hu (3, _) (by simp)
                  have y0 := (HGX.out hR).ba.cell 0
                  have y1 := (HGX.out hR).ba.cell 1
                  have y2 := (HGX.out hR).ba.cell 2
                  have y3 := (HGX.out hR).ba.cell 3
                  simp only [macC] at y0 y1 y2 y3
                  clear hu hd
                  go_simp
                  exact ⟨_, rfl, rfl, Frm.refl _ V⟩
                · intro Q tm df V hR _ hu hd
                  have u1 : tm[16]?.getD undef = .pointer (some ⟨qb, 0, none⟩) := hu (16, _) (by simp)
                  clear hu hd
                  go_simp
                  exact ⟨_, rfl, rfl, Frm.refl _ V⟩
                · intro Q tm df V hR _ hu hd
                  have e0 : tm[68]?.getD undef = .pointer (some ⟨qb, 0, none⟩) := hd 4 (by simp [Region.binds])
                  have y0 := (hR.blk HQ8.out HQE.out).cell 0
                  clear hu hd
                  go_simp
                  exact ⟨_, rfl, rfl, Frm.refl _ V⟩
                · intro Q tm df V hR _ hu hd
                  have e0 : tm[67]?.getD undef = macV x E1 k1 E2 k2 := hd 3 (by simp [Region.binds])
                  have e1 : tm[69]?.getD undef = .int .i64 s1 := hd 5 (by simp [Region.binds])
                  have HV := Lib.hid (HGX.out hR)
                  clear hu hd hR
                  go_simp
                  refine (ends_any HV.out.mx HTW.out.fa s1 HIN.out.1).mono ?_
                  rintro e w' ⟨rfl, f⟩
                  exact ⟨_, rfl, rfl, f⟩
                · intro Q tm df V hR _ hu hd
                  have u1 : tm[4]?.getD undef = .pointer (some ⟨w.heap.size + 1, 0, none⟩) := hu (4, _) (by simp)
                  have y0 := (HGX.out hR).bb.cell 0
                  have y1 := (HGX.out hR).bb.cell 1
                  have y2 := (HGX.out hR).bb.cell 2
                  have y3 := (HGX.out hR).bb.cell 3
                  simp only [macC] at y0 y1 y2 y3
                  clear hu hd
                  go_simp
                  exact ⟨_, rfl, rfl, Frm.refl _ V⟩
                · intro Q tm df V hR _ hu hd
                  have u1 : tm[16]?.getD undef = .pointer (some ⟨qb, 0, none⟩) := hu (16, _) (by simp)
                  clear hu hd
                  go_simp
                  exact ⟨_, rfl, rfl, Frm.refl _ V⟩
                · intro Q tm df V hR _ hu hd
                  have e0 : tm[72]?.getD undef = .pointer (some ⟨qb, 1, none⟩) := hd 8 (by simp [Region.binds])
                  have y0 := (hR.blk HQ8.out HQE.out).cell 1
                  clear hu hd
                  go_simp
                  exact ⟨_, rfl, rfl, Frm.refl _ V⟩
                · intro Q tm df V hR _ hu hd
                  have e0 : tm[71]?.getD undef = macV y G1 l1 G2 l2 := hd 7 (by simp [Region.binds])
                  have e1 : tm[73]?.getD undef = .int .i64 s2 := hd 9 (by simp [Region.binds])
                  have HV := Lib.hid (HGX.out hR)
                  clear hu hd hR
                  go_simp
                  refine (ends_any HV.out.my HTW.out.fb s2 HIN.out.2).mono ?_
                  rintro e w' ⟨rfl, f⟩
                  exact ⟨_, rfl, rfl, f⟩
                · intro Q tm df V hR _ hu hd
                  have e0 : tm[66]?.getD undef = .func (.func tf) #[] #[] := hd 2 (by simp [Region.binds])
                  have e1 : tm[70]?.getD undef = .bool (A.ends x s1) := hd 6 (by simp [Region.binds])
                  have e2 : tm[74]?.getD undef = .bool (A.ends y s2) := hd 10 (by simp [Region.binds])
                  have hrun := HC.out.run #[.bool (A.ends x s1), .bool (A.ends y s2)] V
                  clear hu hd hR
                  go_simp
                  refine (HC.out.is V (A.ends x s1) (A.ends y s2)).mono ?_
                  rintro e w' ⟨rfl, f⟩
                  exact ⟨_, rfl, (by rw [HBO.out]; rfl), f⟩
                · intro Q tm df V hR _ hu hd
                  have e0 : tm[64]?.getD undef = .slice (some ⟨eb, 0, none⟩) ts.length ts.length := hd 0 (by simp [Region.binds])
                  have e1 : tm[65]?.getD undef = .int .i64 (k : Int) := hd 1 (by simp [Region.binds])
                  clear hu hd
                  go_simp
                  exact ⟨_, rfl, rfl, Frm.refl _ V⟩
                · intro Q tm df V hR hS hu hd
                  have e1 : tm[76]?.getD undef = .pointer (some ⟨eb, k, none⟩) := hd 12 (by simp [Region.binds])
                  have e2 : tm[75]?.getD undef = .bool bo := hd 11 (by simp [Region.binds])
                  have hbE := hS rfl
                  have hlen := A.fillB_len (f := fun p : A.Pr => T (A.ends x p.1) (A.ends y p.2)) hk
                  have z0 := (hbE.cell k).trans (boolCs_getD (by omega))
                  have z1 := hbE.frozen k
                  have hB : Blk (V.setCell ⟨eb, k, none⟩ (.bool bo)) eb 4 (boolCs (A.fillB (fun p : A.Pr => T (A.ends x p.1) (A.ends y p.2)) ts (k + 1))) := by
                    rw [← A.fillB_succ HST.out, ← boolCs_set]
                    dsimp only
                    rw [← HBO.out]
                    exact hbE.set_ k _
                  have HB := Lib.hid hB
                  clear hu hd hS hbE hB hlen
                  generalize (A.fillB (fun p : A.Pr => T (A.ends x p.1) (A.ends y p.2)) ts k).getD k false = old at *
                  go_simp
                  exact ⟨HB.out, Frm.one eb k _⟩
              · intro vs9 V9 hR hf
                have HE9 : Hid (Blk V9 eb 4 (boolCs (A.fillB (fun p : A.Pr => T (A.ends x p.1) (A.ends y p.2)) ts (k + 1)))) := hf 13 (by decide)
                clear hf
                simp only [putAll, List.size_toArray, List.length_cons, List.length_nil, Nat.zero_add, Nat.reduceAdd, show List.range 14 = [0, 1, 2, 3, 4, 5, 6, 7, 8, 9, 10, 11, 12, 13] from rfl, List.foldl_cons, List.foldl_nil, List.getD_cons_zero, List.getD_cons_succ, List.setIfInBounds_toArray, List.set_cons_zero, List.set_cons_succ]
                have HF9 : Hid (Frm (fun b => V6.heap.size ≤ b) V6 V9) := HF8.out.trans (hR.mono fun b _ e => by have := HEB.out; omega)
                clear hR HF8 HE8 HQ8 HGX c0 c1
                go_wp2_with fail
                go_roundg (ts.length + 1 - (k + 1))
                case measure => omega
                case rel => exact ⟨k + 1, by omega, rfl, by go_num, HE9, HF9⟩
            · have hlt' : ¬ (k : Int) < (ts.length : Int) := by omega
              obtain rfl : k = ts.length := by omega
              have x0 := (HG6.out.frm HF.out fun b hb e => by omega).ba.cell 0
              simp only [macC] at x0
              have HE9 : Hid (Blk wr eb 4 (boolCs (ts.map fun p : A.Pr => T (A.ends x p.1) (A.ends y p.2)))) := show Blk _ _ _ _ by rw [← A.fillB_all]; exact HE.out
              have HM9 : Hid (MachAt wr (fun b => b < wr.heap.size) (.agg #[.int .i64 x.letters, .int .i64 0, .slice AR rows.length cR, .slice (some ⟨eb, 0, none⟩) ts.length ts.length]) (A.pairsM T x y ts rows)) := MachAt.below (P := fun _ => True) ⟨_, _, rfl, (Rows2.keep (Rows2.lt HRW.out) HF.out fun b hb e => by have := hb.2; omega).mono fun _ _ => trivial, ⟨some ⟨eb, 0, none⟩, ts.length, by simp [A.pairsM, A.macOf], fun j hj => ⟨eb, 0, rfl, trivial, by
                have hj' : j < ts.length := by simpa [A.pairsM, A.macOf] using hj
                rw [Nat.zero_add, HE9.out.cell j, boolCs_getD (by simpa using hj')]
                simp [A.pairsM, A.macOf, hj']⟩⟩⟩
              have HFW : Hid (Frm (fun _ => False) w wr) := ((HF6.out.mono fun _ _ h => h.elim).trans HF.out).mono fun b hb e => by have := HF6.out.1; omega
              have HZ9 := Lib.hid (HF.out.blk HZ6.out (by have := HZ6.out.lt; omega))
              clear HE HF HE9 HTS HRW
              go_wp2_with fail
              clear x0
              have hnr : (A.pairsM T x y ts rows).next.length ≤ 100000 := by
                show rows.length ≤ 100000
                have := HNT.out
                omega
              refine (least_any HM9.out HPF.out hnr HTW.out.la (by decide) HLO.out).mono ?_
              rintro _ w10 ⟨r10, rfl, m10, f⟩
              obtain ⟨C1, h1, C2, h2, rfl⟩ := MachAt.form m10
              obtain ⟨W11, hW11⟩ : ∃ W11, W11 = w10.alloc (.cells #[.int .i64 (A.togM T x y).letters, .int .i64 (A.togM T x y).start, .slice C1 (A.togM T x y).next.length h1, .slice C2 (A.togM T x y).fin.length h2] 25) := ⟨_, rfl⟩
              have FA : Frm (fun _ => False) w10 W11 := by rw [hW11]; exact (Frm.refl _ _).alloc _
              have HO11 : Hid (Blk W11 w10.heap.size 25 #[.int .i64 (A.togM T x y).letters, .int .i64 (A.togM T x y).start, .slice C1 (A.togM T x y).next.length h1, .slice C2 (A.togM T x y).fin.length h2]) := by rw [hW11]; exact Blk.new w10 _ _
              have HM11 := Lib.hid (m10.keep0 FA)
              have HF11 := Lib.hid ((HFW.out.trans f).trans FA)
              have HZ11 := Lib.hid (FA.blk (f.blk HZ9.out id) id)
              have HSW : Hid (w.heap.size + 1 + 1 + 1 < wr.heap.size) := HZ9.out.lt
              have hne : w.heap.size + 1 + 1 + 1 ≠ w10.heap.size := by have := (f.blk HZ9.out id).lt; omega
              have hln := HLN.out
              have hgt : ¬ (4000 : Int) < ((A.togM T x y).next.length : Int) := by omega
              clear f FA m10 HFW HZ9
              have o0 := HO11.out.cell 0
              have o1 := HO11.out.cell 1
              have o2 := HO11.out.cell 2
              have o3 := HO11.out.cell 3
              have z0 := HZ11.out.cell 0
              have z1 := HZ11.out.cell 1
              have z2 := HZ11.out.cell 2
              have z3 := HZ11.out.cell 3
              have q0 := HZ11.out.frozen 0
              have q1 := HZ11.out.frozen 1
              have q2 := HZ11.out.frozen 2
              have q3 := HZ11.out.frozen 3
              simp only [zeroM] at z0 z1 z2 z3
              rw [hW11] at o0 o1 o2 o3 z0 z1 z2 z3 q0 q1 q2 q3
              go_wp2_with fail
              rw [← hW11]
              clear o0 o1 o2 o3 z0 z1 z2 z3 q0 q1 q2 q3 hW11
              have h5 := put4_frm1 (w := W11) (b := w.heap.size + 1 + 1 + 1) (l := .int .i64 (A.togM T x y).letters) (s := .int .i64 (A.togM T x y).start) (n := .slice C1 (A.togM T x y).next.length h1) (e := .slice C2 (A.togM T x y).fin.length h2)
              refine bodyPost_ret (w := put4 W11 (w.heap.size + 1 + 1 + 1) (.int .i64 (A.togM T x y).letters) (.int .i64 (A.togM T x y).start) (.slice C1 (A.togM T x y).next.length h1) (.slice C2 (A.togM T x y).fin.length h2)) (v := .tuple #[.agg #[.int .i64 (A.togM T x y).letters, .int .i64 (A.togM T x y).start, .slice C1 (A.togM T x y).next.length h1, .slice C2 (A.togM T x y).fin.length h2], .int .i64 0]) ?_ rfl ⟨_, by rw [HY.out], by rw [HY.out]; exact (HM11.out.keep h5 fun b hb e => by have := HSW.out; omega).mono fun b hb => by have := HSW.out; omega, put4_frm HF11.out (by omega)⟩
              have h4 := put4_blk (l := .int .i64 (A.togM T x y).letters) (s := .int .i64 (A.togM T x y).start) (n := .slice C1 (A.togM T x y).next.length h1) (e := .slice C2 (A.togM T x y).fin.length h2) HZ11.out
              generalize put4 W11 (w.heap.size + 1 + 1 + 1) (.int .i64 (A.togM T x y).letters) (.int .i64 (A.togM T x y).start) (.slice C1 (A.togM T x y).next.length h1) (.slice C2 (A.togM T x y).fin.length h2) = w4 at *
              clear h5
              have y0 := h4.cell 0
              have y1 := h4.cell 1
              have y2 := h4.cell 2
              have y3 := h4.cell 3
              simp [results, Try.results24, go_sem, y0, y1, y2, y3]
end Go.Proofs.Ytldmjpnldgekaaa
end
section
namespace Go.Proofs.Ytldmjpnldgekaaa
open Go.RowKit
set_option maxRecDepth 100000 in
set_option maxHeartbeats 8000000 in
theorem both_any {w : World} {P Q : Nat → Prop} {va vb : Value} {a b : A.Mac} (h : MachAt w P va a) (h' : MachAt w Q vb b) (sa : Sized a) (sb : Sized b) (hN : A.fit a b = 0 → (1 + a.next.length) * (1 + b.next.length) ≤ 4000) :
    Calls Try.prog 10 #[va, vb] w fun e w' => ∃ r, e = .returned (.tuple #[r, .int .i64 (A.tog (fun a b => a && b) a b).2]) ∧ MachAt w' (fun x => w.heap.size ≤ x) r (A.tog (fun a b => a && b) a b).1 ∧ Frm (fun _ => False) w w' := by
  obtain ⟨A1, c1, A2, c2, rfl⟩ := h.form
  obtain ⟨B1, d1, B2, d2, rfl⟩ := h'.form
  obtain ⟨W0, hW0⟩ : ∃ W0, W0 = ((w.alloc (.cells (macC a A1 c1 A2 c2) 25)).alloc (.cells (macC b B1 d1 B2 d2) 25)).alloc (.cells zeroM 25) := ⟨_, rfl⟩
  have HF0 : Hid (Frm (fun _ => False) w W0) := by rw [hW0]; exact (((Frm.refl _ w).alloc _).alloc _).alloc _
  have HA0 : Hid (Blk W0 w.heap.size 25 (macC a A1 c1 A2 c2)) := by rw [hW0]; exact ((Blk.new w _ _).alloc _).alloc _
  have HB0 : Hid (Blk W0 (w.heap.size + 1) 25 (macC b B1 d1 B2 d2)) := by rw [hW0]; exact (Blk.alloc (blk_at (by simp)) _)
  have HZ0 : Hid (Blk W0 (w.heap.size + 1 + 1) 25 zeroM) := by rw [hW0]; exact blk_at (by simp)
  have HS0 : Hid (w.heap.size + 1 + 1 < W0.heap.size) := HZ0.out.lt
  have HM := Lib.hid h
  have HM' := Lib.hid h'
  have HS := Lib.hid sa
  have HS' := Lib.hid sb
  have HNN := Lib.hid hN
  clear h h' sa sb hN
  have e0 := HA0.out.cell 0
  have e1 := HA0.out.cell 1
  have e2 := HA0.out.cell 2
  have e3 := HA0.out.cell 3
  have g0 := HB0.out.cell 0
  have g1 := HB0.out.cell 1
  have g2 := HB0.out.cell 2
  have g3 := HB0.out.cell 3
  simp only [macC] at e0 e1 e2 e3 g0 g1 g2 g3
  have HW0 := Lib.hid hW0
  simp only [zeroM, macC] at hW0
  rw [hW0] at e0 e1 e2 e3 g0 g1 g2 g3
  go_enter Try.func10, Try.ntmps10
  go_wp2_with fail
  rw [← hW0]
  clear e0 e1 e2 e3 g0 g1 g2 g3 hW0 HW0
  refine (together_any (HM.out.keep0 HF0.out) (HM'.out.keep0 HF0.out) HS.out HS'.out A.rule_and tells_and HNN.out).mono ?_
  rintro _ w1 ⟨r, rfl, m1, f1⟩
  obtain ⟨o, c, ho⟩ : ∃ o c, A.tog (fun a b => a && b) a b = (o, c) := ⟨_, _, rfl⟩
  rw [ho] at m1 ⊢
  dsimp only at m1 ⊢
  have HO := Lib.hid ho
  obtain ⟨C1, h1, C2, h2, rfl⟩ := MachAt.form m1
  have HM1 := Lib.hid m1
  have HF1 := Lib.hid (HF0.out.trans f1)
  have HZ1 := Lib.hid (f1.blk HZ0.out id)
  clear f1 m1 HF0 HZ0 HA0 HB0 ho
  have z0 := HZ1.out.cell 0
  have z1 := HZ1.out.cell 1
  have z2 := HZ1.out.cell 2
  have z3 := HZ1.out.cell 3
  have q0 := HZ1.out.frozen 0
  have q1 := HZ1.out.frozen 1
  have q2 := HZ1.out.frozen 2
  have q3 := HZ1.out.frozen 3
  simp only [zeroM] at z0 z1 z2 z3
  go_wp2_with fail
  clear z0 z1 z2 z3 q0 q1 q2 q3
  have h5 := put4_frm1 (w := w1) (b := w.heap.size + 1 + 1) (l := .int .i64 o.letters) (s := .int .i64 o.start) (n := .slice C1 o.next.length h1) (e := .slice C2 o.fin.length h2)
  refine bodyPost_ret (w := put4 w1 (w.heap.size + 1 + 1) (.int .i64 o.letters) (.int .i64 o.start) (.slice C1 o.next.length h1) (.slice C2 o.fin.length h2)) (v := .tuple #[.agg #[.int .i64 o.letters, .int .i64 o.start, .slice C1 o.next.length h1, .slice C2 o.fin.length h2], .int .i64 c]) ?_ rfl ⟨_, by rw [HO.out], by rw [HO.out]; exact MachAt.mono (P := fun z => W0.heap.size ≤ z) (Q := fun z => w.heap.size ≤ z) (HM1.out.keep h5 fun b hb e => by have := HS0.out; omega) (fun b hb => by have := HS0.out; omega), put4_frm HF1.out (by omega)⟩
  have h4 := put4_blk (l := .int .i64 o.letters) (s := .int .i64 o.start) (n := .slice C1 o.next.length h1) (e := .slice C2 o.fin.length h2) HZ1.out
  generalize put4 w1 (w.heap.size + 1 + 1) (.int .i64 o.letters) (.int .i64 o.start) (.slice C1 o.next.length h1) (.slice C2 o.fin.length h2) = w4 at *
  clear h5
  have y0 := h4.cell 0
  have y1 := h4.cell 1
  have y2 := h4.cell 2
  have y3 := h4.cell 3
  simp [results, Try.results10, go_sem, y0, y1, y2, y3]
set_option maxRecDepth 100000 in
set_option maxHeartbeats 8000000 in
theorem either_any {w : World} {P Q : Nat → Prop} {va vb : Value} {a b : A.Mac} (h : MachAt w P va a) (h' : MachAt w Q vb b) (sa : Sized a) (sb : Sized b) (hN : A.fit a b = 0 → (1 + a.next.length) * (1 + b.next.length) ≤ 4000) :
    Calls Try.prog 12 #[va, vb] w fun e w' => ∃ r, e = .returned (.tuple #[r, .int .i64 (A.tog (fun a b => a || b) a b).2]) ∧ MachAt w' (fun x => w.heap.size ≤ x) r (A.tog (fun a b => a || b) a b).1 ∧ Frm (fun _ => False) w w' := by
  obtain ⟨A1, c1, A2, c2, rfl⟩ := h.form
  obtain ⟨B1, d1, B2, d2, rfl⟩ := h'.form
  obtain ⟨W0, hW0⟩ : ∃ W0, W0 = ((w.alloc (.cells (macC a A1 c1 A2 c2) 25)).alloc (.cells (macC b B1 d1 B2 d2) 25)).alloc (.cells zeroM 25) := ⟨_, rfl⟩
  have HF0 : Hid (Frm (fun _ => False) w W0) := by rw [hW0]; exact (((Frm.refl _ w).alloc _).alloc _).alloc _
  have HA0 : Hid (Blk W0 w.heap.size 25 (macC a A1 c1 A2 c2)) := by rw [hW0]; exact ((Blk.new w _ _).alloc _).alloc _
  have HB0 : Hid (Blk W0 (w.heap.size + 1) 25 (macC b B1 d1 B2 d2)) := by rw [hW0]; exact (Blk.alloc (blk_at (by simp)) _)
  have HZ0 : Hid (Blk W0 (w.heap.size + 1 + 1) 25 zeroM) := by rw [hW0]; exact blk_at (by simp)
  have HS0 : Hid (w.heap.size + 1 + 1 < W0.heap.size) := HZ0.out.lt
  have HM := Lib.hid h
  have HM' := Lib.hid h'
  have HS := Lib.hid sa
  have HS' := Lib.hid sb
  have HNN := Lib.hid hN
  clear h h' sa sb hN
  have e0 := HA0.out.cell 0
  have e1 := HA0.out.cell 1
  have e2 := HA0.out.cell 2
  have e3 := HA0.out.cell 3
  have g0 := HB0.out.cell 0
  have g1 := HB0.out.cell 1
  have g2 := HB0.out.cell 2
  have g3 := HB0.out.cell 3
  simp only [macC] at e0 e1 e2 e3 g0 g1 g2 g3
  have HW0 := Lib.hid hW0
  simp only [zeroM, macC] at hW0
  rw [hW0] at e0 e1 e2 e3 g0 g1 g2 g3
  go_enter Try.func12, Try.ntmps12
  go_wp2_with fail
  rw [← hW0]
  clear e0 e1 e2 e3 g0 g1 g2 g3 hW0 HW0
  refine (together_any (HM.out.keep0 HF0.out) (HM'.out.keep0 HF0.out) HS.out HS'.out A.rule_or tells_or HNN.out).mono ?_
  rintro _ w1 ⟨r, rfl, m1, f1⟩
  obtain ⟨o, c, ho⟩ : ∃ o c, A.tog (fun a b => a || b) a b = (o, c) := ⟨_, _, rfl⟩
  rw [ho] at m1 ⊢
  dsimp only at m1 ⊢
  have HO := Lib.hid ho
  obtain ⟨C1, h1, C2, h2, rfl⟩ := MachAt.form m1
  have HM1 := Lib.hid m1
  have HF1 := Lib.hid (HF0.out.trans f1)
  have HZ1 := Lib.hid (f1.blk HZ0.out id)
  clear f1 m1 HF0 HZ0 HA0 HB0 ho
  have z0 := HZ1.out.cell 0
  have z1 := HZ1.out.cell 1
  have z2 := HZ1.out.cell 2
  have z3 := HZ1.out.cell 3
  have q0 := HZ1.out.frozen 0
  have q1 := HZ1.out.frozen 1
  have q2 := HZ1.out.frozen 2
  have q3 := HZ1.out.frozen 3
  simp only [zeroM] at z0 z1 z2 z3
  go_wp2_with fail
  clear z0 z1 z2 z3 q0 q1 q2 q3
  have h5 := put4_frm1 (w := w1) (b := w.heap.size + 1 + 1) (l := .int .i64 o.letters) (s := .int .i64 o.start) (n := .slice C1 o.next.length h1) (e := .slice C2 o.fin.length h2)
  refine bodyPost_ret (w := put4 w1 (w.heap.size + 1 + 1) (.int .i64 o.letters) (.int .i64 o.start) (.slice C1 o.next.length h1) (.slice C2 o.fin.length h2)) (v := .tuple #[.agg #[.int .i64 o.letters, .int .i64 o.start, .slice C1 o.next.length h1, .slice C2 o.fin.length h2], .int .i64 c]) ?_ rfl ⟨_, by rw [HO.out], by rw [HO.out]; exact MachAt.mono (P := fun z => W0.heap.size ≤ z) (Q := fun z => w.heap.size ≤ z) (HM1.out.keep h5 fun b hb e => by have := HS0.out; omega) (fun b hb => by have := HS0.out; omega), put4_frm HF1.out (by omega)⟩
  have h4 := put4_blk (l := .int .i64 o.letters) (s := .int .i64 o.start) (n := .slice C1 o.next.length h1) (e := .slice C2 o.fin.length h2) HZ1.out
  generalize put4 w1 (w.heap.size + 1 + 1) (.int .i64 o.letters) (.int .i64 o.start) (.slice C1 o.next.length h1) (.slice C2 o.fin.length h2) = w4 at *
  clear h5
  have y0 := h4.cell 0
  have y1 := h4.cell 1
  have y2 := h4.cell 2
  have y3 := h4.cell 3
  simp [results, Try.results12, go_sem, y0, y1, y2, y3]
end Go.Proofs.Ytldmjpnldgekaaa
end
section
namespace Go.Proofs.Ytldmjpnldgekaaa
open Go.RowKit
set_option maxRecDepth 100000 in
set_option maxHeartbeats 4000000 in
theorem shaped_any {w : World} {P : Nat → Prop} {v : Value} {m : A.Mac} (h : MachAt w P v m) (hs : Sized m) :
    Calls Try.prog 31 #[v] w fun e w' => e = .returned (.bool (A.fits m)) ∧ Frm (fun _ => False) w w' := by
  obtain ⟨nv, ev, rfl, ⟨A1, c1, rfl, hN⟩, ⟨A2, c2, rfl, hE⟩⟩ := h
  obtain ⟨lt, st, nx, fn⟩ := m
  obtain ⟨hn, he, hr⟩ := hs
  dsimp only at *
  have HN := Lib.hid hN
  have HRL := Lib.hid hr
  clear hN hE hr
  have bx := Blk.new w 25 #[.int .i64 lt, .int .i64 st, .slice A1 nx.length c1, .slice A2 fn.length c2]
  have x0 := bx.cell 0
  have x1 := bx.cell 1
  have x2 := bx.cell 2
  have x3 := bx.cell 3
  have BX := Lib.hid bx
  have F0 : Hid (Frm (fun _ => False) w (w.alloc (.cells #[.int .i64 lt, .int .i64 st, .slice A1 nx.length c1, .slice A2 fn.length c2] 25))) := (Frm.refl _ w).alloc _
  clear bx
  unfold maxLen at hn he
  by_cases a1 : lt < 0
  · have HX : Hid (A.fits ⟨lt, st, nx, fn⟩ = false) := Bool.eq_false_iff.2 fun h => by have := (A.fits_iff.1 h).letters; dsimp only at this; omega
    go_enter Try.func31, Try.ntmps31
    go_wp2_with fail
    go_ret
    exact ⟨ret_bool HX.out.symm, by first | exact F0.out | exact F0.out.drew⟩
  have a1' : 0 ≤ lt := by omega
  clear a1
  by_cases a2 : nx.length = fn.length
  case neg =>
    have hlen : ((fn.length : Int) != (nx.length : Int)) = true := by rw [bne_iff_ne]; omega
    have HX : Hid (A.fits ⟨lt, st, nx, fn⟩ = false) := Bool.eq_false_iff.2 fun h => a2 (A.fits_iff.1 h).fin
    have HA2 := Lib.hid a2
    clear a2
    go_enter Try.func31, Try.ntmps31
    go_wp2_with fail
    go_ret
    exact ⟨ret_bool HX.out.symm, by first | exact F0.out | exact F0.out.drew⟩
  have hlen : ((fn.length : Int) != (nx.length : Int)) = false := by simp [a2]
  have HA2 := Lib.hid a2
  clear a2
  by_cases a3 : nx.length = 0
  · have hz : ((nx.length : Int) == 0) = true := by simp [a3]
    have hp : ¬ (0 : Int) < (nx.length : Int) := by omega
    have HA3 := Lib.hid a3
    clear a3
    by_cases a4 : st = -1
    · subst a4
      have HX : Hid (A.fits ⟨lt, -1, nx, fn⟩ = true) := A.fits_iff.2 ⟨a1', HA2.out, ⟨by dsimp only; omega, by dsimp only; omega⟩, fun _ => HA3.out, fun row hr => by
        have : nx = [] := List.length_eq_zero_iff.1 HA3.out
        subst this
        cases hr⟩
      go_enter Try.func31, Try.ntmps31
      go_wp2_with fail
      go_loopg [4] 1 (fun n i wr => i = .int .i64 0 ∧ Hid (Frm (fun _ => False) w wr))
      case atStart => exact ⟨rfl, by first | exact F0 | exact F0.out.drew⟩
      case round =>
        obtain ⟨rfl, F⟩ := hrel
        go_wp2_with fail
        go_ret
        exact ⟨ret_bool HX.out.symm, F.out⟩
    · have HX : Hid (A.fits ⟨lt, st, nx, fn⟩ = false) := Bool.eq_false_iff.2 fun h => by
        have h1 := (A.fits_iff.1 h).start
        have h3 := HA3.out
        unfold A.In at h1
        dsimp only at h1
        omega
      have hst : (st != -1) = true := by rw [bne_iff_ne]; exact a4
      have HA4 := Lib.hid a4
      clear a4
      go_enter Try.func31, Try.ntmps31
      go_wp2_with fail
      go_ret
      exact ⟨ret_bool HX.out.symm, by first | exact F0.out | exact F0.out.drew⟩
  have a3' : (0 : Int) < (nx.length : Int) := by omega
  have hz : ((nx.length : Int) == 0) = false := by rw [beq_eq_false_iff_ne]; omega
  clear a3
  by_cases a4 : st < 0
  · have HX : Hid (A.fits ⟨lt, st, nx, fn⟩ = false) := Bool.eq_false_iff.2 fun h => by
      have h1 := (A.fits_iff.1 h).start
      have h2 := (A.fits_iff.1 h).none
      unfold A.In at h1
      dsimp only at h1 h2
      have := h2 (by omega)
      omega
    go_enter Try.func31, Try.ntmps31
    go_wp2_with fail
    go_ret
    exact ⟨ret_bool HX.out.symm, by first | exact F0.out | exact F0.out.drew⟩
  have a4' : 0 ≤ st := by omega
  clear a4
  by_cases a5 : (nx.length : Int) ≤ st
  · have HX : Hid (A.fits ⟨lt, st, nx, fn⟩ = false) := Bool.eq_false_iff.2 fun h => by have := (A.fits_iff.1 h).start.2; dsimp only at this; omega
    go_enter Try.func31, Try.ntmps31
    go_wp2_with fail
    go_ret
    exact ⟨ret_bool HX.out.symm, by first | exact F0.out | exact F0.out.drew⟩
  have a5' : st < (nx.length : Int) := by omega
  clear a5
  have HH : Hid (A.fits ⟨lt, st, nx, fn⟩ = nx.all (A.okRow ⟨lt, st, nx, fn⟩)) := show _ = _ by
    unfold A.fits
    have a2 := HA2.out
    simp [a1', a2, show -1 ≤ st by omega, show ¬ st = -1 by omega]
    omega
  go_enter Try.func31, Try.ntmps31
  go_wp2_with fail
  go_loopg [4] (nx.length + 1) (fun n i wr => ∃ k : Nat, k ≤ nx.length ∧ n = nx.length + 1 - k ∧ i = .int .i64 (k : Int) ∧ Hid (Blk wr w.heap.size 25 #[.int .i64 lt, .int .i64 st, .slice A1 nx.length c1, .slice A2 fn.length c2]) ∧ Hid (A.fits ⟨lt, st, nx, fn⟩ = (nx.drop k).all (A.okRow ⟨lt, st, nx, fn⟩)) ∧ Hid (Frm (fun _ => False) w wr))
  case atStart => exact ⟨0, Nat.zero_le _, rfl, rfl, by first | exact BX | exact BX.out.drew, HH, by first | exact F0 | exact F0.out.drew⟩
  case round =>
    obtain ⟨k, hk, rfl, rfl, X, HK, F⟩ := hrel
    have y0 := X.out.cell 0
    have y2 := X.out.cell 2
    by_cases hlt : k < nx.length
    · have hlt' : (k : Int) < (nx.length : Int) := by omega
      obtain ⟨g, o, rv, hA, -, hc, A3, c3, rfl, hrow⟩ := HN.out k hlt
      subst hA
      have hc' := F.out.cell id hc
      have hrl := HRL.out _ (List.getElem_mem hlt)
      have HS : Hid ((nx.drop k).all (A.okRow ⟨lt, st, nx, fn⟩) = (A.okRow ⟨lt, st, nx, fn⟩ nx[k] && (nx.drop (k + 1)).all (A.okRow ⟨lt, st, nx, fn⟩))) := show _ = _ by rw [List.drop_eq_getElem_cons hlt, List.all_cons]
      have HRow := Lib.hid hrow
      generalize nx[k] = row at *
      unfold maxLen at hrl
      have HC := Lib.hid hc
      clear hc hrow
      by_cases hl : (row.length : Int) = lt
      · have hb : ((row.length : Int) != lt) = false := by rw [hl]; simp
        have HL := Lib.hid hl
        have HO : Hid (A.okRow ⟨lt, st, nx, fn⟩ row = row.all fun x => decide (-1 ≤ x) && decide (x < (nx.length : Int))) := show _ = _ by rw [okRow_split]; simp [hl]
        clear hl
        go_wp2_with fail
        go_quiet (fail)
        go_wp2_with fail
        go_loopg [5] (row.length + 1) (fun n i wr => ∃ j : Nat, j ≤ row.length ∧ n = row.length + 1 - j ∧ i = .int .i64 (j : Int) ∧ Hid (Blk wr w.heap.size 25 #[.int .i64 lt, .int .i64 st, .slice (some ⟨g, o, none⟩) nx.length c1, .slice A2 fn.length c2]) ∧ Hid (A.okRow ⟨lt, st, nx, fn⟩ row = (row.drop j).all fun x => decide (-1 ≤ x) && decide (x < (nx.length : Int))) ∧ Hid (Frm (fun _ => False) w wr))
        case atStart => exact ⟨0, Nat.zero_le _, rfl, rfl, by first | exact X | exact X.out.drew, HO, by first | exact F | exact F.out.drew⟩
        case round =>
          obtain ⟨j, hj, rfl, rfl, X, HJ, F⟩ := hrel
          have y0 := X.out.cell 0
          have y2 := X.out.cell 2
          have hc' := F.out.cell id HC.out
          by_cases hltj : j < row.length
          · have hltj' : (j : Int) < lt := by have := HL.out; omega
            have hltj2 : (j : Int) < (row.length : Int) := by omega
            obtain ⟨g3, o3, hA3, -, hcj⟩ := HRow.out j hltj
            subst hA3
            have hcj' := F.out.cell id hcj
            have HSJ : Hid (((row.drop j).all fun x => decide (-1 ≤ x) && decide (x < (nx.length : Int))) = ((decide (-1 ≤ row[j]) && decide (row[j] < (nx.length : Int))) && (row.drop (j + 1)).all fun x => decide (-1 ≤ x) && decide (x < (nx.length : Int)))) := show _ = _ by rw [List.drop_eq_getElem_cons hltj, List.all_cons]
            generalize row[j] = x at *
            clear hcj
            by_cases b1 : x < -1
            · have HF : Hid (A.fits ⟨lt, st, nx, fn⟩ = false) := show _ = _ by rw [HK.out, HS.out, HJ.out, HSJ.out, decide_eq_false (show ¬ -1 ≤ x by omega)]; simp
              go_wp2_with fail
              go_ret
              exact ⟨ret_bool HF.out.symm, by first | exact F.out | exact F.out.drew⟩
            have b1' : -1 ≤ x := by omega
            by_cases b2 : (nx.length : Int) ≤ x
            · have HF : Hid (A.fits ⟨lt, st, nx, fn⟩ = false) := show _ = _ by rw [HK.out, HS.out, HJ.out, HSJ.out, decide_eq_false (show ¬ x < (nx.length : Int) by omega)]; simp
              go_wp2_with fail
              go_ret
              exact ⟨ret_bool HF.out.symm, by first | exact F.out | exact F.out.drew⟩
            have b2' : x < (nx.length : Int) := by omega
            have HJ2 : Hid (A.okRow ⟨lt, st, nx, fn⟩ row = (row.drop (j + 1)).all fun x => decide (-1 ≤ x) && decide (x < (nx.length : Int))) := show _ = _ by rw [HJ.out, HSJ.out, decide_eq_true b1', decide_eq_true b2']; simp
            go_wp2_with fail
            go_roundg (row.length + 1 - (j + 1))
            case measure => omega
            case rel => exact ⟨j + 1, by omega, rfl, by go_num, by first | exact X | exact X.out.drew, HJ2, by first | exact F | exact F.out.drew⟩
          · have hltj' : ¬ (j : Int) < lt := by have := HL.out; omega
            have HK2 : Hid (A.fits ⟨lt, st, nx, fn⟩ = (nx.drop (k + 1)).all (A.okRow ⟨lt, st, nx, fn⟩)) := show _ = _ by rw [HK.out, HS.out, HJ.out, List.drop_of_length_le (by omega)]; simp
            go_wp2_with fail
            go_roundg (nx.length + 1 - (k + 1))
            case measure => omega
            case rel => exact ⟨k + 1, by omega, rfl, by go_num, X, HK2, F⟩
      · have hb : ((row.length : Int) != lt) = true := by rw [bne_iff_ne]; exact hl
        have HF : Hid (A.fits ⟨lt, st, nx, fn⟩ = false) := show _ = _ by rw [HK.out, HS.out, okRow_split]; simp [hl]
        go_wp2_with fail
        go_quiet (fail)
        go_wp2_with fail
        go_ret
        exact ⟨ret_bool HF.out.symm, by first | exact F.out | exact F.out.drew⟩
    · have hlt' : ¬ (k : Int) < (nx.length : Int) := by omega
      have HF : Hid (A.fits ⟨lt, st, nx, fn⟩ = true) := show _ = _ by rw [HK.out, List.drop_of_length_le (by omega)]; rfl
      go_wp2_with fail
      go_ret
      exact ⟨ret_bool HF.out.symm, F.out⟩
end Go.Proofs.Ytldmjpnldgekaaa
end
section
namespace Go.Proofs.Ytldmjpnldgekaaa
open Go.RowKit
set_option maxRecDepth 100000 in
set_option maxHeartbeats 2000000 in
theorem rvalid_any {w : World} {P : Nat → Prop} {v : Value} {m : A.Mac} (h : MachAt w P v m) (hs : Sized m) :
    Calls Try.prog 17 #[v] w fun e w' => e = .returned (.int .i64 (A.valid m)) ∧ Frm (fun _ => False) w w' := by
  obtain ⟨A1, c1, A2, c2, rfl⟩ := h.form
  have F0 : Frm (fun _ => False) w (w.alloc (.cells #[.int .i64 m.letters, .int .i64 m.start, .slice A1 m.next.length c1, .slice A2 m.fin.length c2] 25)) := (Frm.refl _ w).alloc _
  have HM := Lib.hid (h.keep0 F0)
  have HF0 := Lib.hid F0
  have bx := Lib.hid (Blk.new w 25 #[.int .i64 m.letters, .int .i64 m.start, .slice A1 m.next.length c1, .slice A2 m.fin.length c2])
  have HSZ := Lib.hid hs
  have hn := hs.1
  unfold maxLen at hn
  have HX : Hid (A.valid m = if A.fits m then (if 300 < m.letters ∨ 4000 < m.next.length then 5 else 0) else 1) := rfl
  clear h F0 hs
  have y0 := bx.out.cell 0
  have y1 := bx.out.cell 1
  have y2 := bx.out.cell 2
  have y3 := bx.out.cell 3
  go_enter Try.func17, Try.ntmps17
  go_wp2_with fail
  refine (shaped_any HM.out HSZ.out).mono ?_
  rintro _ w1 ⟨rfl, f1⟩
  have F1 := Lib.hid (HF0.out.trans f1)
  have x0 := (f1.blk bx.out id).cell 0
  have x2 := (f1.blk bx.out id).cell 2
  clear f1 y0 y1 y2 y3
  cases hf : A.fits m
  · have HY : Hid (A.valid m = 1) := show _ = _ by rw [HX.out, hf]; rfl
    clear hf
    go_wp2_with fail
    go_ret
    exact ⟨ret_int HY.out.symm, F1.out⟩
  · by_cases h1 : 300 < m.letters
    · have HY : Hid (A.valid m = 5) := show _ = _ by rw [HX.out, hf]; simp [h1]
      clear hf
      go_wp2_with fail
      go_ret
      exact ⟨ret_int HY.out.symm, by first | exact F1.out | exact F1.out.drew⟩
    · have h1' : m.letters ≤ 300 := by omega
      by_cases h2 : 4000 < m.next.length
      · have h2' : (4000 : Int) < (m.next.length : Int) := by omega
        have HY : Hid (A.valid m = 5) := show _ = _ by rw [HX.out, hf]; simp [h2]
        clear hf
        go_wp2_with fail
        go_ret
        exact ⟨ret_int HY.out.symm, by first | exact F1.out | exact F1.out.drew⟩
      · have h2' : (m.next.length : Int) ≤ 4000 := by omega
        have HY : Hid (A.valid m = 0) := show _ = _ by rw [HX.out, hf]; simp [h1, h2]
        clear hf
        go_wp2_with fail
        go_ret
        exact ⟨ret_int HY.out.symm, by first | exact F1.out | exact F1.out.drew⟩
end Go.Proofs.Ytldmjpnldgekaaa
end
