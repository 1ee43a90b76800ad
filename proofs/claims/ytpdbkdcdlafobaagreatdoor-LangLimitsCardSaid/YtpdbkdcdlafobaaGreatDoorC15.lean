/- The contract of resolve. Declarations in the order of names; pieces, as1 plain data. The contract of slices.SortFunc at declarations. The parser's contracts that call each other: what is to be shown, and body, block, com. Contracts of the program's functions, with no condition beyond what each theorem states. -/
import Derived.Test.YtpdbkdcdlafobaaGreatDoorC14
import Derived.Test.YtpdbkdcdlafobaaGreatDoorC11
import Derived.Test.YtpdbkdcdlafobaaGreatDoorC09
import Derived.Test.YtpdbkdcdlafobaaGreatDoorShelf
import Derived.Shelf.SlSortCmp.SmallK
import Derived.Ground.SlsfProg
import Derived.Test.YtpdbkdcdlafobaaGreatDoorC07
import Derived.Test.YtpdbkdcdlafobaaGreatDoorC01
section
namespace Go.Proofs.YtpdbkdcdlafobaaGreatDoor
open Go.RowKit
/-- The box of a reader's pointer. -/
def RBox (R rb : Nat) (w : World) : Prop := Blk w rb 64 #[.pointer (some ⟨R, 0, none⟩)]
theorem RBox.kt {R rb : Nat} (w w' : World) (k : Kt w w') (h : RBox R rb w) : RBox R rb w' := (k.2 _ (by unfold Own3; decide) _ _ h).trans h
def VisPost (n0 R E F : Nat) (caps : Array Value) (lo : Nat → Prop) (bs : List L.Bnd) (w : World) (p : Int × Option L.Tm) (r : Ending) (w' : World) : Prop :=
  (∃ v', r = .returned v' ∧ (match p.2 with | none => v' = .nilIface | some u => Rep w' (· < n0) u v')) ∧ RS w' R lo E (.func (.func F) #[] caps) bs p.1 ∧ Kp R E lo w w'
theorem Rep.notRead {w : World} {A : Nat → Prop} {t : L.Tm} {v : Value} (h : Rep w A t v) (hr : L.isRead t = false) : ∃ T cs, v = .iface T (.agg cs) ∧ T ≠ 93 := by
  obtain ⟨cs, rfl⟩ := h.ty
  refine ⟨_, _, rfl, ?_⟩
  cases t <;> first | (simp [tyOf]; done) | simp [L.isRead] at hr
set_option maxRecDepth 100000 in
set_option maxHeartbeats 2000000 in
theorem resolve1_vis (n0 R E rb : Nat) : Vis n0 R E 41 #[.pointer (some ⟨rb, 0, none⟩), .pointer (some ⟨E, 0, none⟩)] L.visResolve (RBox R rb) := by
  refine ⟨RBox.kt, fun x W => by kernel_rfl, ?_⟩
  intro w lo bs e t v hrs hinv hn0 hbs hrep _ hnd
  have HRS := Lib.hid hrs
  have HREP := Lib.hid hrep
  have HI := Lib.hid hinv
  obtain ⟨T, x, rfl⟩ := Rep.form hrep
  have hb := hinv.cell 0
  clear hrs hrep hinv
  refine Calls.mono (show Calls Tryz.prog 41 #[.iface T (.agg x), .pointer (some ⟨rb, 0, none⟩), .pointer (some ⟨E, 0, none⟩)] w (VisPost n0 R E 41 #[.pointer (some ⟨rb, 0, none⟩), .pointer (some ⟨E, 0, none⟩)] lo bs w (L.visResolve bs t e)) from ?_) fun _ _ h => h
  go_enter Tryz.func41, Tryz.ntmps41
  go_wp2_with fail
  refine (meant_any HRS.out.rd hbs HREP.out).mono ?_
  rintro _ w1 ⟨⟨v1, rfl, hv1⟩, f1⟩
  have HM := Lib.hid hv1
  have HRS1 := Lib.hid (HRS.out.frm f1)
  have HK1 : Hid (Kp R E lo w w1) := Kp.frm f1
  have hb1 := (f1.blk HI.out id).cell 0
  have he1 := HRS1.out.err.cell 0
  have hz1 := HRS1.out.err.frozen 0
  have hnm : L.nodes (L.meant bs t) ≤ 1000000 := by
    have : L.nodes (L.meant bs t) ≤ L.nodes t := by
      unfold L.meant
      split
      · split
        · simp [L.nodes]
        · exact Nat.le_refl _
      · exact Nat.le_refl _
    omega
  clear f1 hb
  have HVE : Hid (L.visResolve bs t e = (if e = 0 then L.wrong bs (L.meant bs t) else e, if L.isRead (L.meant bs t) then some (L.meant bs t) else none)) := rfl
  generalize L.meant bs t = m at *
  cases hr : L.isRead m
  · obtain ⟨T1, x1, rfl, hT⟩ := hv1.notRead hr
    have a1 := fun W => assert_read_no W T1 (.agg x1) hT
    clear hv1 hT
    by_cases h0 : e = 0
    · subst h0
      have HX : Hid (L.visResolve bs t 0 = (L.wrong bs m, none)) := show _ = _ by rw [HVE.out, hr]; rfl
      clear hr
      go_wp2_with fail
      refine (wrong_any HRS1.out.rd hbs HM.out hnm).mono ?_
      rintro _ w2 ⟨rfl, f2⟩
      have HRS2 := Lib.hid (HRS1.out.frm f2)
      have HK2 : Hid (Kp R E lo w w2) := HK1.out.trans (Kp.frm f2)
      have he2 := HRS2.out.err.cell 0
      have hz2 := HRS2.out.err.frozen 0
      clear he1 hz1 hb1 f2
      go_wp2_with fail
      go_ret
      rw [HX.out]
      obtain ⟨r1, r2⟩ := HRS2.out.set_ (L.wrong bs m)
      exact ⟨⟨_, rfl, rfl⟩, r1.frm ((Frm.refl _ _).alloc _), (HK2.out.trans r2).trans (Kp.frm ((Frm.refl _ _).alloc _))⟩
    · have HX : Hid (L.visResolve bs t e = (e, none)) := show _ = _ by rw [HVE.out, hr, if_neg h0]; rfl
      clear hr
      go_wp2_with fail
      go_ret
      rw [HX.out]
      exact ⟨⟨_, rfl, rfl⟩, HRS1.out.frm ((Frm.refl _ _).alloc _), HK1.out.trans (Kp.frm ((Frm.refl _ _).alloc _))⟩
  · obtain ⟨n, rfl⟩ : ∃ n, m = .read n := by cases m <;> first | exact ⟨_, rfl⟩ | simp [L.isRead] at hr
    obtain rfl := hv1
    have a1 := assert_read_yes
    by_cases h0 : e = 0
    · subst h0
      have HX : Hid (L.visResolve bs t 0 = (L.wrong bs (.read n), some (.read n))) := show _ = _ by rw [HVE.out]; rfl
      clear hr
      go_wp2_with fail
      refine (wrong_any HRS1.out.rd hbs HM.out hnm).mono ?_
      rintro _ w2 ⟨rfl, f2⟩
      have HRS2 := Lib.hid (HRS1.out.frm f2)
      have HK2 : Hid (Kp R E lo w w2) := HK1.out.trans (Kp.frm f2)
      have he2 := HRS2.out.err.cell 0
      have hz2 := HRS2.out.err.frozen 0
      clear he1 hz1 hb1 f2
      go_wp2_with fail
      go_ret
      rw [HX.out]
      obtain ⟨r1, r2⟩ := HRS2.out.set_ (L.wrong bs (.read n))
      exact ⟨⟨_, rfl, rfl⟩, r1.frm ((Frm.refl _ _).alloc _), (HK2.out.trans r2).trans (Kp.frm ((Frm.refl _ _).alloc _))⟩
    · have HX : Hid (L.visResolve bs t e = (e, some (.read n))) := show _ = _ by rw [HVE.out, if_neg h0]; rfl
      clear hr
      go_wp2_with fail
      go_ret
      rw [HX.out]
      exact ⟨⟨_, rfl, rfl⟩, HRS1.out.frm ((Frm.refl _ _).alloc _), HK1.out.trans (Kp.frm ((Frm.refl _ _).alloc _))⟩
theorem run_store_func (W : World) (a : Addr) (fn : Fn) (fi cs : Array Value) (m : Mode) : (store a (.func fn fi cs) m).run Tryz.prog W = stored Tryz.prog W a (.func fn fi cs) m := run_store Tryz.prog W a _ m rfl
/-- A reader whose visit is set. -/
theorem RdAt.visit {w : World} {R : Nat} {lo : Nat → Prop} {bs : List L.Bnd} {vis : Value} (h : RdAt w R lo bs vis) (f : Value) : RdAt (w.setCell ⟨R, 1, none⟩ f) R lo bs f ∧ Frm (· = R) w (w.setCell ⟨R, 1, none⟩ f) := by
  obtain ⟨v, hb, hR, hlo, cs, ho, hl, hB⟩ := h
  have F : Frm (· = R) w (w.setCell ⟨R, 1, none⟩ f) := (Frm.refl (· = R) w).set_ (p := ⟨R, 1, none⟩) (fun _ => rfl) _
  exact ⟨⟨v, hb.set_ 1 f, hR, fun b hb => hlo b (Nat.le_trans F.1 hb), cs, F.row ho (fun g hg e => hR (e ▸ hl g hg)) (Nat.le_refl _), hl, hB.keep (F.keeps1 hb (by decide))⟩, F⟩
set_option maxRecDepth 100000 in
set_option maxHeartbeats 2000000 in
theorem resolve_any (sl v : Value) (ds : List L.Decl) (t : L.Tm) (w : World) (hd : Decls w 0 sl ds) (hn : ds.length ≤ 1000) (hrep : Rep w (fun _ => True) t v) (hnd : L.nodes t ≤ 100000) :
    Calls Tryz.prog 18 #[sl, v] w fun e w' => (∃ v', e = .returned (.tuple #[v', .int .i64 (L.resolve ds t).2]) ∧ Rep w' (fun _ => True) (L.resolve ds t).1 v') ∧ Frm (fun _ => False) w w' := by
  have hr0 : Rep w (· < w.heap.size) t v := hrep.sub fun _ _ h => h
  obtain ⟨T, x, rfl⟩ := Rep.form hr0
  obtain ⟨A, c, rfl⟩ : ∃ A c, sl = .slice A ds.length c := by obtain ⟨cs, ho, _⟩ := hd; exact own_form ho
  have HR := Lib.hid hr0
  have HD := Lib.hid hd
  have hlv := hr0.ok.levels
  clear hrep hr0 hd
  go_enter Tryz.func18, Tryz.ntmps18
  go_wp2_with fail
  have F0 := (Frm.refl (fun _ => False) w).alloc (.cells #[.int .i64 0] 23)
  refine (newReader_any _ ds _ (HD.out.keep (Nat.le_refl _) fun b _ hl => F0.2 b hl id) hn).mono ?_
  rintro _ w1 ⟨rfl, rd1, f1⟩
  rw [World.size_alloc] at rd1
  have hE1 : Hid (ErrAt w1 w.heap.size 0) := f1.blk (Blk.new w 23 #[.int .i64 0]) id
  have hs1 : w.heap.size + 1 < w1.heap.size := by obtain ⟨v', hb, _⟩ := rd1; exact hb.lt
  have F1 := Lib.hid (F0.trans f1)
  obtain ⟨rdv, frv⟩ := rd1.visit (.func (.func 41) #[] #[.pointer (some ⟨w1.heap.size, 0, none⟩), .pointer (some ⟨w.heap.size, 0, none⟩)])
  have G1 := (Frm.refl (fun _ => False) (w1.setCell ⟨w.heap.size + 1, 1, none⟩ (.func (.func 41) #[] #[.pointer (some ⟨w1.heap.size, 0, none⟩), .pointer (some ⟨w.heap.size, 0, none⟩)]))).alloc (.cells #[.pointer (some ⟨w.heap.size + 1, 0, none⟩)] 64)
  have RD2 := Lib.hid (rdv.keep G1)
  obtain ⟨vb, hb1, -⟩ := rd1
  have c1 : ∀ o, (w1.alloc o).cell? ⟨w.heap.size + 1, 1, none⟩ = some .nilFunc := fun o => (hb1.alloc o).cell 1
  have z1 : ∀ o, (w1.alloc o).frozen? ⟨w.heap.size + 1, 1, none⟩ = false := fun o => (hb1.alloc o).frozen 1
  have hBX2 : Hid (RBox (w.heap.size + 1) w1.heap.size ((w1.setCell ⟨w.heap.size + 1, 1, none⟩ (.func (.func 41) #[] #[.pointer (some ⟨w1.heap.size, 0, none⟩), .pointer (some ⟨w.heap.size, 0, none⟩)])).alloc (.cells #[.pointer (some ⟨w.heap.size + 1, 0, none⟩)] 64))) := blk_at (by simp)
  have hcx := hBX2.out.cell 0
  have HE2 : Hid (ErrAt ((w1.setCell ⟨w.heap.size + 1, 1, none⟩ (.func (.func 41) #[] #[.pointer (some ⟨w1.heap.size, 0, none⟩), .pointer (some ⟨w.heap.size, 0, none⟩)])).alloc (.cells #[.pointer (some ⟨w.heap.size + 1, 0, none⟩)] 64)) w.heap.size 0) := Blk.alloc (frv.blk hE1.out (by omega)) _
  have F2 : Hid (Frm (fun _ => False) w ((w1.setCell ⟨w.heap.size + 1, 1, none⟩ (.func (.func 41) #[] #[.pointer (some ⟨w1.heap.size, 0, none⟩), .pointer (some ⟨w.heap.size, 0, none⟩)])).alloc (.cells #[.pointer (some ⟨w.heap.size + 1, 0, none⟩)] 64))) := (F1.out.set_ (p := ⟨w.heap.size + 1, 1, none⟩) (fun h => by dsimp only at h; omega) _).alloc _
  have HRP := Lib.hid (Rep.keep (A' := fun b => b < w.heap.size) (F2.out.same fun _ _ _ => id) (fun _ hb _ => hb) HR.out)
  have hok := HR.out.ok
  have HOK := Lib.hid hok
  have sf := run_store_func
  clear hb1 f1 rdv frv hok F0 G1
  go_wp2_with fail
  refine (read_ok (P := 1) (Nat.le_refl _) L.visResolve_good (resolve1_vis w.heap.size (w.heap.size + 1) w.heap.size w1.heap.size) HOK.out _ (fun b => w.heap.size + 1 < b) (ds.map L.ofDecl) 0 _ ⟨RD2.out, HE2.out⟩ hBX2.out F2.out.1 (by rw [List.length_map]; omega) (by omega) HRP.out).mono ?_
  rintro _ w4 ⟨⟨v4, rfl, hv4⟩, rs4, k4⟩
  have F4 : Hid (Frm (fun _ => False) w w4) := Frm.mono (E := fun b => b = w.heap.size + 1 ∨ b = w.heap.size ∨ w.heap.size + 1 < b) ((F2.out.mono fun _ _ h => h.elim).trans k4.3) fun b hb h => by omega
  have HE4 := Lib.hid rs4.err
  have e4 := HE4.out.cell 0
  obtain ⟨T4, x4, rfl⟩ := Rep.form hv4
  have HV4 := Lib.hid hv4
  clear hv4 rs4 k4 c1 z1 hcx
  go_wp2_with fail
  go_region
  go_wp2_with fail
  go_ret2
  have G := (Frm.refl (fun _ => False) w4).drew
  exact ⟨⟨_, rfl, Rep.keep (G.same fun _ _ _ => id) (fun _ _ _ => trivial) HV4.out⟩, F4.out.drew⟩
end Go.Proofs.YtpdbkdcdlafobaaGreatDoor
end
section
namespace Go.Proofs.YtpdbkdcdlafobaaGreatDoor.L
def ltB : Bytes → Bytes → Bool
  | [], [] => false
  | [], _ :: _ => true
  | _ :: _, [] => false
  | a :: as1, b :: bs => if a < b then true else if b < a then false else ltB as1 bs
theorem ltB_irrefl : ∀ a, ltB a a = false
  | [] => rfl
  | a :: as1 => by
    have h : ¬ a < a := by rw [UInt8.lt_iff_toNat_lt]; omega
    rw [ltB, if_neg h, if_neg h, ltB_irrefl as1]
theorem ltB_trans : ∀ a b c, ltB a b = true → ltB b c = true → ltB a c = true
  | [], [], _, h, _ => by simp [ltB] at h
  | [], _ :: _, [], _, h => by simp [ltB] at h
  | [], _ :: _, _ :: _, _, _ => rfl
  | _ :: _, [], _, h, _ => by simp [ltB] at h
  | _ :: _, _ :: _, [], _, h => by simp [ltB] at h
  | a :: as1, b :: bs, c :: cs, h1, h2 => by
    simp only [ltB, UInt8.lt_iff_toNat_lt] at h1 h2 ⊢
    by_cases x1 : a.toNat < b.toNat
    · by_cases x2 : b.toNat < c.toNat
      · rw [if_pos (by omega)]
      · rw [if_neg x2] at h2
        by_cases x3 : c.toNat < b.toNat
        · rw [if_pos x3] at h2; cases h2
        · rw [if_pos (by omega)]
    · rw [if_neg x1] at h1
      by_cases x4 : b.toNat < a.toNat
      · rw [if_pos x4] at h1; cases h1
      · rw [if_neg x4] at h1
        by_cases x2 : b.toNat < c.toNat
        · rw [if_pos (by omega)]
        · rw [if_neg x2] at h2
          by_cases x3 : c.toNat < b.toNat
          · rw [if_pos x3] at h2; cases h2
          · rw [if_neg x3] at h2
            rw [if_neg (by omega), if_neg (by omega)]
            exact ltB_trans as1 bs cs h1 h2
theorem ltB_total : ∀ a b, ltB a b = false → ltB b a = false → a = b
  | [], [], _, _ => rfl
  | [], _ :: _, h, _ => by simp [ltB] at h
  | _ :: _, [], _, h => by simp [ltB] at h
  | a :: as1, b :: bs, h1, h2 => by
    simp only [ltB, UInt8.lt_iff_toNat_lt] at h1 h2
    by_cases x1 : a.toNat < b.toNat
    · rw [if_pos x1] at h1; cases h1
    · by_cases x2 : b.toNat < a.toNat
      · rw [if_pos x2] at h2; cases h2
      · rw [if_neg x1, if_neg x2] at h1
        rw [if_neg x2, if_neg x1] at h2
        rw [ltB_total as1 bs h1 h2, show a = b from UInt8.toNat_inj.1 (by omega)]
theorem ltB_ntrans (x y z : Bytes) (h1 : ltB x y = false) (h2 : ltB y z = false) : ltB x z = false := by
  cases h : ltB x z
  · rfl
  · cases h3 : ltB y x
    · have := ltB_total x y h1 h3; subst this; rw [h] at h2; cases h2
    · have := ltB_trans y x z h3 h; rw [this] at h2; cases h2
def Sorted (l : List Decl) : Prop := l.Pairwise fun x y => ltB x.name y.name = true
def insD (d : Decl) : List Decl → List Decl
  | [] => [d]
  | e :: l => if ltB e.name d.name then e :: insD d l else d :: e :: l
def sortD : List Decl → List Decl
  | [] => []
  | d :: l => insD d (sortD l)
theorem insD_perm (d : Decl) : ∀ l, (insD d l).Perm (d :: l)
  | [] => List.Perm.refl _
  | e :: l => by
    rw [insD]
    split
    · exact ((insD_perm d l).cons e).trans (List.Perm.swap _ _ _)
    · exact List.Perm.refl _
theorem sortD_perm : ∀ l, (sortD l).Perm l
  | [] => List.Perm.refl _
  | d :: l => (insD_perm d _).trans ((sortD_perm l).cons d)
theorem insD_sorted {d : Decl} : ∀ {l : List Decl}, Sorted l → (∀ e ∈ l, e.name ≠ d.name) → Sorted (insD d l)
  | [], _, _ => by simp [insD, Sorted]
  | e :: l, h, hn => by
    rw [insD]
    have ⟨h1, h2⟩ := List.pairwise_cons.1 h
    cases hlt : ltB e.name d.name
    · simp only [Bool.false_eq_true, if_false]
      have hde : ltB d.name e.name = true := by
        cases h3 : ltB d.name e.name
        · exact absurd (ltB_total _ _ hlt h3) (hn e (List.mem_cons_self ..))
        · rfl
      refine List.pairwise_cons.2 ⟨fun x hx => ?_, h⟩
      rcases List.mem_cons.1 hx with rfl | hx
      · exact hde
      · exact ltB_trans _ _ _ hde (h1 x hx)
    · simp only [if_true]
      refine List.pairwise_cons.2 ⟨fun x hx => ?_, insD_sorted h2 fun y hy => hn y (List.mem_cons_of_mem _ hy)⟩
      rcases List.mem_cons.1 ((insD_perm d l).mem_iff.1 hx) with rfl | hx
      · exact hlt
      · exact h1 x hx
def Names (l : List Decl) : Prop := (l.map (·.name)).Nodup
theorem sortD_sorted : ∀ {l : List Decl}, Names l → Sorted (sortD l)
  | [], _ => List.Pairwise.nil
  | d :: l, h => by
    have ⟨h1, h2⟩ := List.nodup_cons.1 (show (d.name :: l.map (·.name)).Nodup from h)
    rw [sortD]
    exact insD_sorted (sortD_sorted h2) fun e he hn => h1 (by rw [← hn]; exact List.mem_map_of_mem ((sortD_perm l).mem_iff.1 he))
theorem sort_uniq : ∀ {l l' : List Decl}, l.Perm l' → Sorted l → Sorted l' → l = l'
  | [], _, h, _, _ => (List.nil_perm.1 h).symm
  | a :: l, [], h, _, _ => by have := h.length_eq; simp at this
  | a :: l, b :: l', h, h1, h2 => by
    have ⟨g1, g2⟩ := List.pairwise_cons.1 h1
    have ⟨g3, g4⟩ := List.pairwise_cons.1 h2
    by_cases e : a = b
    · subst e
      rw [sort_uniq ((List.perm_cons a).1 h) g2 g4]
    · have ha : a ∈ l' := (List.mem_cons.1 (h.mem_iff.1 (List.mem_cons_self ..))).resolve_left e
      have hb : b ∈ l := (List.mem_cons.1 (h.mem_iff.2 (List.mem_cons_self ..))).resolve_left fun h => e h.symm
      have := ltB_trans _ _ _ (g1 b hb) (g3 a ha)
      rw [ltB_irrefl] at this; cases this
theorem okDeclsFrom_names : ∀ (l : List Decl) (seen : List Bytes), okDeclsFrom seen l = true → Names l ∧ ∀ d ∈ l, d.name ∉ seen
  | [], _, _ => ⟨List.nodup_nil, fun d hd => by cases hd⟩
  | d :: l, seen, h => by
    simp only [okDeclsFrom, Bool.and_eq_true, Bool.not_eq_true'] at h
    obtain ⟨h1, h2⟩ := okDeclsFrom_names l _ h.2
    have hs : d.name ∉ seen := by have := h.1.1.1.1.2; simpa using this
    refine ⟨List.nodup_cons.2 ⟨fun hm => ?_, h1⟩, fun e he => ?_⟩
    · obtain ⟨e, he, hn⟩ := List.mem_map.1 hm
      exact h2 e he (by rw [hn]; simp)
    · rcases List.mem_cons.1 he with rfl | he
      · exact hs
      · exact fun hm => h2 e he (List.mem_append_left _ hm)
theorem okDeclsFrom_args : ∀ (l : List Decl) (seen : List Bytes), okDeclsFrom seen l = true → ∀ d ∈ l, d.args.length ≤ 3
  | [], _, _ => fun d hd => by cases hd
  | d :: l, seen, h => by
    simp only [okDeclsFrom, Bool.and_eq_true, decide_eq_true_eq] at h
    intro e he
    rcases List.mem_cons.1 he with rfl | he
    · exact h.1.1.2
    · exact okDeclsFrom_args l _ h.2 e he
theorem okDecls_all {l : List Decl} (h : okDecls l = true) : Names l ∧ l.length ≤ 4 ∧ ∀ d ∈ l, d.args.length ≤ 3 := by
  unfold okDecls at h
  simp only [Bool.and_eq_true, decide_eq_true_eq] at h
  exact ⟨(okDeclsFrom_names _ _ h.2).1, h.1, okDeclsFrom_args _ _ h.2⟩
structure Piece where
  decls : List Decl
  typ : Int
  root : Tm
/-- The piece of what is right but for the limits. -/
def newPiece (ds : List Decl) (ty : Int) (t : Tm) : Int × Option Piece := if 600 < nodes t ∨ 60 < levels t then (5, none) else (0, some ⟨sortD ds, ty, t⟩)
/-- The piece of a text. -/
def readText (l : Bytes) : Int × Option Piece := match parse l with
  | none => (2, none)
  | some (ds, ty, t) => if (resolve ds t).2 ≠ 0 then ((resolve ds t).2, none) else newPiece ds ty (resolve ds t).1
end Go.Proofs.YtpdbkdcdlafobaaGreatDoor.L
end
section
namespace Go.Proofs.YtpdbkdcdlafobaaGreatDoor
open Go.RowKit Go.Shelf
open Go.Sort (flatK putCells onCells mapBlock)
/-- A declaration beside the value of its types. -/
abbrev DV := L.Decl × (Option Addr × Nat)
def dargs (z : DV) : Value := .slice z.2.1 z.1.args.length z.2.2
def encD (z : DV) : List Value := [.string (str z.1.name), dargs z, .int .i64 z.1.result]
instance : Inhabited DV := ⟨(default, none, 0)⟩
theorem Dls.zs {w : World} {lo : Nat} : ∀ {ds : List L.Decl} {cs : List Value}, Dls w lo ds cs → ∃ zs : List DV, zs.map (·.1) = ds ∧ (∀ z ∈ zs, Tys w lo (dargs z) z.1.args) ∧ cs = zs.flatMap encD
  | [], _, h => ⟨[], rfl, (fun z hz => by cases hz), h⟩
  | d :: ds, _, h => by
    obtain ⟨a, cs', rfl, ha, hr⟩ := h
    obtain ⟨A, c, rfl, _⟩ := ha.form
    obtain ⟨zs, rfl, h2, rfl⟩ := Dls.zs hr
    refine ⟨(d, A, c) :: zs, rfl, fun z hz => ?_, rfl⟩
    rcases List.mem_cons.1 hz with rfl | hz
    · exact ha
    · exact h2 z hz
theorem Dls.of_zs {w : World} {lo : Nat} : ∀ {zs : List DV}, (∀ z ∈ zs, Tys w lo (dargs z) z.1.args) → Dls w lo (zs.map (·.1)) (zs.flatMap encD)
  | [], _ => rfl
  | z :: zs, h => ⟨dargs z, zs.flatMap encD, rfl, h z (List.mem_cons_self ..), Dls.of_zs fun y hy => h y (List.mem_cons_of_mem _ hy)⟩
theorem flat_at : ∀ (zs : List DV) (t : Nat), t < zs.length * 3 → (zs.flatMap encD)[t]? = some ((encD zs[t / 3]!)[t % 3]!)
  | [], t, h => by simp at h
  | z :: zs, t, h => by
    by_cases ht : t < 3
    · rw [Nat.div_eq_of_lt ht, Nat.mod_eq_of_lt ht, List.flatMap_cons, List.getElem?_append_left (by simpa [encD] using ht)]
      match t, ht with
      | 0, _ => rfl
      | 1, _ => rfl
      | 2, _ => rfl
    · obtain ⟨s, rfl⟩ : ∃ s, t = s + 3 := ⟨t - 3, by omega⟩
      have hs : s < zs.length * 3 := by simp at h; omega
      rw [List.flatMap_cons, List.getElem?_append_right (by simp [encD])]
      have e : s + 3 - (encD z).length = s := by simp [encD]
      rw [e, flat_at zs s hs, Nat.add_div_right s (by omega), Nat.add_mod_right]
      rfl
theorem flat_len (zs : List DV) : (zs.flatMap encD).length = zs.length * 3 := by
  induction zs with
  | nil => rfl
  | cons z zs ih => rw [List.flatMap_cons, List.length_append, ih]; simp [encD]; omega
theorem flatK_eq (d : Array DV) : (flatK encD 3 d).toList = d.toList.flatMap encD := by
  apply List.ext_getElem?
  intro t
  by_cases h : t < d.size * 3
  · have hd : t / 3 < d.size := by omega
    rw [flat_at _ _ (by simpa using h)]
    simp [flatK, h, hd]
  · rw [List.getElem?_eq_none (by simp; omega), List.getElem?_eq_none (by rw [flat_len]; simp; omega)]
theorem sort_frm {w : World} {g n : Nat} {d : Array DV} {os : Array Obj} : Frm (· = g) w (sortWorldK encD 3 w g 0 n d os) := by
  refine ⟨?_, fun b hb he => ?_, rfl, rfl⟩
  · show w.heap.size ≤ (w.heap.modify g (onCells (putCells id 0 (flatK encD 3 d))) ++ os).size
    simp
  · show (w.heap.modify g (onCells (putCells id 0 (flatK encD 3 d))) ++ os)[b]? = w.heap[b]?
    rw [Array.getElem?_append_left (by simpa using hb), Array.getElem?_modify, if_neg (fun h => he h.symm)]
theorem sort_block {w : World} {g n : Nat} {cur : Array Value} {t : TypeId} {fr : Nat × Nat} {d : Array DV} {os : Array Obj} (h : w.heap[g]? = some (.cells cur t fr)) :
    (sortWorldK encD 3 w g 0 n d os).heap[g]? = some (.cells (putCells id 0 (flatK encD 3 d) cur) t fr) := by
  show (w.heap.modify g (onCells (putCells id 0 (flatK encD 3 d))) ++ os)[g]? = _
  rw [Array.getElem?_append_left (by simpa using lt_of_heap h), Array.getElem?_modify, if_pos rfl, h]
  rfl
theorem put_take {cur : Array Value} {d : Array DV} (h : d.size * 3 ≤ cur.size) : (putCells id 0 (flatK encD 3 d) cur).toList.take (d.size * 3) = d.toList.flatMap encD := by
  rw [← flatK_eq]
  apply List.ext_getElem?
  intro t
  by_cases ht : t < d.size * 3
  · rw [List.getElem?_take_of_lt ht]
    have hc : t < cur.size := by omega
    simp [putCells, ht, hc, getElem!_pos]
  · rw [List.getElem?_eq_none (by simp; omega), List.getElem?_eq_none (by simp; omega)]
/-- The order of names. -/
def cfD (x y : DV) : Int := Lib.compareBytes x.1.name y.1.name
theorem cmp_lt : ∀ a b : L.Bytes, decide (Lib.compareBytes a b < 0) = L.ltB a b
  | [], [] => rfl
  | [], _ :: _ => rfl
  | _ :: _, [] => rfl
  | a :: l, b :: m => by
    rw [Lib.compareBytes, L.ltB]
    split
    · rfl
    · split
      · rfl
      · exact cmp_lt l m
theorem ltOf_eq (x y : DV) : ltOf cfD x y = L.ltB x.1.name y.1.name := cmp_lt _ _
theorem swoD : Sort.SWO (ltOf cfD) := ⟨fun x => by rw [ltOf_eq]; exact L.ltB_irrefl _, fun x y z => by rw [ltOf_eq, ltOf_eq, ltOf_eq]; exact L.ltB_trans _ _ _, fun x y z => by rw [ltOf_eq, ltOf_eq, ltOf_eq]; exact L.ltB_ntrans _ _ _⟩
set_option maxHeartbeats 1000000 in
theorem cmp_any (x y : DV) (W : World) : Calls Tryz.prog 46 #[.agg (encD x).toArray, .agg (encD y).toArray] W fun e w' => e = .returned (.int .i64 (cfD x y)) ∧ ∃ q os', w' = Sort.grow (W.drewN q) os' := by
  obtain ⟨⟨nx, ax, rx⟩, Ax, cx⟩ := x
  obtain ⟨⟨ny, ay, ry⟩, Ay, cy⟩ := y
  show Calls Tryz.prog 46 #[.agg #[.string (str nx), .slice Ax ax.length cx, .int .i64 rx], .agg #[.string (str ny), .slice Ay ay.length cy, .int .i64 ry]] W _
  have hcon := fun W' => Tryz.strings_Compare (str nx) (str ny) W'
  have he : Lib.compareBytes (str nx).data.toList (str ny).data.toList = cfD (⟨nx, ax, rx⟩, Ax, cx) (⟨ny, ay, ry⟩, Ay, cy) := rfl
  rw [he] at hcon
  generalize cfD (⟨nx, ax, rx⟩, Ax, cx) (⟨ny, ay, ry⟩, Ay, cy) = r at hcon ⊢
  clear he
  go_enter Tryz.func46, Tryz.ntmps46
  go_wp2_with (go_at_call 47; refine (hcon _).mono ?_; rintro e w' ⟨rfl, rfl⟩)
  go_ret
  exact ⟨rfl, 0, _, by rw [Sort.alloc_eq_grow, Sort.alloc_eq_grow, Sort.grow_grow]; rfl⟩
theorem lenD (n : Nat) (W : World) (h : n ≤ 12) : Calls Tryz.prog 73 #[.int .u64 n] W fun e w' => (∃ l : Int, e = .returned (.int .i64 l)) ∧ w' = W :=
  (Tryz.bits_Len n W (by omega) (by omega)).mono fun _ _ ⟨he, hw⟩ => ⟨⟨_, he⟩, hw⟩
set_option maxHeartbeats 1000000 in
theorem sort_any {w : World} {lo : Nat} {g cap : Nat} {ds : List L.Decl} (h : Decls w lo (.slice (some ⟨g, 0, none⟩) ds.length cap) ds) (h4 : ds.length ≤ 4) (hn : L.Names ds) :
    Calls Tryz.prog 45 #[.slice (some ⟨g, 0, none⟩) ds.length cap, .func (.func 46) #[] #[]] w fun e w' => e = .returned (.tuple #[]) ∧ Decls w' lo (.slice (some ⟨g, 0, none⟩) ds.length cap) (L.sortD ds) ∧ Frm (· = g) w w' := by
  obtain ⟨cs, ho, hd⟩ := h
  obtain ⟨zs, rfl, h2, rfl⟩ := hd.zs
  rw [List.length_map] at *
  have eg : ∀ args w, (callFunc 46 args).run Tryz.prog w = .ok (.enter 46 args) w := enters_of Tryz.func46 (by kernel_rfl) rfl
  have hc := @World.ownsRow.cells _ _ _ _ _ _ _ ho g rfl
  have hH : Sort.HoldsK encD 3 w g 0 zs.toArray := fun j hj => by
    have hj' : j < zs.length * 3 := by simpa using hj
    refine ⟨?_, by rw [Nat.zero_add]; exact ho.frozenAt j⟩
    have := hc j _ (flat_at zs j hj')
    rw [add_zero_off] at this
    rw [Nat.zero_add, this]
    simp only [id]
    rw [Sort.get_flatK _ _ _ _ (by simpa using hj')]
    simp
  have hblk : g < w.heap.size := (ho.lt g rfl).2
  have hcon := AnyQ.slices_SortFunc_small_sorted Tryz.sortDecl 3 (fun w => by kernel_rfl) (fun w => by kernel_rfl) encD (fun _ => rfl) (fun x v hv => by simp [encD] at hv; rcases hv with rfl | rfl | rfl <;> rfl) cfD 46 #[] swoD g 0 cap zs.toArray w eg (fun _ _ _ _ x y => cmp_any x y _) hH hblk (by simp; omega) lenD
  refine Calls.mono (show Calls Tryz.prog 45 #[.slice (some ⟨g, 0, none⟩) zs.length cap, .func (.func 46) #[] #[]] w _ from hcon) ?_
  rintro e w' ⟨rfl, d', n, os, hp, hs, rfl⟩
  obtain ⟨hsz, -, hperm⟩ := hp
  have hsz' : d'.size = zs.length := by simpa using hsz
  have hz0 : (zs.toArray.size) = zs.length := by simp
  have hperm' : d'.toList.Perm zs := by
    have e1 : (d'.extract 0 zs.toArray.size).toList = d'.toList := by rw [hz0, ← hsz']; simp
    have e2 : (zs.toArray.extract 0 zs.toArray.size).toList = zs := by simp
    rw [e1, e2] at hperm
    exact hperm
  have hF : Frm (· = g) w (sortWorldK encD 3 w g 0 n d' os) := sort_frm
  refine ⟨rfl, ?_, hF⟩
  have hpd : (d'.toList.map (·.1)).Perm (zs.map (·.1)) := hperm'.map _
  have hnd : L.Names (d'.toList.map (·.1)) := ((hpd.map L.Decl.name).nodup_iff).2 hn
  have hsd : L.Sorted (d'.toList.map (·.1)) := by
    unfold L.Sorted
    rw [List.pairwise_iff_getElem]
    intro i j hi hj hij
    simp only [List.length_map, Array.length_toList] at hi hj
    have h1 := hs i j (Nat.zero_le _) hij (by omega)
    rw [ltOf_eq, getElem!_pos d' i hi, getElem!_pos d' j hj] at h1
    simp only [List.getElem_map, Array.getElem_toList]
    cases h3 : L.ltB d'[i].1.name d'[j].1.name
    · have he := L.ltB_total _ _ h3 h1
      have hnn := (List.pairwise_iff_getElem.1 hnd) i j (by simpa using hi) (by simpa using hj) hij
      simp only [List.getElem_map, Array.getElem_toList] at hnn
      exact absurd he hnn
    · rfl
  have hEq : L.sortD (zs.map (·.1)) = d'.toList.map (·.1) := L.sort_uniq ((L.sortD_perm _).trans hpd.symm) (L.sortD_sorted hn) hsd
  rw [hEq]
  rcases ho.2 with ⟨hv, _⟩ | ⟨g', cap', cur, hv, h1, hg, h3, h4', h5, h6⟩
  · cases hv
  injection hv with hv1 _ hv2
  injection hv1 with hv1
  injection hv1 with hv1
  subst hv1 hv2
  have hcur : d'.size * 3 ≤ cur.size := by
    have := congrArg List.length h6
    rw [List.length_take, flat_len] at this
    simp at this
    omega
  refine ⟨d'.toList.flatMap encD, ⟨by rw [flat_len]; simp, .inr ⟨g, cap, _, by simp [hsz'], h1, sort_block hg, by simp [hsz']; omega, h4', by simp [putCells]; omega, ?_⟩⟩, Dls.of_zs fun z hz => ?_⟩
  · have := put_take hcur
    simpa using this
  · exact (hF.keeps1 (show Blk w g 52 cur from hg) (by decide)).row (h2 z (hperm'.mem_iff.1 hz))
end Go.Proofs.YtpdbkdcdlafobaaGreatDoor
end
section
namespace Go.Proofs.YtpdbkdcdlafobaaGreatDoor
open Go.RowKit
def okT (lo : Nat) : L.Tm → Value → World → Prop := fun t v w => Rep w (lo ≤ ·) t v
def okO (lo : Nat) : Option L.Tm → Value → World → Prop := fun o v w => match o with
  | none => v = .nilIface
  | some t => Rep w (lo ≤ ·) t v
/-- The contracts, where n calls within each other are enough. -/
structure Good (n : Nat) : Prop where
  body : ∀ t : Int, t = 0 ∨ t = 1 → ∀ pb s w, PS w pb s → 10 * s.m + 8 ≤ n → Calls Tryz.prog 40 #[.pointer (some ⟨pb, 0, none⟩), .int .i64 t] w (PPost (okT w.heap.size) pb (L.body n t s) w)
  block : ∀ t : Int, t = 0 ∨ t = 1 → ∀ pb s w, PS w pb s → 10 * s.m + 1 ≤ n → Calls Tryz.prog 127 #[.pointer (some ⟨pb, 0, none⟩), .int .i64 t] w (PPost (okT w.heap.size) pb (L.block n t s) w)
  com : ∀ pb s w, PS w pb s → 10 * s.m + 6 ≤ n → Calls Tryz.prog 68 #[.pointer (some ⟨pb, 0, none⟩)] w (PPost (okT w.heap.size) pb (L.com n s) w)
  step : ∀ pb s w, PS w pb s → 10 * s.m + 4 ≤ n → Calls Tryz.prog 99 #[.pointer (some ⟨pb, 0, none⟩)] w (PPost (okT w.heap.size) pb (L.step n s) w)
  either : ∀ t : Int, t = 0 ∨ t = 1 → ∀ pb s w, PS w pb s → 10 * s.m + 1 ≤ n → Calls Tryz.prog 126 #[.pointer (some ⟨pb, 0, none⟩), .int .i64 t] w (PPost (okO w.heap.size) pb (L.either n t s) w)
  proc : ∀ t : Int, t = 0 ∨ t = 1 → ∀ pb s w, PS w pb s → 10 * s.m + 1 ≤ n → Calls Tryz.prog 143 #[.pointer (some ⟨pb, 0, none⟩), .int .i64 t] w (PPost (okT w.heap.size) pb (L.proc n t s) w)
  call : ∀ (t : Int) k pb s w, PS w pb s → 10 * s.m + 1 ≤ n → Calls Tryz.prog 128 #[.pointer (some ⟨pb, 0, none⟩), .int .i64 t, .string (str k)] w (PPost (okT w.heap.size) pb (L.call n t k s) w)
  arg : ∀ pb s w, PS w pb s → 10 * s.m + 7 ≤ n → Calls Tryz.prog 144 #[.pointer (some ⟨pb, 0, none⟩)] w (PPost (okT w.heap.size) pb (L.arg n s) w)
  exp : ∀ pb s w, PS w pb s → 10 * s.m + 6 ≤ n → Calls Tryz.prog 69 #[.pointer (some ⟨pb, 0, none⟩)] w (PPost (okT w.heap.size) pb (L.exp n s) w)
  sum : ∀ pb s w, PS w pb s → 10 * s.m + 5 ≤ n → Calls Tryz.prog 100 #[.pointer (some ⟨pb, 0, none⟩)] w (PPost (okT w.heap.size) pb (L.sum n s) w)
  product : ∀ pb s w, PS w pb s → 10 * s.m + 4 ≤ n → Calls Tryz.prog 130 #[.pointer (some ⟨pb, 0, none⟩)] w (PPost (okT w.heap.size) pb (L.product n s) w)
  atom : ∀ pb s w, PS w pb s → 10 * s.m + 3 ≤ n → Calls Tryz.prog 145 #[.pointer (some ⟨pb, 0, none⟩)] w (PPost (okT w.heap.size) pb (L.atom n s) w)
/-- A term stays as it is over a call of the parser. -/
theorem Rep.over {w w' : World} {pb lo lo' : Nat} {t : L.Tm} {v : Value} (h : Rep w (lo ≤ ·) t v) (hf : Frm (· = pb) w w') (hp : pb < lo) (hl : lo' ≤ lo) : Rep w' (lo' ≤ ·) t v :=
  Rep.keep (hf.same fun b hb _ => by omega) (fun _ hb _ => Nat.le_trans hl hb) h
theorem Rep.low {w : World} {lo lo' : Nat} {t : L.Tm} {v : Value} (h : Rep w (lo ≤ ·) t v) (hl : lo' ≤ lo) : Rep w (lo' ≤ ·) t v :=
  Rep.keep (fun _ _ _ => rfl) (fun _ hb _ => Nat.le_trans hl hb) h
variable {n : Nat}
theorem body_good (h : Good n) (t : Int) (ht : t = 0 ∨ t = 1) (pb : Nat) (s : L.St) (w : World) (hp : PS w pb s) (hn : 10 * s.m + 8 ≤ n + 1) :
    Calls Tryz.prog 40 #[.pointer (some ⟨pb, 0, none⟩), .int .i64 t] w (PPost (okT w.heap.size) pb (L.body (n + 1) t s) w) := by
  have HX : Hid (L.body (n + 1) t s = (if t = 0 then L.com n else L.exp n) s) := by rw [Hid, L.body]
  rcases ht with rfl | rfl
  · go_enter Tryz.func40, Tryz.ntmps40
    go_wp2_with fail
    refine PPost.call (h.com _ _ _ hp (by omega)) (fun w' hn hf => ⟨rfl, .bad hf (by rw [HX.out]; exact hn)⟩) ?_
    rintro x s1 v w1 H1 hv q1 f1
    go_wp2_with fail
    go_ret
    exact .good f1 (by rw [HX.out]; exact H1.out) hv q1
  · go_enter Tryz.func40, Tryz.ntmps40
    go_wp2_with fail
    refine PPost.call (h.exp _ _ _ hp (by omega)) (fun w' hn hf => ⟨rfl, .bad hf (by rw [HX.out]; exact hn)⟩) ?_
    rintro x s1 v w1 H1 hv q1 f1
    go_wp2_with fail
    go_ret
    exact .good f1 (by rw [HX.out]; exact H1.out) hv q1
theorem block_good (h : Good n) (t : Int) (ht : t = 0 ∨ t = 1) (pb : Nat) (s : L.St) (w : World) (hp : PS w pb s) (hn : 10 * s.m + 1 ≤ n + 1) :
    Calls Tryz.prog 127 #[.pointer (some ⟨pb, 0, none⟩), .int .i64 t] w (PPost (okT w.heap.size) pb (L.block (n + 1) t s) w) := by
  have hlt := @L.want_lt
  rcases ht with rfl | rfl
  · have HX : Hid (L.block (n + 1) 0 s = ((L.want [123]).bind fun _ => (L.body n 0).bind fun x => (L.want [125]).bind fun _ => L.Rd.ret x) s) := by rw [Hid, L.block]; rfl
    go_enter Tryz.func127, Tryz.ntmps127
    go_wp2_with fail
    refine PPost.call (want_any [123] _ _ _ hp) (fun w' hn hf => ⟨rfl, .bad hf (by simp only [HX.out, L.Rd.bind, hn])⟩) ?_
    rintro _ s1 v w1 H1 hv q1 f1
    have := hlt (by simp) _ _ _ H1.out
    go_wp2_with fail
    refine PPost.call (h.body _ (.inl rfl) _ _ _ q1 (by omega)) (fun w' hn hf => ⟨rfl, .bad (f1.trans hf) (by simp only [HX.out, L.Rd.bind, H1.out, hn])⟩) ?_
    rintro x s2 v w2 H2 hv q2 f2
    go_wp2_with fail
    refine PPost.call (want_any [125] _ _ _ q2) (fun w' hn hf => ⟨rfl, .bad (f1.trans (f2.trans hf)) (by simp only [HX.out, L.Rd.bind, H1.out, H2.out, hn])⟩) ?_
    rintro _ s3 v w3 H3 _ q3 f3
    have hv := hv.over (lo' := w.heap.size) f3 q1.1.lt f1.1
    go_wp2_with fail
    go_ret
    exact .good (f1.trans (f2.trans f3)) (by simp only [HX.out, L.Rd.bind, H1.out, H2.out, H3.out, L.Rd.ret]) hv q3
  · have HX : Hid (L.block (n + 1) 1 s = ((L.want [91]).bind fun _ => (L.body n 1).bind fun x => (L.want [93]).bind fun _ => L.Rd.ret x) s) := by rw [Hid, L.block]; rfl
    go_enter Tryz.func127, Tryz.ntmps127
    go_wp2_with fail
    refine PPost.call (want_any [91] _ _ _ hp) (fun w' hn hf => ⟨rfl, .bad hf (by simp only [HX.out, L.Rd.bind, hn])⟩) ?_
    rintro _ s1 v w1 H1 hv q1 f1
    have := hlt (by simp) _ _ _ H1.out
    go_wp2_with fail
    refine PPost.call (h.body _ (.inr rfl) _ _ _ q1 (by omega)) (fun w' hn hf => ⟨rfl, .bad (f1.trans hf) (by simp only [HX.out, L.Rd.bind, H1.out, hn])⟩) ?_
    rintro x s2 v w2 H2 hv q2 f2
    go_wp2_with fail
    refine PPost.call (want_any [93] _ _ _ q2) (fun w' hn hf => ⟨rfl, .bad (f1.trans (f2.trans hf)) (by simp only [HX.out, L.Rd.bind, H1.out, H2.out, hn])⟩) ?_
    rintro _ s3 v w3 H3 _ q3 f3
    have hv := hv.over (lo' := w.heap.size) f3 q1.1.lt f1.1
    go_wp2_with fail
    go_ret
    exact .good (f1.trans (f2.trans f3)) (by simp only [HX.out, L.Rd.bind, H1.out, H2.out, H3.out, L.Rd.ret]) hv q3
end Go.Proofs.YtpdbkdcdlafobaaGreatDoor
end
