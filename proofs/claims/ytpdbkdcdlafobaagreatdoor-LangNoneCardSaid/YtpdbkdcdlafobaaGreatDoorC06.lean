/- Contracts of the parser: decl, decls. The contract of the parser's decls. How a term lies in memory. Contracts of the program's functions, with no condition beyond what each theorem states. -/
import Derived.Test.YtpdbkdcdlafobaaGreatDoorC05
import Derived.Laws.ResultCell
section
namespace Go.Proofs.YtpdbkdcdlafobaaGreatDoor
open Go.RowKit
theorem info_type : (Tryz.prog.info? 32).map (fun i => (i.zero, i.size, i.bytes)) = some (some (.int .i64 0), 1, 8) := by kernel_rfl
def okDecl (lo : Nat) : L.Decl → Value → World → Prop := fun d v w => ∃ a, v = .agg #[.string (str d.name), a, .int .i64 d.result] ∧ Tys w lo a d.args
theorem own_form {w : World} {base size n : Nat} {e : TypeId} {v : Value} {xs : List Value} (h : w.ownsRow base e size v n xs) : ∃ A c, v = .slice A n c := by
  rcases h.2 with ⟨rfl, rfl⟩ | ⟨g, cap, cur, rfl, _⟩
  · exact ⟨_, _, rfl⟩
  · exact ⟨_, _, rfl⟩
set_option maxHeartbeats 1000000 in
theorem decl_any (pb : Nat) (s : L.St) (w : World) (h : PS w pb s) : Calls Tryz.prog 64 #[.pointer (some ⟨pb, 0, none⟩)] w (PPost (okDecl w.heap.size) pb (L.decl s) w) := by
  have hlt := h.1.lt
  have h' : PS (w.alloc (.cells #[.string ⟨#[]⟩, .slice none 0 0, .int .i64 0] 52)) pb s := ⟨h.1.alloc _, h.2⟩
  have HX : Hid (L.decl s = (L.getName.bind fun n => (L.take [40]).bind fun b => (L.declArgs b).bind fun l => (L.want [58]).bind fun _ => L.result.bind fun r => .ret ⟨n, l, r⟩) s) := rfl
  have f0 := Lib.hid ((Frm.refl (· = pb) w).alloc (.cells #[.string ⟨#[]⟩, .slice none 0 0, .int .i64 0] 52))
  have HB := Lib.hid (Blk.new w 52 #[.string ⟨#[]⟩, .slice none 0 0, .int .i64 0])
  go_enter Tryz.func64, Tryz.ntmps64
  go_wp2_with fail
  refine PPost.call (name_any _ _ _ h') (fun w' hn hf1 => ⟨rfl, .bad (f0.out.trans hf1) (by simp only [HX.out, L.Rd.bind, hn])⟩) ?_
  rintro x s2 v w2 H2 rfl q2 f2
  have HB2 := Lib.hid (f2.blk HB.out (by omega))
  have q3 : PS (w2.alloc (.cells #[.string (str x), .slice none 0 0, .int .i64 0] 52)) pb s2 := ⟨q2.1.alloc _, q2.2⟩
  have HC := Lib.hid (Blk.new w2 52 #[.string (str x), .slice none 0 0, .int .i64 0])
  have HB3 := Lib.hid (HB2.out.alloc (.cells #[.string (str x), .slice none 0 0, .int .i64 0] 52))
  have F3 := Lib.hid ((f0.out.trans f2).alloc (.cells #[.string (str x), .slice none 0 0, .int .i64 0] 52))
  have hob : w.heap.size < w2.heap.size := HB2.out.lt
  clear f2 h' q2
  go_wp2_with fail
  refine PPost.call (take_any [40] _ _ _ q3) (fun w' hn hf1 => ⟨rfl, .bad (F3.out.trans hf1) (by simp only [HX.out, L.Rd.bind, H2.out, hn])⟩) ?_
  rintro b s4 v w4 H4 rfl q4 f4
  have HC4 := Lib.hid (f4.blk HC.out (by omega))
  have HB4 := Lib.hid (f4.blk HB3.out (by omega))
  have F4 := Lib.hid (F3.out.trans f4)
  have hz4 : w2.heap.size < w4.heap.size := HC4.out.lt
  clear f4 q3
  cases b
  · have HD : Hid (L.declArgs false s4 = some ([], s4)) := rfl
    have q8 := q4
    have F8 := F4
    have HC8 := HC4
    have HB8 := HB4
    have hty8 : Hid (Tys w4 w.heap.size (.slice none 0 0) []) := World.ownsRow_nil _ _ _ _
    have HG2 : Hid (∀ g, (Value.slice none 0 0).ownBlock = some g → ¬ (g = w2.heap.size ∨ g = w.heap.size)) := fun g hg => by simp [Value.ownBlock] at hg
    have HG : Hid (∀ g, (Value.slice none 0 0).ownBlock = some g → ¬ g = pb) := fun g hg => by simp [Value.ownBlock] at hg
    go_wp2_with fail
    refine PPost.call (want_any [58] _ _ _ q8) (fun w' hn hf1 => ⟨rfl, .bad (F8.out.trans hf1) (by simp only [HX.out, L.Rd.bind, H2.out, H4.out, HD.out, hn])⟩) ?_
    rintro _ s9 v w9 H9 rfl q9 f9
    have HC9 := Lib.hid (f9.blk HC8.out (by omega))
    have HB9 := Lib.hid (f9.blk HB8.out (by omega))
    have hty9 := Lib.hid (f9.row hty8.out (fun g hg e => HG.out g hg e) (Nat.le_refl _))
    have F9 := Lib.hid (F8.out.trans f9)
    clear f9 q8
    go_wp2_with fail
    refine PPost.call (result_any _ _ _ q9) (fun w' hn hf1 => ⟨rfl, .bad (F9.out.trans hf1) (by simp only [HX.out, L.Rd.bind, H2.out, H4.out, HD.out, H9.out, hn])⟩) ?_
    rintro r s10 v w10 H10 rfl q10 f10
    have HC10 := Lib.hid (f10.blk HC9.out (by omega))
    have HB10 := Lib.hid (f10.blk HB9.out (by omega))
    have hty10 := Lib.hid (f10.row hty9.out (fun g hg e => HG.out g hg e) (Nat.le_refl _))
    have F10 := Lib.hid (F9.out.trans f10)
    have c0 := HC10.out.cell 0
    have c1 := HC10.out.cell 1
    have c2 := HC10.out.cell 2
    have z2 := HC10.out.frozen 2
    have b0 := HB10.out.cell 0
    have b1 := HB10.out.cell 1
    have b2 := HB10.out.cell 2
    have y0 := HB10.out.frozen 0
    have y1 := HB10.out.frozen 1
    have y2 := HB10.out.frozen 2
    clear f10 q9
    go_wp2_with fail
    have HBf := (((HB10.out.far (p := ⟨w2.heap.size, 2, none⟩) (by simp; omega) (.int .i64 r)).set_ 0 (.string (str x))).set_ 1 (.slice none 0 0)).set_ 2 (.int .i64 r)
    have qf : PS ((((w10.setCell ⟨w2.heap.size, 2, none⟩ (.int .i64 r)).setCell ⟨w.heap.size, 0, none⟩ (.string (str x))).setCell ⟨w.heap.size, 1, none⟩ (.slice none 0 0)).setCell ⟨w.heap.size, 2, none⟩ (.int .i64 r)) pb s10 :=
      ⟨(((q10.1.far (by simp; omega) _).far (by simp; omega) _).far (by simp; omega) _).far (by simp; omega) _, q10.2⟩
    have Ff := (((F10.out.set_ (p := ⟨w2.heap.size, 2, none⟩) (fun h => absurd h (by simp; omega)) (.int .i64 r)).set_ (p := ⟨w.heap.size, 0, none⟩) (fun h => absurd h (by simp)) (.string (str x))).set_ (p := ⟨w.heap.size, 1, none⟩) (fun h => absurd h (by simp)) (.slice none 0 0)).set_ (p := ⟨w.heap.size, 2, none⟩) (fun h => absurd h (by simp)) (.int .i64 r)
    have d0 := HBf.cell 0
    have d1 := HBf.cell 1
    have d2 := HBf.cell 2
    have tf := (((Frm.refl (fun b => b = w2.heap.size ∨ b = w.heap.size) w10).set_ (p := ⟨w2.heap.size, 2, none⟩) (fun _ => .inl rfl) (.int .i64 r)).set_ (p := ⟨w.heap.size, 0, none⟩) (fun _ => .inr rfl) (.string (str x))).set_ (p := ⟨w.heap.size, 1, none⟩) (fun _ => .inr rfl) (.slice none 0 0) |>.set_ (p := ⟨w.heap.size, 2, none⟩) (fun _ => .inr rfl) (.int .i64 r)
    have tyf : Tys _ w.heap.size (.slice none 0 0) _ := tf.row hty10.out (fun g hg e => HG2.out g hg e) (Nat.le_refl _)
    refine bodyPost_ret (v := .agg #[.string (str x), (.slice none 0 0), .int .i64 r]) (by simp [results, Tryz.results64, go_sem, d0, d1, d2]) rfl (.good (x := ⟨x, [], r⟩) Ff (by simp only [HX.out, L.Rd.bind, H2.out, H4.out, HD.out, H9.out, H10.out, L.Rd.ret]) ⟨_, rfl, tyf⟩ qf)
  · go_wp2_with fail
    go_loopg [4] (s4.m + 1) (fun n _ wr => ∃ (acc : List Int) (s1 : L.St) (av : Value), PS wr pb s1 ∧ s1.m < n ∧ acc.length + n ≤ 8002 ∧ wr.ownsRow (w2.heap.size + 1) 32 1 av acc.length (ints acc) ∧
      Hid (Blk wr w2.heap.size 52 #[.string (str x), av, .int .i64 0]) ∧ Hid (Blk wr w.heap.size 52 #[.string ⟨#[]⟩, .slice none 0 0, .int .i64 0]) ∧
      Hid (L.typs (s4.m + 1) [] s4 = L.typs n acc s1) ∧ Hid (Frm (· = pb) w wr))
    case atStart => exact ⟨[], s4, _, q4, by omega, by have := q4.2.1; have := q4.2.2; simp only [L.St.m, List.length_nil]; omega, World.ownsRow_nil _ _ _ _, HC4, HB4, rfl, F4⟩
    case round =>
      obtain ⟨acc, s1, av, hs1, hm, hle, hown, HC5, HB5, HT, HF⟩ := hrel
      obtain ⟨n, rfl⟩ : ∃ n, gk = n + 1 := ⟨gk - 1, by omega⟩
      have HY : Hid (L.typs (n + 1) acc s1 = (L.typ.bind fun t => (L.take [44]).bind fun b => if b then L.typs n (acc ++ [t]) else .ret (acc ++ [t])) s1) := rfl
      go_wp2_with fail
      refine PPost.call (typ_any _ _ _ hs1) (fun w' hn hf1 => ⟨rfl, .bad (HF.out.trans hf1) (by simp only [HX.out, L.Rd.bind, H2.out, H4.out, L.declArgs, if_true, HT.out, HY.out, hn])⟩) ?_
      rintro t s5 v w5 H5 rfl q5 f5
      have hown5 := f5.row hown (fun g hg e => by have := (hown.lt g hg).1; omega) (Nat.le_refl _)
      have HC6 := Lib.hid (f5.blk HC5.out (by omega))
      have HB6 := Lib.hid (f5.blk HB5.out (by omega))
      have F5 := Lib.hid (HF.out.trans f5)
      have c1 := HC6.out.cell 1
      have z1 := HC6.out.frozen 1
      have hz5 : w2.heap.size < w5.heap.size := HC6.out.lt
      clear hown f5
      obtain ⟨i0, hi, hz0, hz1, hz2⟩ := info_parts info_type
      go_wp2_with (at_builtin; refine wpList_append_own _ rfl _ _ 50 rfl (w2.heap.size + 1) 32 i0 (.int .i64 0) 1 8 Tryz.underlying50 hi hz0 hz1 hz2 rfl (by decide) _ _ _ rfl (hown5.alloc _) ⟨w5.heap.size, 0, none⟩ 1 1 [.int .i64 t] rfl rfl ?c1 ?c2 ?c3 ?c4 ?c5 ?_)
      case c1 => exact cell_one_at rfl
      case c2 => simp [Value.oneCell']
      case c3 => unfold maxLen; omega
      case c4 => omega
      case c5 => simp; omega
      intro v' w6 hown6 hgrow _
      obtain ⟨A', cap', rfl⟩ := own_form hown6
      have hne : ∀ g, some g = av.ownBlock → w2.heap.size + 1 ≤ g := fun g e => (hown5.lt g e.symm).1
      have HC7 := (HC6.out.alloc (.cells #[.int .i64 t] 32)).grown hgrow (fun e => by have := hne _ e; omega)
      have HB7 := (HB6.out.alloc (.cells #[.int .i64 t] 32)).grown hgrow (fun e => by have := hne _ e; omega)
      have F7 := Lib.hid ((F5.out.alloc (.cells #[.int .i64 t] 32)).grown hgrow fun g hg hl => by have := hne g hg.symm; omega)
      have q7 := (q5.1.alloc (.cells #[.int .i64 t] 32)).grown hgrow (fun e => by have := hne _ e; omega)
      clear c1 z1 hown5 hgrow hi hz0 hz1 hz2
      have c1 := HC7.cell 1
      have z1 := HC7.frozen 1
      have q7' : PS (w6.setCell ⟨w2.heap.size, 1, none⟩ (.slice A' (acc.length + 1) cap')) pb s5 := ⟨q7.far (by simp; omega) _, q5.2⟩
      have HC8 := Lib.hid (HC7.set_ 1 (.slice A' (acc.length + 1) cap'))
      have HB8 := Lib.hid (HB7.far (p := ⟨w2.heap.size, 1, none⟩) (by simp; omega) (.slice A' (acc.length + 1) cap'))
      have hown7 : (w6.setCell ⟨w2.heap.size, 1, none⟩ (.slice A' (acc.length + 1) cap')).ownsRow (w2.heap.size + 1) 32 1 (.slice A' (acc.length + 1) cap') (acc.length + 1) (ints acc ++ [.int .i64 t]) :=
        ((Frm.refl (· = w2.heap.size) w6).set_ (fun _ => rfl) (.slice A' (acc.length + 1) cap')).row hown6 (fun g hg e => by have := (hown6.lt g hg).1; omega) (Nat.le_refl _)
      have F8 := Lib.hid (F7.out.set_ (p := ⟨w2.heap.size, 1, none⟩) (fun h => by simp at h; omega) (.slice A' (acc.length + 1) cap'))
      clear HC7 HB7 q7 q5 hown6
      go_wp2_with fail
      refine PPost.call (take_any [44] _ _ _ q7') (fun w' hn hf1 => ⟨rfl, .bad (F8.out.trans hf1) (by simp only [HX.out, L.Rd.bind, H2.out, H4.out, L.declArgs, if_true, HT.out, HY.out, H5.out, hn])⟩) ?_
      rintro b s6 v w7 H6 rfl q6 f6
      have hown8 := Lib.hid (f6.row hown7 (fun g hg e => by have := (hown7.lt g hg).1; omega) (Nat.le_refl _))
      have HC9 := Lib.hid (f6.blk HC8.out (by omega))
      have HB9 := Lib.hid (f6.blk HB8.out (by omega))
      have F9 := Lib.hid (F8.out.trans f6)
      have hsnoc : ints acc ++ [.int .i64 t] = ints (acc ++ [t]) := by simp [ints]
      rw [hsnoc] at hown8
      clear hsnoc f6 hown7
      cases b
      · go_wp2_with fail
        refine PPost.call (want_any [41] _ _ _ q6) (fun w' hn hf1 => ⟨rfl, .bad (F9.out.trans hf1) (by simp only [HX.out, L.Rd.bind, H2.out, H4.out, L.declArgs, if_true, HT.out, HY.out, H5.out, H6.out, Bool.false_eq_true, if_false, L.Rd.ret, hn])⟩) ?_
        rintro _ s8 v w8 H8 rfl q8 f8
        have hown9 := f8.row hown8.out (fun g hg e => by have := (hown8.out.lt g hg).1; omega) (Nat.le_refl _)
        have HG2 : Hid (∀ g, (Value.slice A' (acc.length + 1) cap').ownBlock = some g → ¬ (g = w2.heap.size ∨ g = w.heap.size)) := fun g hg => by have := (hown9.lt g hg).1; omega
        have HG : Hid (∀ g, (Value.slice A' (acc.length + 1) cap').ownBlock = some g → ¬ g = pb) := fun g hg => by have := (hown9.lt g hg).1; omega
        have hty8 : Hid (Tys w8 w.heap.size (.slice A' (acc.length + 1) cap') (acc ++ [t])) := by
          have := (Frm.refl (fun _ => False) w8).row (base' := w.heap.size) hown9 (fun _ _ h => h) (by omega)
          unfold Tys; rw [List.length_append]; exact this
        have HD : Hid (L.declArgs true s4 = some (acc ++ [t], s8)) := by
          exact show _ = _ by simp only [L.declArgs, if_true, L.Rd.bind, HT.out, HY.out, H5.out, H6.out, Bool.false_eq_true, if_false, L.Rd.ret, H8.out]
        have HC8 := Lib.hid (f8.blk HC9.out (by omega))
        have HB8 := Lib.hid (f8.blk HB9.out (by omega))
        have F8 := Lib.hid (F9.out.trans f8)
        clear hown9 f8 q6
        go_wp2_with fail
        refine PPost.call (want_any [58] _ _ _ q8) (fun w' hn hf1 => ⟨rfl, .bad (F8.out.trans hf1) (by simp only [HX.out, L.Rd.bind, H2.out, H4.out, HD.out, hn])⟩) ?_
        rintro _ s9 v w9 H9 rfl q9 f9
        have HC9 := Lib.hid (f9.blk HC8.out (by omega))
        have HB9 := Lib.hid (f9.blk HB8.out (by omega))
        have hty9 := Lib.hid (f9.row hty8.out (fun g hg e => HG.out g hg e) (Nat.le_refl _))
        have F9 := Lib.hid (F8.out.trans f9)
        clear f9 q8
        go_wp2_with fail
        refine PPost.call (result_any _ _ _ q9) (fun w' hn hf1 => ⟨rfl, .bad (F9.out.trans hf1) (by simp only [HX.out, L.Rd.bind, H2.out, H4.out, HD.out, H9.out, hn])⟩) ?_
        rintro r s10 v w10 H10 rfl q10 f10
        have HC10 := Lib.hid (f10.blk HC9.out (by omega))
        have HB10 := Lib.hid (f10.blk HB9.out (by omega))
        have hty10 := Lib.hid (f10.row hty9.out (fun g hg e => HG.out g hg e) (Nat.le_refl _))
        have F10 := Lib.hid (F9.out.trans f10)
        have c0 := HC10.out.cell 0
        have c1 := HC10.out.cell 1
        have c2 := HC10.out.cell 2
        have z2 := HC10.out.frozen 2
        have b0 := HB10.out.cell 0
        have b1 := HB10.out.cell 1
        have b2 := HB10.out.cell 2
        have y0 := HB10.out.frozen 0
        have y1 := HB10.out.frozen 1
        have y2 := HB10.out.frozen 2
        clear f10 q9
        go_wp2_with fail
        have HBf := (((HB10.out.far (p := ⟨w2.heap.size, 2, none⟩) (by simp; omega) (.int .i64 r)).set_ 0 (.string (str x))).set_ 1 (.slice A' (acc.length + 1) cap')).set_ 2 (.int .i64 r)
        have qf : PS ((((w10.setCell ⟨w2.heap.size, 2, none⟩ (.int .i64 r)).setCell ⟨w.heap.size, 0, none⟩ (.string (str x))).setCell ⟨w.heap.size, 1, none⟩ (.slice A' (acc.length + 1) cap')).setCell ⟨w.heap.size, 2, none⟩ (.int .i64 r)) pb s10 :=
          ⟨(((q10.1.far (by simp; omega) _).far (by simp; omega) _).far (by simp; omega) _).far (by simp; omega) _, q10.2⟩
        have Ff := (((F10.out.set_ (p := ⟨w2.heap.size, 2, none⟩) (fun h => absurd h (by simp; omega)) (.int .i64 r)).set_ (p := ⟨w.heap.size, 0, none⟩) (fun h => absurd h (by simp)) (.string (str x))).set_ (p := ⟨w.heap.size, 1, none⟩) (fun h => absurd h (by simp)) (.slice A' (acc.length + 1) cap')).set_ (p := ⟨w.heap.size, 2, none⟩) (fun h => absurd h (by simp)) (.int .i64 r)
        have d0 := HBf.cell 0
        have d1 := HBf.cell 1
        have d2 := HBf.cell 2
        have tf := (((Frm.refl (fun b => b = w2.heap.size ∨ b = w.heap.size) w10).set_ (p := ⟨w2.heap.size, 2, none⟩) (fun _ => .inl rfl) (.int .i64 r)).set_ (p := ⟨w.heap.size, 0, none⟩) (fun _ => .inr rfl) (.string (str x))).set_ (p := ⟨w.heap.size, 1, none⟩) (fun _ => .inr rfl) (.slice A' (acc.length + 1) cap') |>.set_ (p := ⟨w.heap.size, 2, none⟩) (fun _ => .inr rfl) (.int .i64 r)
        have tyf : Tys _ w.heap.size (.slice A' (acc.length + 1) cap') _ := tf.row hty10.out (fun g hg e => HG2.out g hg e) (Nat.le_refl _)
        refine bodyPost_ret (v := .agg #[.string (str x), (.slice A' (acc.length + 1) cap'), .int .i64 r]) (by simp [results, Tryz.results64, go_sem, d0, d1, d2]) rfl (.good (x := ⟨x, acc ++ [t], r⟩) Ff (by simp only [HX.out, L.Rd.bind, H2.out, H4.out, HD.out, H9.out, H10.out, L.Rd.ret]) ⟨_, rfl, tyf⟩ qf)
      · have HM : Hid (s6.m < s1.m) := by
          have := L.typ_le _ _ _ H5.out
          have := L.take_lt (by simp) H6.out
          exact show s6.m < s1.m by omega
        go_wp2_with fail
        go_roundg n
        case measure => omega
        case rel =>
          refine ⟨acc ++ [t], s6, _, q6, by have := HM.out; omega, by simp; omega, ?_, HC9, HB9, ?_, F9⟩
          · rw [List.length_append]; exact hown8.out
          · exact show _ = _ by simp only [HT.out, HY.out, L.Rd.bind, H5.out, H6.out, if_true]
end Go.Proofs.YtpdbkdcdlafobaaGreatDoor
end
section
namespace Go.Proofs.YtpdbkdcdlafobaaGreatDoor
open Go.RowKit
theorem info_decl : (Tryz.prog.info? 52).map (fun i => (i.zero, i.size, i.bytes)) = some (some (.agg #[.string ⟨#[]⟩, .slice none 0 0, .int .i64 0]), 3, 48) := by kernel_rfl
theorem World.ownsRow.moved {w w' : World} {base size n : Nat} {e : TypeId} {v : Value} {xs : List Value} (ho : World.ownsRow w base e size v n xs) (h : ∀ b, base ≤ b → b < w.heap.size → w'.heap[b]? = w.heap[b]?) : World.ownsRow w' base e size v n xs := by
  refine ⟨ho.1, ?_⟩
  rcases ho.2 with hn | ⟨g, cap, cur, rfl, h1, h2, h3⟩
  · exact .inl hn
  · exact .inr ⟨g, cap, cur, rfl, h1, (h g h1 (lt_of_heap h2)).trans h2, h3⟩
theorem Dls.keep {w w' : World} {lo lo' : Nat} (hl : lo' ≤ lo) (hk : ∀ b, lo ≤ b → b < w.heap.size → w'.heap[b]? = w.heap[b]?) : ∀ {ds : List L.Decl} {cs : List Value}, Dls w lo ds cs → Dls w' lo' ds cs
  | [], _, h => h
  | _ :: _, _, ⟨a, cs', h1, h2, h3⟩ => ⟨a, cs', h1, own_base (World.ownsRow.moved h2 hk) hl, Dls.keep hl hk h3⟩
theorem Dls.keep2 {w w' : World} {lo : Nat} (hk : Keeps 32 w w') : ∀ {ds : List L.Decl} {cs : List Value}, Dls w lo ds cs → Dls w' lo ds cs
  | [], _, h => h
  | _ :: _, _, ⟨a, cs', h1, h2, h3⟩ => ⟨a, cs', h1, hk.row h2, Dls.keep2 hk h3⟩
theorem Dls.snoc {w : World} {lo : Nat} {d : L.Decl} {a : Value} (ha : Tys w lo a d.args) : ∀ {ds : List L.Decl} {cs : List Value}, Dls w lo ds cs → Dls w lo (ds ++ [d]) (cs ++ [.string (str d.name), a, .int .i64 d.result])
  | [], _, h => ⟨a, [], by rw [show _ = [] from h]; rfl, ha, rfl⟩
  | _ :: _, _, ⟨b, cs', h1, h2, h3⟩ => ⟨b, _, by rw [h1]; rfl, h2, Dls.snoc ha h3⟩
theorem Decls.keep {w w' : World} {lo lo' : Nat} {v : Value} {ds : List L.Decl} (h : Decls w lo v ds) (hl : lo' ≤ lo) (hk : ∀ b, lo ≤ b → b < w.heap.size → w'.heap[b]? = w.heap[b]?) : Decls w' lo' v ds :=
  h.imp fun _ h => ⟨own_base (World.ownsRow.moved h.1 hk) hl, Dls.keep hl hk h.2⟩
def okDecls (lo : Nat) : List L.Decl → Value → World → Prop := fun ds v w => Decls w lo v ds
theorem cell_three_at {w : World} {u v x : Value} {e : TypeId} {n : Nat} (hn : w.heap.size = n) : ∀ (j : Nat) (y : Value), [u, v, x][j]? = some y → (w.alloc (.cells #[u, v, x] e)).cell? ((⟨n, 0, none⟩ : Addr).add j) = some y := by
  subst hn
  intro j y hx
  rw [add_zero_off, (Blk.new w e #[u, v, x]).cell j]
  simpa using hx
theorem decl_len {s s' : L.St} {d : L.Decl} (h : L.decl s = some (d, s')) : d.name.length ≤ maxLen := by
  obtain ⟨n, s1, h1, h2⟩ := L.bind_some h
  obtain ⟨_, _, _, h3⟩ := L.bind_some h2
  obtain ⟨_, _, _, h4⟩ := L.bind_some h3
  obtain ⟨_, _, _, h5⟩ := L.bind_some h4
  obtain ⟨_, _, _, h6⟩ := L.bind_some h5
  cases h6
  exact getName_len h1
set_option maxHeartbeats 1000000 in
theorem decls_any (pb : Nat) (s : L.St) (w : World) (h : PS w pb s) : Calls Tryz.prog 37 #[.pointer (some ⟨pb, 0, none⟩)] w (PPost (okDecls w.heap.size) pb (L.decls s) w) := by
  have h0 := h.1.cell 0
  have hlt := h.1.lt
  by_cases hp : s.part = [124, 45]
  · have hpq : (s.part == [124, 45]) = true := by simpa using hp
    have HG : Hid (L.decls s = some ([], s)) := by simp [Hid, L.decls, hp]
    clear hp
    go_enter Tryz.func37, Tryz.ntmps37
    go_wp2_with fail
    go_ret
    exact .good (x := []) (Frm.refl _ _) HG.out ⟨[], World.ownsRow_nil _ _ _ _, rfl⟩ h
  have hpq : (s.part == [124, 45]) = false := by simpa using hp
  have HG : Hid (L.decls s = L.declsFrom (s.m + 1) [] s) := by simp [Hid, L.decls, hp]
  clear hp
  go_enter Tryz.func37, Tryz.ntmps37
  go_wp2_with fail
  clear h0 hpq
  go_loopg [3] (s.m + 1) (fun n v wr => ∃ (acc : List L.Decl) (cs : List Value) (s1 : L.St), PS wr pb s1 ∧ s1.m < n ∧ acc.length + n ≤ 8002 ∧ wr.ownsRow w.heap.size 52 3 v acc.length cs ∧ Hid (Dls wr w.heap.size acc cs) ∧ Hid (L.decls s = L.declsFrom n acc s1) ∧ Hid (∀ x ∈ acc, x.name.length ≤ maxLen) ∧ Frm (· = pb) w wr)
  case atStart => exact ⟨[], [], s, h, by omega, by have := h.2.1; have := h.2.2; simp only [L.St.m, List.length_nil]; omega, World.ownsRow_nil _ _ _ _, rfl, HG, (fun x hx => by cases hx), Frm.refl _ _⟩
  case round =>
    obtain ⟨acc, cs, s1, hs1, hm, hle, hown, HD, HT, HN, hf⟩ := hrel
    obtain ⟨n, rfl⟩ : ∃ n, gk = n + 1 := ⟨gk - 1, by omega⟩
    have HX : Hid (L.declsFrom (n + 1) acc s1 = (L.decl.bind fun d => (L.take [44]).bind fun b =>
      if b then L.declsFrom n (acc ++ [d]) else if L.okDecls (acc ++ [d]) then .ret (acc ++ [d]) else .no) s1) := rfl
    go_wp2_with fail
    refine PPost.call (decl_any _ _ _ hs1) (fun w' hn hf1 => ⟨rfl, .bad (hf.trans hf1) (by simp only [HT.out, HX.out, L.Rd.bind, hn])⟩) ?_
    rintro d s2 v w2 H2 hv q2 f2
    obtain ⟨a, rfl, ha⟩ := hv
    obtain ⟨A, c, rfl⟩ := own_form ha
    have hown2 := f2.row hown (fun g hg e => by have := (hown.lt g hg).1; omega) (Nat.le_refl _)
    have HK : Hid (∀ b, w.heap.size ≤ b → b < wr.heap.size → w2.heap[b]? = wr.heap[b]?) := fun b hb hl => f2.2 b hl (by omega)
    have hlo := hf.1
    have HA := Lib.hid ha
    have hsz := Lib.hid f2.1
    clear hown ha
    obtain ⟨i0, hi, hz0, hz1, hz2⟩ := info_parts info_decl
    go_wp2_with (at_builtin; refine wpList_append_own _ rfl _ _ 31 rfl w.heap.size 52 i0 (.agg #[.string ⟨#[]⟩, .slice none 0 0, .int .i64 0]) 3 48 Tryz.underlying31 hi hz0 hz1 hz2 rfl (by decide) _ _ _ rfl ((hown2.alloc _).alloc _) ⟨w2.heap.size + 1, 0, none⟩ 1 1 [.string (str d.name), .slice A d.args.length c, .int .i64 d.result] rfl rfl ?c1 ?c2 ?c3 ?c4 ?c5 ?_)
    case c1 => exact cell_three_at (by simp)
    case c2 => simp [Value.oneCell']
    case c3 => unfold maxLen; omega
    case c4 => omega
    case c5 => have := hf.1; have := hsz.out; simp; omega
    intro v' w5 hown5 hgrow _
    have F5 := Lib.hid ((((hf.trans f2).alloc _).alloc _).own ((hown2.alloc _).alloc _) hgrow)
    have q5 : PS w5 pb s2 := ⟨(((q2.1.alloc _).alloc _).grown hgrow (fun e => by have := (hown2.lt pb e.symm).1; omega)), q2.2⟩
    have HK5 : Hid (Keeps 32 w2 w5) := ((((Keeps.refl 32 w2).alloc _).alloc _).grown ((hown2.alloc _).alloc _) (by decide) hgrow)
    clear hgrow hown2 hi hz0 hz1 hz2
    go_wp2_with fail
    refine PPost.call (take_any [44] _ _ _ q5) (fun w' hn hf1 => ⟨rfl, .bad (F5.out.trans hf1) (by simp only [HT.out, HX.out, L.Rd.bind, H2.out, hn])⟩) ?_
    rintro b s6 v w6 H6 rfl q6 f6
    have hown6 := f6.row hown5 (fun g hg e => by have := (hown5.lt g hg).1; omega) (Nat.le_refl _)
    have HN' : Hid (∀ y ∈ acc ++ [d], y.name.length ≤ maxLen) := by
      intro y hy
      rcases List.mem_append.1 hy with h | h
      · exact HN.out y h
      · rw [List.mem_singleton.1 h]; exact decl_len H2.out
    have HM : Hid (s6.m < s1.m) := by
      have := L.decl_lt _ _ _ H2.out
      have := L.take_le _ _ _ _ H6.out
      exact show s6.m < s1.m by omega
    have HK6 := HK5.out.trans (f6.keeps1 (e := 32) q5.1 (by decide))
    have HD' : Hid (Dls w6 w.heap.size (acc ++ [d]) (cs ++ [.string (str d.name), .slice A d.args.length c, .int .i64 d.result])) :=
      Dls.snoc (own_base (HK6.row HA.out) hlo) (Dls.keep2 HK6 (Dls.keep (Nat.le_refl _) HK.out HD.out))
    clear hown5 q5 HK6
    cases b
    · have hds : Decls w6 w.heap.size v' (acc ++ [d]) := ⟨_, by rw [List.length_append]; exact hown6, HD'.out⟩
      clear hown6
      go_wp2_with fail
      refine (validDecls_any _ _ _ _ hds HN'.out).mono ?_
      rintro e w7 ⟨rfl, f7⟩
      cases ho : L.okDecls (acc ++ [d])
      · have HO := Lib.hid ho
        clear ho
        go_wp2_with (go_at_call 66; refine (must_false _).mono ?_; rintro e w' ⟨rfl, rfl⟩)
        exact ⟨rfl, .bad (F5.out.trans (f6.trans (f7.mono fun _ _ h => h.elim))) (by simp only [HT.out, HX.out, L.Rd.bind, H2.out, H6.out, HO.out, Bool.false_eq_true, if_false]; rfl)⟩
      · have HO := Lib.hid ho
        clear ho
        go_wp2_with (go_at_call 66; refine (must_true _).mono ?_; rintro e w' ⟨rfl, rfl⟩)
        go_ret
        exact .good (F5.out.trans (f6.trans (f7.mono fun _ _ h => h.elim))) (by simp only [HT.out, HX.out, L.Rd.bind, H2.out, H6.out, HO.out, Bool.false_eq_true, if_false, if_true]; rfl)
          ⟨_, f7.row hds.choose_spec.1 (fun _ _ h => h) (Nat.le_refl _), Dls.keep2 f7.keeps0 hds.choose_spec.2⟩ ⟨f7.blk q6.1 id, q6.2⟩
    · go_wp2_with fail
      go_roundg n
      case measure => omega
      case rel =>
        refine ⟨acc ++ [d], _, s6, q6, by have := HM.out; omega, by simp; omega, by simpa using hown6, HD', ?_, HN', F5.out.trans f6⟩
        exact show _ = _ by simp only [HT.out, HX.out, L.Rd.bind, H2.out, H6.out, if_true]
end Go.Proofs.YtpdbkdcdlafobaaGreatDoor
end
section
namespace Go.Proofs.YtpdbkdcdlafobaaGreatDoor
open Go.RowKit
mutual
/-- The value v is the term t, and lies in blocks of A alone. -/
def Rep (w : World) (A : Nat → Prop) : L.Tm → Value → Prop
  | .skip, v => v = .iface 166 (.agg #[])
  | .stop of, v => v = .iface 168 (.agg #[.int .i64 of])
  | .fault of, v => v = .iface 169 (.agg #[.int .i64 of])
  | .row ts, v => ∃ sl vs, v = .iface 111 (.agg #[sl]) ∧ 2 ≤ ts.length ∧ w.ownsRow 0 34 1 sl ts.length vs ∧ (∀ g, sl.ownBlock = some g → A g) ∧ RepL w A ts vs
  | .assign n t, v => ∃ a, v = .iface 116 (.agg #[.string (str n), a]) ∧ Rep w A t a
  | .choice of x y z, v => ∃ a b c, v = .iface 118 (.agg #[.int .i64 of, a, b, c]) ∧ Rep w A x a ∧ Rep w A y b ∧ Rep w A z c
  | .loop x y, v => ∃ a b, v = .iface 120 (.agg #[a, b]) ∧ Rep w A x a ∧ Rep w A y b
  | .fresh of n x y, v => ∃ a b, v = .iface 126 (.agg #[.int .i64 of, .string (str n), a, b]) ∧ Rep w A x a ∧ Rep w A y b
  | .call of n ts, v => ∃ sl vs, v = .iface 106 (.agg #[.int .i64 of, .string (str n), sl]) ∧ w.ownsRow 0 34 1 sl ts.length vs ∧ (∀ g, sl.ownBlock = some g → A g) ∧ RepL w A ts vs
  | .proc of n ps r x y, v => ∃ sl a b, v = .iface 129 (.agg #[.int .i64 of, .string (str n), sl, .int .i64 r, a, b]) ∧ ps.length ≤ 3 ∧ Prs w sl ps ∧ (∀ g, sl.ownBlock = some g → A g) ∧ Rep w A x a ∧ Rep w A y b
  | .num i, v => v = .iface 175 (.agg #[.int .i64 i])
  | .read n, v => v = .iface 93 (.agg #[.string (str n)])
  | .binary k x y, v => ∃ a b, v = .iface 122 (.agg #[.int .i64 k, a, b]) ∧ Rep w A x a ∧ Rep w A y b
  | .doing x y, v => ∃ a b, v = .iface 124 (.agg #[a, b]) ∧ Rep w A x a ∧ Rep w A y b
  | .labelled n x, v => ∃ a, v = .iface 133 (.agg #[.string (str n), a]) ∧ Rep w A x a
  | .exit of n, v => v = .iface 150 (.agg #[.int .i64 of, .string (str n)])
def RepL (w : World) (A : Nat → Prop) : List L.Tm → List Value → Prop
  | [], vs => vs = []
  | t :: ts, vs => ∃ v vs', vs = v :: vs' ∧ Rep w A t v ∧ RepL w A ts vs'
end
/-- The blocks of A stay as they are. -/
def Same (A : Nat → Prop) (w w' : World) : Prop := ∀ b, A b → b < w.heap.size → w'.heap[b]? = w.heap[b]?
theorem Same.row {A : Nat → Prop} {w w' : World} {base size n : Nat} {e : TypeId} {v : Value} {xs : List Value} (h : Same A w w') (ho : w.ownsRow base e size v n xs) (ha : ∀ g, v.ownBlock = some g → A g) : w'.ownsRow base e size v n xs := by
  refine ⟨ho.1, ?_⟩
  rcases ho.2 with hn | ⟨g, cap, cur, rfl, h1, h2, h3⟩
  · exact .inl hn
  · exact .inr ⟨g, cap, cur, rfl, h1, (h g (ha g rfl) (lt_of_heap h2)).trans h2, h3⟩
theorem Frm.same {A E : Nat → Prop} {w w' : World} (h : Frm E w w') (ha : ∀ b, A b → b < w.heap.size → ¬ E b) : Same A w w' := fun b hb hl => h.2 b hl (ha b hb hl)
mutual
theorem Rep.keep {w w' : World} {A A' : Nat → Prop} (h : Same A w w') (hA : ∀ b, A b → b < w.heap.size → A' b) : ∀ {t : L.Tm} {v : Value}, Rep w A t v → Rep w' A' t v
  | .skip, _, e => e
  | .stop _, _, e => e
  | .fault _, _, e => e
  | .row _, _, ⟨sl, vs, e, h2', ho, ha, hr⟩ => ⟨sl, vs, e, h2', h.row ho ha, fun g hg => hA g (ha g hg) (ho.lt g hg).2, RepL.keep h hA hr⟩
  | .assign _ _, _, ⟨a, e, ha⟩ => ⟨a, e, Rep.keep h hA ha⟩
  | .choice _ _ _ _, _, ⟨a, b, c, e, ha, hb, hc⟩ => ⟨a, b, c, e, Rep.keep h hA ha, Rep.keep h hA hb, Rep.keep h hA hc⟩
  | .loop _ _, _, ⟨a, b, e, ha, hb⟩ => ⟨a, b, e, Rep.keep h hA ha, Rep.keep h hA hb⟩
  | .fresh _ _ _ _, _, ⟨a, b, e, ha, hb⟩ => ⟨a, b, e, Rep.keep h hA ha, Rep.keep h hA hb⟩
  | .call _ _ _, _, ⟨sl, vs, e, ho, ha, hr⟩ => ⟨sl, vs, e, h.row ho ha, fun g hg => hA g (ha g hg) (ho.lt g hg).2, RepL.keep h hA hr⟩
  | .proc _ _ _ _ _ _, _, ⟨sl, a, b, e, h3, ho, hs, ha, hb⟩ => ⟨sl, a, b, e, h3, h.row ho hs, fun g hg => hA g (hs g hg) (World.ownsRow.lt ho g hg).2, Rep.keep h hA ha, Rep.keep h hA hb⟩
  | .num _, _, e => e
  | .read _, _, e => e
  | .binary _ _ _, _, ⟨a, b, e, ha, hb⟩ => ⟨a, b, e, Rep.keep h hA ha, Rep.keep h hA hb⟩
  | .doing _ _, _, ⟨a, b, e, ha, hb⟩ => ⟨a, b, e, Rep.keep h hA ha, Rep.keep h hA hb⟩
  | .labelled _ _, _, ⟨a, e, ha⟩ => ⟨a, e, Rep.keep h hA ha⟩
  | .exit _ _, _, e => e
theorem RepL.keep {w w' : World} {A A' : Nat → Prop} (h : Same A w w') (hA : ∀ b, A b → b < w.heap.size → A' b) : ∀ {ts : List L.Tm} {vs : List Value}, RepL w A ts vs → RepL w' A' ts vs
  | [], _, e => e
  | _ :: _, _, ⟨v, vs', e, hv, hr⟩ => ⟨v, vs', e, Rep.keep h hA hv, RepL.keep h hA hr⟩
end
theorem RepL.snoc {w : World} {A : Nat → Prop} {t : L.Tm} {v : Value} (hv : Rep w A t v) : ∀ {ts : List L.Tm} {vs : List Value}, RepL w A ts vs → RepL w A (ts ++ [t]) (vs ++ [v])
  | [], _, h => ⟨v, [], by rw [show _ = [] from h]; rfl, hv, rfl⟩
  | _ :: _, _, ⟨u, _, e, hu, hr⟩ => ⟨u, _, by rw [e]; rfl, hu, RepL.snoc hv hr⟩
theorem RepL.append {w : World} {A : Nat → Prop} {us : List L.Tm} {xs : List Value} (hu : RepL w A us xs) : ∀ {ts : List L.Tm} {vs : List Value}, RepL w A ts vs → RepL w A (ts ++ us) (vs ++ xs)
  | [], _, h => by rw [show _ = [] from h]; exact hu
  | _ :: _, _, ⟨u, _, e, h, hr⟩ => ⟨u, _, by rw [e]; rfl, h, RepL.append hu hr⟩
theorem RepL.len {w : World} {A : Nat → Prop} : ∀ {ts : List L.Tm} {vs : List Value}, RepL w A ts vs → vs.length = ts.length
  | [], _, h => by rw [show _ = [] from h]; rfl
  | _ :: _, _, ⟨_, _, e, _, hr⟩ => by rw [e, List.length_cons, List.length_cons, RepL.len hr]
theorem RepL.at_ {w : World} {A : Nat → Prop} : ∀ {ts : List L.Tm} {vs : List Value}, RepL w A ts vs → ∀ {k : Nat} (hk : k < ts.length), ∃ v, vs[k]? = some v ∧ Rep w A ts[k] v
  | _ :: _, _, ⟨v, _, e, hv, hr⟩, 0, _ => ⟨v, by rw [e]; rfl, hv⟩
  | _ :: _, _, ⟨_, _, e, _, hr⟩, k + 1, hk => by
    obtain ⟨v, h1, h2⟩ := RepL.at_ hr (k := k) (by simpa using hk)
    exact ⟨v, by rw [e]; exact h1, h2⟩
/-- A term's value is an interface value that holds a struct. -/
theorem Rep.form {w : World} {A : Nat → Prop} : ∀ {t : L.Tm} {v : Value}, Rep w A t v → ∃ T cs, v = .iface T (.agg cs)
  | .skip, _, h => ⟨_, _, h⟩
  | .stop _, _, h => ⟨_, _, h⟩
  | .fault _, _, h => ⟨_, _, h⟩
  | .row _, _, ⟨_, _, e, _⟩ => ⟨_, _, e⟩
  | .assign _ _, _, ⟨_, e, _⟩ => ⟨_, _, e⟩
  | .choice _ _ _ _, _, ⟨_, _, _, e, _⟩ => ⟨_, _, e⟩
  | .loop _ _, _, ⟨_, _, e, _⟩ => ⟨_, _, e⟩
  | .fresh _ _ _ _, _, ⟨_, _, e, _⟩ => ⟨_, _, e⟩
  | .call _ _ _, _, ⟨_, _, e, _⟩ => ⟨_, _, e⟩
  | .proc _ _ _ _ _ _, _, ⟨_, _, _, e, _⟩ => ⟨_, _, e⟩
  | .num _, _, h => ⟨_, _, h⟩
  | .read _, _, h => ⟨_, _, h⟩
  | .binary _ _ _, _, ⟨_, _, e, _⟩ => ⟨_, _, e⟩
  | .doing _ _, _, ⟨_, _, e, _⟩ => ⟨_, _, e⟩
  | .labelled _ _, _, ⟨_, e, _⟩ => ⟨_, _, e⟩
  | .exit _ _, _, h => ⟨_, _, h⟩
theorem RepL.one {w : World} {A : Nat → Prop} : ∀ {ts : List L.Tm} {vs : List Value}, RepL w A ts vs → ∀ u ∈ vs, u.oneCell' = true
  | [], _, h, u, hu => by rw [show _ = [] from h] at hu; cases hu
  | _ :: _, _, ⟨v, _, e, hv, hr⟩, u, hu => by
    subst e
    rcases List.mem_cons.1 hu with rfl | hu
    · obtain ⟨T, cs, rfl⟩ := hv.form; rfl
    · exact RepL.one hr u hu
theorem Rep.notRow {w : World} {A : Nat → Prop} : ∀ {t : L.Tm} {v : Value}, Rep w A t v → L.isRow t = false → ∃ T cs, v = .iface T (.agg cs) ∧ T ≠ 111
  | .skip, _, h, _ => ⟨_, _, h, by decide⟩
  | .stop _, _, h, _ => ⟨_, _, h, by decide⟩
  | .fault _, _, h, _ => ⟨_, _, h, by decide⟩
  | .row _, _, _, h => by cases h
  | .assign _ _, _, ⟨_, e, _⟩, _ => ⟨_, _, e, by decide⟩
  | .choice _ _ _ _, _, ⟨_, _, _, e, _⟩, _ => ⟨_, _, e, by decide⟩
  | .loop _ _, _, ⟨_, _, e, _⟩, _ => ⟨_, _, e, by decide⟩
  | .fresh _ _ _ _, _, ⟨_, _, e, _⟩, _ => ⟨_, _, e, by decide⟩
  | .call _ _ _, _, ⟨_, _, e, _⟩, _ => ⟨_, _, e, by decide⟩
  | .proc _ _ _ _ _ _, _, ⟨_, _, _, e, _⟩, _ => ⟨_, _, e, by decide⟩
  | .num _, _, h, _ => ⟨_, _, h, by decide⟩
  | .read _, _, h, _ => ⟨_, _, h, by decide⟩
  | .binary _ _ _, _, ⟨_, _, e, _⟩, _ => ⟨_, _, e, by decide⟩
  | .doing _ _, _, ⟨_, _, e, _⟩, _ => ⟨_, _, e, by decide⟩
  | .labelled _ _, _, ⟨_, e, _⟩, _ => ⟨_, _, e, by decide⟩
  | .exit _ _, _, h, _ => ⟨_, _, h, by decide⟩
theorem zero_row (W : World) : (do pure (Value.tuple #[← zeroValue 111, .bool false]) : Sem Value).run Tryz.prog W = .ok (.tuple #[.agg #[.slice none 0 0], .bool false]) W := by kernel_rfl
theorem assert_row_yes (W : World) (v : Value) : (Instr.typeAssert (.iface 111 v) 34 111 true).run Tryz.prog W = .ok (.tuple #[v, .bool true]) W := by kernel_rfl
theorem assert_row_no (W : World) (u : TypeId) (v : Value) (h : u ≠ 111) : (Instr.typeAssert (.iface u v) 34 111 true).run Tryz.prog W = .ok (.tuple #[.agg #[.slice none 0 0], .bool false]) W := by
  have e : (Instr.typeAssert (.iface u v) 34 111 true).run Tryz.prog W = (if u = 111 then (pure (Value.tuple #[v, .bool true]) : Sem Value) else (do pure (Value.tuple #[← zeroValue 111, .bool false]))).run Tryz.prog W := by kernel_rfl
  rw [e, if_neg h]
  exact zero_row W
theorem info_term : (Tryz.prog.info? 34).map (fun i => (i.zero, i.size, i.bytes)) = some (some .nilIface, 1, 16) := by kernel_rfl
def pre (ts : List L.Tm) (k : Nat) : List L.Tm := (ts.take k).flatMap L.stepsOf
theorem pre_succ {ts : List L.Tm} {k : Nat} (hk : k < ts.length) : pre ts (k + 1) = pre ts k ++ L.stepsOf ts[k] := by rw [pre, List.take_succ_eq_append_getElem hk, List.flatMap_append]; simp [pre]
theorem pre_all (ts : List L.Tm) : pre ts ts.length = ts.flatMap L.stepsOf := by rw [pre, List.take_length]
theorem pre_le {ts : List L.Tm} {k : Nat} : (pre ts k).length ≤ (ts.flatMap L.stepsOf).length := by
  have : ts.flatMap L.stepsOf = pre ts k ++ (ts.drop k).flatMap L.stepsOf := by rw [pre, ← List.flatMap_append, List.take_append_drop]
  rw [this, List.length_append]; omega
end Go.Proofs.YtpdbkdcdlafobaaGreatDoor
end
