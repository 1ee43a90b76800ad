/- The contract of find. find, wrongSort, as plain calls. The contracts of wrongSort, meant, takes, wrong. The contract of meant. Contracts of the program's functions, with no condition beyond what each theorem states. -/
import Derived.Test.YtpdbkdcdlafobaaGreatDoorC09
section
namespace Go.Proofs.YtpdbkdcdlafobaaGreatDoor
open Go.RowKit Go.Shelf
attribute [local go_sem] Oper.semAt_some
set_option maxRecDepth 100000 in
set_option maxHeartbeats 1000000 in
theorem back_nil_in (F : Fence) (n : Nat) (hfn : F.fn 114) (hro : F.round = none) (l Bs : Nat) (J : List (Nat × BV) → World → Prop) (W : World) (hBs : W.cell? ⟨Bs, 0, none⟩ = some (.slice none 0 0)) (h0 : J [] W) :
    CallsIn F n Tryz.prog 114 #[.func (.yield l) #[] #[], .pointer (some ⟨Bs, 0, none⟩)] W fun e W' => (∃ v, e = .returned v) ∧ J [] W' := by
  refine callsIn_of_wp Tryz.func114 rfl hfn ?_ hro
  simp only [Tryz.ntmps114, List.size_toArray, List.length_cons, List.length_nil, Nat.reduceAdd, Nat.reduceSub, Array.replicate_succ, Array.replicate_zero, List.push_toArray, List.append_toArray, List.nil_append, List.cons_append]
  gi_wp2
  gi_loopw [3] (fun i wr => i = .int .i64 (-1) ∧ J [] wr) (fun _ _ => 0)
  case atStart => exact ⟨rfl, h0⟩
  case round =>
    obtain ⟨rfl, hJs⟩ := hrel
    gi_wp2
    go_end0
    exact ⟨⟨_, rfl⟩, hJs⟩
set_option maxHeartbeats 1000000 in
theorem backward_in (F : Fence) (n : Nat) (hfn : F.fn 75) (hro : F.round = none) (a : Option Addr) (len cap : Nat) (w : World) :
    CallsIn F n Tryz.prog 75 #[.slice a len cap] w fun e w' => e = .returned (.func (.func 114) #[] #[.pointer (some ⟨w.heap.size, 0, none⟩)]) ∧ w' = w.alloc (.cells #[.slice a len cap] 69) := by
  refine callsIn_of_wp Tryz.func75 rfl hfn ?_ hro
  simp only [Tryz.ntmps75, List.size_toArray, List.length_cons, List.length_nil, Nat.reduceAdd, Nat.reduceSub, Array.replicate_succ, Array.replicate_zero, List.push_toArray, List.append_toArray, List.nil_append, List.cons_append]
  gi_wp2
  go_ret
  exact ⟨rfl, rfl⟩
/-- A slice value that reads as a list of bindings, below n₀. -/
def BRow (n₀ : Nat) (W : World) (sv : Value) (zs : List BV) : Prop :=
  (sv = .slice none 0 0 ∧ zs = []) ∨ ∃ b cap, sv = .slice (some ⟨b, 0, none⟩) zs.length cap ∧ b < n₀ ∧
    ∀ j, j < zs.length → W.cell? ⟨b, j * 4, none⟩ = some (.int .i64 (zs[j]?.getD bv0).1.sort) ∧ W.cell? ⟨b, j * 4 + 1, none⟩ = some (.string (str (zs[j]?.getD bv0).1.name)) ∧ W.cell? ⟨b, j * 4 + 2, none⟩ = some (bargs (zs[j]?.getD bv0)) ∧ W.cell? ⟨b, j * 4 + 3, none⟩ = some (.int .i64 (zs[j]?.getD bv0).1.result)
theorem BRow.below {n₀ : Nat} {W W' : World} {sv : Value} {zs : List BV} (h : BRow n₀ W sv zs) (hb : Below n₀ W W') : BRow n₀ W' sv zs := by
  rcases h with h | ⟨b, cap, rfl, hlt, hc⟩
  · exact .inl h
  · exact .inr ⟨b, cap, rfl, hlt, fun j hj => ⟨(hb.cell (p := ⟨b, _, none⟩) hlt).trans (hc j hj).1, (hb.cell (p := ⟨b, _, none⟩) hlt).trans (hc j hj).2.1, (hb.cell (p := ⟨b, _, none⟩) hlt).trans (hc j hj).2.2.1, (hb.cell (p := ⟨b, _, none⟩) hlt).trans (hc j hj).2.2.2⟩⟩
theorem back_stops (F : Fence) (n : Nat) (hfn : F.fn 114) (hro : F.round = none) (hn : 1 ≤ n) (Bs n₀ : Nat) (sv : Value) (zs : List BV) (hz : zs.length ≤ 1000000) (w : World) (hBs : Bs < w.heap.size) (hBn : Bs < n₀) (hn₀ : n₀ ≤ w.heap.size)
    (hc : w.cell? ⟨Bs, 0, none⟩ = some sv) (hI : BRow n₀ w sv zs) :
    SeqStopsK F n Tryz.prog 114 #[.pointer (some ⟨Bs, 0, none⟩)] (fun x : Nat × BV => #[Value.int .i64 (x.1 : Int), bval x.2]) (Below n₀) (fun ys => ys = upto (back zs) zs.length)
      (fun pre => ∃ k, k ≤ zs.length ∧ pre = upto (back zs) k) zs.length w := fun l J Jx W hW _ _ hY h0 => by
  have hc' := (hW.cell (p := ⟨Bs, 0, none⟩) hBs).trans hc
  rcases hI.below (hW.mono hn₀) with ⟨rfl, rfl⟩ | ⟨b, cap, rfl, hb, hcs⟩
  · exact (back_nil_in F n hfn hro l Bs J W hc' h0).mono fun e W' ⟨he, hj⟩ => ⟨he, .inl ⟨_, rfl, hj⟩⟩
  · exact back_in F n hfn hro hn l Bs n₀ b cap zs hz hb hBn J Jx hY W hc' hcs h0
theorem blk_own {β : Type} (B : Nat) (t : TypeId) (f : β → Array Value) : Own (fun s W => Blk W B t (f s)) := fun s X Y row hs hg hrow =>
  hs.grown hg (fun e' => by obtain ⟨o, ho, hc⟩ := hrow B e'.symm; rw [show X.heap[B]? = _ from hs] at ho; cases ho; cases hc)
theorem back_rev (zs : List BV) (k : Nat) (hk : k ≤ zs.length) : (upto (back zs) k).map (·.2) = zs.reverse.take k := by
  apply List.ext_getElem?
  intro i
  simp only [upto, List.map_map, List.getElem?_map, List.getElem?_take]
  by_cases h : i < k
  · rw [List.getElem?_range h, if_pos h, List.getElem?_reverse (by omega)]
    have hi : zs.length - 1 - i < zs.length := by omega
    simp [back, List.getElem?_eq_getElem hi]
  · rw [if_neg h, List.getElem?_eq_none (by simp; omega)]; rfl
theorem find_none {zs : List BV} {nm : L.Bytes} (h : ∀ p ∈ upto (back zs) zs.length, p.2.1.name ≠ nm) : zs.reverse.find? (fun z => z.1.name == nm) = none := by
  have hb := back_rev zs zs.length (Nat.le_refl _)
  rw [List.take_of_length_le (by simp)] at hb
  rw [← hb, List.find?_eq_none]
  intro x hx
  obtain ⟨p, hp, rfl⟩ := List.mem_map.1 hx
  simpa using h p hp
theorem find_some {zs : List BV} {nm : L.Bytes} {k : Nat} {ini : List (Nat × BV)} {last : Nat × BV} (hk : k ≤ zs.length) (e1 : upto (back zs) k = ini ++ [last]) (e2 : ∀ p ∈ ini, p.2.1.name ≠ nm) (e3 : last.2.1.name = nm) : zs.reverse.find? (fun z => z.1.name == nm) = some last.2 := by
  have hb := back_rev zs k hk
  rw [e1, List.map_append] at hb
  rw [← List.take_append_drop k zs.reverse, ← hb, List.append_assoc, List.find?_append]
  have hn : (ini.map (·.2)).find? (fun z => z.1.name == nm) = none := by
    rw [List.find?_eq_none]
    intro x hx
    obtain ⟨p, hp, rfl⟩ := List.mem_map.1 hx
    simpa using e2 p hp
  rw [hn]
  simp [e3]
def bcells (z : BV) : Array Value := #[.int .i64 z.1.sort, .string (str z.1.name), bargs z, .int .i64 z.1.result]
set_option maxRecDepth 100000 in
set_option maxHeartbeats 2000000 in
theorem find_in (F : Fence) (n : Nat) (h1 : F.fn 49) (h2 : F.fn 75) (h3 : F.fn 114) (hro : F.round = none) (hn : 3 ≤ n) (R : Nat) (a : Option Addr) (cap : Nat) (zs : List BV) (hz : zs.length ≤ 1000000) (nm : L.Bytes) (w : World)
    (hc : w.cell? ⟨R, 0, none⟩ = some (.slice a zs.length cap)) (hI : BRow w.heap.size w (.slice a zs.length cap) zs) :
    CallsIn F n Tryz.prog 49 #[.pointer (some ⟨R, 0, none⟩), .string (str nm)] w fun e W' => Below w.heap.size w W' ∧
      ((∃ z, zs.reverse.find? (fun z => z.1.name == nm) = some z ∧ e = .returned (.tuple #[bval z, .bool true])) ∨ (zs.reverse.find? (fun z => z.1.name == nm) = none ∧ e = .returned (.tuple #[.agg #[.int .i64 0, .string ⟨#[]⟩, .slice none 0 0, .int .i64 0], .bool false]))) := by
  have h1n : 1 ≤ n := by omega
  have hc3 : ∀ o1 o2 o3, (((w.alloc o1).alloc o2).alloc o3).cell? ⟨R, 0, none⟩ = some (.slice a zs.length cap) := fun o1 o2 o3 => ((((Frm.refl (fun _ => False) w).alloc o1).alloc o2).alloc o3).cell id hc
  refine callsIn_of_wp_marks Tryz.func49 rfl h1 ?_ hro
  simp only [Tryz.ntmps49, List.size_toArray, List.length_cons, List.length_nil, Nat.reduceAdd, Nat.reduceSub, Array.replicate_succ, Array.replicate_zero, List.push_toArray, List.append_toArray, List.nil_append, List.cons_append]
  gi_wp2_with (gi_at_call 75; refine (backward_in F (n - 1) h2 hro _ _ _ _).mono ?_; rintro e w' ⟨rfl, rfl⟩)
  obtain ⟨W0, hW0⟩ : ∃ W0, (((w.alloc (.cells #[.string (str nm)] 9)).alloc (.cells #[.int .i64 0, .string ⟨#[]⟩, .slice none 0 0, .int .i64 0] 67)).alloc (.cells #[.bool false] 4)).alloc (.cells #[.slice a zs.length cap] 69) = W0 := ⟨_, rfl⟩
  have b1 : Blk W0 w.heap.size 9 #[.string (str nm)] := by rw [← hW0]; exact (((Blk.new w _ _).alloc _).alloc _).alloc _
  have b2 : Blk W0 (w.heap.size + 1) 67 #[.int .i64 0, .string ⟨#[]⟩, .slice none 0 0, .int .i64 0] := by rw [← hW0]; have := Blk.new (w.alloc (.cells #[.string (str nm)] 9)) 67 #[.int .i64 0, .string ⟨#[]⟩, .slice none 0 0, .int .i64 0]; rw [World.size_alloc] at this; exact (this.alloc _).alloc _
  have b3 : Blk W0 (w.heap.size + 1 + 1) 4 #[.bool false] := by rw [← hW0]; have := Blk.new ((w.alloc (.cells #[.string (str nm)] 9)).alloc (.cells #[.int .i64 0, .string ⟨#[]⟩, .slice none 0 0, .int .i64 0] 67)) 4 #[.bool false]; rw [World.size_alloc, World.size_alloc] at this; exact this.alloc _
  have b4 : Blk W0 (w.heap.size + 3) 69 #[.slice a zs.length cap] := by rw [← hW0]; have := Blk.new (((w.alloc (.cells #[.string (str nm)] 9)).alloc (.cells #[.int .i64 0, .string ⟨#[]⟩, .slice none 0 0, .int .i64 0] 67)).alloc (.cells #[.bool false] 4)) 69 #[.slice a zs.length cap]; rw [World.size_alloc, World.size_alloc, World.size_alloc] at this; exact this
  have hB0 : Below w.heap.size w W0 := by rw [← hW0]; exact ((((Below.refl _ w).alloc (Nat.le_refl _) _).alloc (by simp) _).alloc (by simp; omega) _).alloc (by simp; omega) _
  have hsz : W0.heap.size = w.heap.size + 4 := by rw [← hW0]; simp
  have hI0 : BRow (w.heap.size + 4) W0 (.slice a zs.length cap) zs := by
    rcases hI.below hB0 with h | ⟨b, c, h1, h2, h3⟩
    · exact .inl h
    · exact .inr ⟨b, c, h1, by omega, h3⟩
  rw [hW0]
  clear hW0 hc3
  refine wpIn_rangeFunc_ownH hro h1n (gf := 114) (lb := #[.pointer (some ⟨w.heap.size + 1 + 1 + 1, 0, none⟩)]) rfl h3 (enters_of Tryz.func114 (by kernel_rfl) rfl)
    (back_stops F (n - 1) h3 hro (by omega) (w.heap.size + 3) (w.heap.size + 4) _ zs hz W0 (by omega) (by omega) (by omega) (b4.cell 0) hI0) belowK_t (belowK_b (by omega)) (Below.refl _ _) (fun _ => rfl)
    (fun pre W => ((((∀ p ∈ pre, p.2.1.name ≠ nm) ∧ Blk W w.heap.size 9 #[.string (str nm)]) ∧ Blk W (w.heap.size + 1) 67 #[.int .i64 0, .string ⟨#[]⟩, .slice none 0 0, .int .i64 0]) ∧ Blk W (w.heap.size + 1 + 1) 4 #[.bool false]) ∧ Below (w.heap.size + 4) W0 W)
    (fun c pre W => ∃ ini last, (c = .ret ∧ pre = ini ++ [last] ∧ (∀ p ∈ ini, p.2.1.name ≠ nm) ∧ last.2.1.name = nm) ∧ (Blk W (w.heap.size + 1) 67 (bcells last.2) ∧ Blk W (w.heap.size + 1 + 1) 4 #[.bool true]) ∧ Below w.heap.size w W)
    (OwnFrom.and (OwnFrom.and (OwnFrom.and (OwnFrom.and (ownFrom_pure _ _) (Own.from (blk_own _ _ _) _)) (Own.from (blk_own _ _ _) _)) (Own.from (blk_own _ _ _) _)) (ownFrom_below (by omega) (by omega)))
    (fun c s X Y row hs hg hr => by
      obtain ⟨ini, last, h1, ⟨h2, h3⟩, h4⟩ := hs
      exact ⟨ini, last, h1, ⟨blk_own _ _ (fun (_ : Unit) => bcells last.2) () X Y row h2 hg (fun r e => (hr r e).2), blk_own _ _ (fun (_ : Unit) => #[.bool true]) () X Y row h3 hg (fun r e => (hr r e).2)⟩, ownFrom_below (β := Unit) (Nat.le_refl w.heap.size) (B := W0.heap.size) (by omega) () X Y row h4 hg hr⟩)
    ⟨⟨⟨⟨by simp, b1⟩, b2⟩, b3⟩, Below.refl _ _⟩
    (fun x a' W => ∃ Bx, W0.heap.size ≤ Bx ∧ Blk W Bx 67 (bcells x.2) ∧ a' = { tmps := #[.pointer (some ⟨R, 0, none⟩), .string (str nm), undef, .pointer (some ⟨w.heap.size, 0, none⟩), .pointer (some ⟨w.heap.size + 1, 0, none⟩), .pointer (some ⟨w.heap.size + 1 + 1, 0, none⟩), undef, .pointer (some ⟨Bx, 0, none⟩), .pointer (some ⟨R, 0, none⟩), .pointer (some ⟨R, 0, none⟩), .slice a zs.length cap, .func (.func 114) #[] #[.pointer (some ⟨w.heap.size + 1 + 1 + 1, 0, none⟩)], .int .i64 (x.1 : Int), bval x.2, undef, undef, undef, undef, undef, undef], defers := [] })
    (fun x a' _ X Y row hs hg hr => by obtain ⟨Bx, h1, h2, h3⟩ := hs; exact ⟨Bx, h1, blk_own _ _ (fun (_ : Unit) => bcells x.2) () X Y row h2 hg (fun r e => (hr r e).2), h3⟩)
    ?assign ?body ?done ?stop
  case assign =>
    rintro l pre x W K ⟨⟨⟨⟨hp, i1⟩, i2⟩, i3⟩, hB⟩ hK
    dsimp only [bval, bcells, bargs] at hK ⊢
    have hsW := hB.size
    gi_wp2
    exact hK _ _ ((KeepsOthers.alloc _ _).from _) ((Below.refl _ W).alloc (by omega) _) ⟨⟨⟨⟨hp, i1.alloc _⟩, i2.alloc _⟩, i3.alloc _⟩, hB.alloc (by omega) _⟩ ⟨W.heap.size, hsW, Blk.new W _ _, rfl⟩
  case body =>
    rintro l pre x a' W hl ⟨r, hr⟩ ⟨⟨⟨⟨hp, i1⟩, i2⟩, i3⟩, hB⟩ ⟨Bx, hBx, bX, rfl⟩ hlt
    have c1 : W.cell? ⟨w.heap.size, 0, none⟩ = _ := i1.cell 0
    have x0 : W.cell? ⟨Bx, 0, none⟩ = _ := bX.cell 0
    have x1 : W.cell? ⟨Bx, 1, none⟩ = _ := bX.cell 1
    have x2 : W.cell? ⟨Bx, 2, none⟩ = _ := bX.cell 2
    have x3 : W.cell? ⟨Bx, 3, none⟩ = _ := bX.cell 3
    have y0 : W.cell? ⟨w.heap.size + 1, 0, none⟩ = _ := i2.cell 0
    have y1 : W.cell? ⟨w.heap.size + 1, 1, none⟩ = _ := i2.cell 1
    have y2 : W.cell? ⟨w.heap.size + 1, 2, none⟩ = _ := i2.cell 2
    have y3 : W.cell? ⟨w.heap.size + 1, 3, none⟩ = _ := i2.cell 3
    have f20 := i2.frozen 0
    have f21 := i2.frozen 1
    have f22 := i2.frozen 2
    have f23 := i2.frozen 3
    have z0 : W.cell? ⟨w.heap.size + 1 + 1, 0, none⟩ = _ := i3.cell 0
    have f3 := i3.frozen 0
    dsimp only [bval, bcells, bargs] at *
    have hB1 : Below w.heap.size w W := hB0.trans (hB.mono (by omega))
    clear hB0
    gi_wp2
    · have hx : x.2.1.name = nm := by first | assumption | (simpa using ‹(x.2.1.name == nm) = true›)
      refine ⟨(((((KeepsOthers.setCell _ _ _).trans (KeepsOthers.setCell _ _ _)).trans (KeepsOthers.setCell _ _ _)).trans (KeepsOthers.setCell _ _ _)).trans (KeepsOthers.setCell _ _ _)).from _, pre, x, ⟨rfl, rfl, hp, hx⟩, ⟨?_, ?_⟩, ?_⟩
      · exact ((((i2.set_ 0 _).set_ 1 _).set_ 2 _).set_ 3 _).far (p := ⟨w.heap.size + 1 + 1, 0, none⟩) (by simp) _
      · exact ((((i3.far (p := ⟨w.heap.size + 1, 0, none⟩) (by simp) _).far (p := ⟨w.heap.size + 1, 1, none⟩) (by simp) _).far (p := ⟨w.heap.size + 1, 2, none⟩) (by simp) _).far (p := ⟨w.heap.size + 1, 3, none⟩) (by simp) _).set_ 0 _
      · exact ((((hB1.setCell (p := ⟨w.heap.size + 1, 0, none⟩) (by simp) _).setCell (p := ⟨w.heap.size + 1, 1, none⟩) (by simp) _).setCell (p := ⟨w.heap.size + 1, 2, none⟩) (by simp) _).setCell (p := ⟨w.heap.size + 1, 3, none⟩) (by simp) _).setCell (p := ⟨w.heap.size + 1 + 1, 0, none⟩) (by dsimp only; omega) _
    · have hx : x.2.1.name ≠ nm := by first | assumption | (simpa using ‹(x.2.1.name == nm) = false›) | (simpa using ‹¬ (x.2.1.name == nm) = true›)
      exact ⟨KeepsFrom.refl _ _, Below.refl _ _, ⟨⟨⟨fun p hp' => (List.mem_append.1 hp').elim (hp p) (fun e => by simp at e; subst e; exact hx), i1⟩, i2⟩, i3⟩, hB⟩
  case done =>
    rintro D ys W hD rfl ⟨⟨⟨⟨hp, i1⟩, i2⟩, i3⟩, hB⟩ hK
    have y0 : W.cell? ⟨w.heap.size + 1, 0, none⟩ = _ := i2.cell 0
    have y1 : W.cell? ⟨w.heap.size + 1, 1, none⟩ = _ := i2.cell 1
    have y2 : W.cell? ⟨w.heap.size + 1, 2, none⟩ = _ := i2.cell 2
    have y3 : W.cell? ⟨w.heap.size + 1, 3, none⟩ = _ := i2.cell 3
    have f20 := i2.frozen 0
    have f21 := i2.frozen 1
    have f22 := i2.frozen 2
    have f23 := i2.frozen 3
    have z0 : W.cell? ⟨w.heap.size + 1 + 1, 0, none⟩ = _ := i3.cell 0
    have f3 := i3.frozen 0
    have hB1 : Below w.heap.size w W := hB0.trans (hB.mono (by omega))
    clear hB0
    gi_wp2
    have hK' := (((((KeepsOthers.setCell W ⟨w.heap.size + 1, 0, none⟩ (.int .i64 0)).trans (KeepsOthers.setCell _ ⟨w.heap.size + 1, 1, none⟩ (.string ⟨#[]⟩))).trans (KeepsOthers.setCell _ ⟨w.heap.size + 1, 2, none⟩ (.slice none 0 0))).trans (KeepsOthers.setCell _ ⟨w.heap.size + 1, 3, none⟩ (.int .i64 0))).trans (KeepsOthers.setCell _ ⟨w.heap.size + 1 + 1, 0, none⟩ (.bool false))).same D _ hK rfl
    have j2 := ((((i2.set_ 0 (.int .i64 0)).set_ 1 (.string ⟨#[]⟩)).set_ 2 (.slice none 0 0)).set_ 3 (.int .i64 0)).far (p := ⟨w.heap.size + 1 + 1, 0, none⟩) (by simp) (.bool false)
    have j3 := ((((i3.far (p := ⟨w.heap.size + 1, 0, none⟩) (by simp) (.int .i64 0)).far (p := ⟨w.heap.size + 1, 1, none⟩) (by simp) (.string ⟨#[]⟩)).far (p := ⟨w.heap.size + 1, 2, none⟩) (by simp) (.slice none 0 0)).far (p := ⟨w.heap.size + 1, 3, none⟩) (by simp) (.int .i64 0)).set_ 0 (.bool false)
    have hB2 := ((((hB1.setCell (p := ⟨w.heap.size + 1, 0, none⟩) (by simp) (.int .i64 0)).setCell (p := ⟨w.heap.size + 1, 1, none⟩) (by simp) (.string ⟨#[]⟩)).setCell (p := ⟨w.heap.size + 1, 2, none⟩) (by simp) (.slice none 0 0)).setCell (p := ⟨w.heap.size + 1, 3, none⟩) (by simp) (.int .i64 0)).setCell (p := ⟨w.heap.size + 1 + 1, 0, none⟩) (by simp; omega) (.bool false)
    refine ⟨by simp, .inl ⟨_, _, rfl, run_takeDeferred hK', ?_⟩⟩
    have k2 := blk_own _ _ (fun (_ : Unit) => _) () _ _ (some D) j2 (grownBy_putObj' _ D (.deferred none)) (fun r e => by cases e; exact ⟨_, hK', rfl⟩)
    have k3 := blk_own _ _ (fun (_ : Unit) => _) () _ _ (some D) j3 (grownBy_putObj' _ D (.deferred none)) (fun r e => by cases e; exact ⟨_, hK', rfl⟩)
    have e0 := k2.cell 0
    have e1 := k2.cell 1
    have e2 := k2.cell 2
    have e3 := k2.cell 3
    have e4 := k3.cell 0
    have hB3 := hB2.trans (belowK_b (w := w) (Nat.le_refl _) _ D _ (.deferred none) (by omega) hK' rfl rfl)
    clear k2 k3 j2 j3 hB2 hK'
    generalize World.putObj _ D _ = W6 at *
    refine ⟨.tuple #[.agg #[.int .i64 0, .string ⟨#[]⟩, .slice none 0 0, .int .i64 0], .bool false], ?_, hB3, .inr ⟨find_none hp, rfl⟩⟩
    simp [results, Tryz.f49, go_sem, e0, e1, e2, e3, e4]
  case stop =>
    rintro D c pre W hD ⟨k, hk, rfl⟩ ⟨ini, last, ⟨rfl, e1, e2, e3⟩, ⟨i2, i3⟩, hB⟩ hK
    dsimp only [bcells, bargs] at i2
    gi_wp2
    refine ⟨by simp, .inl ⟨_, _, rfl, run_takeDeferred hK, ?_⟩⟩
    have k2 := blk_own _ _ (fun (_ : Unit) => _) () _ _ (some D) i2 (grownBy_putObj' _ D (.deferred none)) (fun r e => by cases e; exact ⟨_, hK, rfl⟩)
    have k3 := blk_own _ _ (fun (_ : Unit) => _) () _ _ (some D) i3 (grownBy_putObj' _ D (.deferred none)) (fun r e => by cases e; exact ⟨_, hK, rfl⟩)
    have e0' := k2.cell 0
    have e1' := k2.cell 1
    have e2' := k2.cell 2
    have e3' := k2.cell 3
    have e4' := k3.cell 0
    have hB3 := hB.trans (belowK_b (w := w) (Nat.le_refl _) _ D _ (.deferred none) (by omega) hK rfl rfl)
    clear k2 k3 hK
    generalize World.putObj _ D _ = W6 at *
    refine ⟨.tuple #[bval last.2, .bool true], ?_, hB3, .inl ⟨last.2, find_some hk e1 e2 e3, rfl⟩⟩
    simp [results, Tryz.f49, go_sem, bval, bargs, e0', e1', e2', e3', e4']
end Go.Proofs.YtpdbkdcdlafobaaGreatDoor
end
section
namespace Go.Proofs.YtpdbkdcdlafobaaGreatDoor
open Go.RowKit Go.Shelf
theorem Bds.zs {w : World} : ∀ {bs : List L.Bnd} {cs : List Value}, Bds w bs cs → ∃ zs : List BV, zs.map (·.1) = bs ∧ (∀ z ∈ zs, Tys w 0 (bargs z) z.1.args) ∧
    ∀ j, j < zs.length → cs[j * 4]? = some (.int .i64 (zs[j]?.getD bv0).1.sort) ∧ cs[j * 4 + 1]? = some (.string (str (zs[j]?.getD bv0).1.name)) ∧ cs[j * 4 + 2]? = some (bargs (zs[j]?.getD bv0)) ∧ cs[j * 4 + 3]? = some (.int .i64 (zs[j]?.getD bv0).1.result)
  | [], _, _ => ⟨[], rfl, by simp, by simp⟩
  | b :: bs, _, h => by
    obtain ⟨a, cs', rfl, ha, hr⟩ := h
    obtain ⟨A, c, rfl, _⟩ := ha.form
    obtain ⟨zs, rfl, h2, h3⟩ := Bds.zs hr
    refine ⟨(b, A, c) :: zs, rfl, ?_, ?_⟩
    · intro z hz
      rcases List.mem_cons.1 hz with rfl | hz
      · exact ha
      · exact h2 z hz
    · intro j hj
      match j with
      | 0 => exact ⟨rfl, rfl, rfl, rfl⟩
      | j + 1 =>
        have h := h3 j (by simpa using hj)
        rw [show (j + 1) * 4 = j * 4 + 1 + 1 + 1 + 1 from by omega]
        exact h
theorem look_map (zs : List BV) (nm : L.Bytes) : L.look (zs.map (·.1)) nm = (zs.reverse.find? (fun z => z.1.name == nm)).map (·.1) := by
  rw [L.look, ← List.map_reverse, List.find?_map]
  rfl
theorem find_any {w : World} {R : Nat} {lo : Nat → Prop} {bs : List L.Bnd} {vis : Value} (h : RdAt w R lo bs vis) (hm : bs.length ≤ 1000000) (nm : L.Bytes) :
    Calls Tryz.prog 49 #[.pointer (some ⟨R, 0, none⟩), .string (str nm)] w fun e w' => Frm (fun _ => False) w w' ∧
      ((∃ b A c, L.look bs nm = some b ∧ Tys w 0 (.slice A b.args.length c) b.args ∧ e = .returned (.tuple #[.agg #[.int .i64 b.sort, .string (str b.name), .slice A b.args.length c, .int .i64 b.result], .bool true])) ∨
        (L.look bs nm = none ∧ e = .returned (.tuple #[.agg #[.int .i64 0, .string ⟨#[]⟩, .slice none 0 0, .int .i64 0], .bool false]))) := by
  obtain ⟨v, hb, hR, hlo, cs, ho, -, hB⟩ := h
  obtain ⟨zs, rfl, h2, h3⟩ := hB.zs
  rw [List.length_map] at ho hm
  obtain ⟨A, c, rfl⟩ := own_form ho
  have hI : BRow w.heap.size w (.slice A zs.length c) zs := by
    have hcell := @World.ownsRow.cells _ _ _ _ _ _ _ ho
    rcases ho.2 with ⟨hv, hn⟩ | ⟨g, cap, cur, hv, _, hg, _⟩
    · exact .inl ⟨hv, List.eq_nil_of_length_eq_zero hn⟩
    · refine .inr ⟨g, cap, hv, lt_of_heap hg, fun j hj => ?_⟩
      obtain ⟨p0, p1, p2, p3⟩ := h3 j hj
      have hc := hcell (g := g) (by rw [hv]; rfl)
      exact ⟨by simpa [add_zero_off] using hc _ _ p0, by simpa [add_zero_off] using hc _ _ p1, by simpa [add_zero_off] using hc _ _ p2, by simpa [add_zero_off] using hc _ _ p3⟩
  refine (callsIn_wide (n := 3)).1 ?_
  refine (find_in _ 3 trivial trivial trivial rfl (Nat.le_refl _) R A c zs hm nm w (hb.cell 0) hI).mono ?_
  rintro e w' ⟨hbel, hr⟩
  refine ⟨(Frm.refl _ w).below hbel (Nat.le_refl _), ?_⟩
  rw [look_map]
  rcases hr with ⟨z, hz, rfl⟩ | ⟨hz, rfl⟩
  · rw [hz]
    exact .inl ⟨z.1, z.2.1, z.2.2, rfl, h2 z (List.mem_reverse.1 (List.mem_of_find?_eq_some hz)), rfl⟩
  · rw [hz]
    exact .inr ⟨rfl, rfl⟩
end Go.Proofs.YtpdbkdcdlafobaaGreatDoor
end
section
namespace Go.Proofs.YtpdbkdcdlafobaaGreatDoor
namespace L
/-- What is wrong with a name that must be of a sort: 0, or ErrName 3, or ErrType 4. -/
def wrongSort (bs : List Bnd) (nm : Bytes) (s : Int) : Int := match look bs nm with | none => 3 | some b => if b.sort = s then 0 else 4
end L
open Go.RowKit
set_option maxHeartbeats 1000000 in
theorem wrongSort_any {w : World} {R : Nat} {lo : Nat → Prop} {bs : List L.Bnd} {vis : Value} (h : RdAt w R lo bs vis) (hm : bs.length ≤ 1000000) (nm : L.Bytes) (s : Int) :
    Calls Tryz.prog 70 #[.pointer (some ⟨R, 0, none⟩), .string (str nm), .int .i64 s] w fun e w' => e = .returned (.int .i64 (L.wrongSort bs nm s)) ∧ Frm (fun _ => False) w w' := by
  go_enter Tryz.func70, Tryz.ntmps70
  go_wp2_with fail
  refine (find_any h hm nm).mono ?_
  rintro e w1 ⟨f1, ⟨b, A, c, hl, _, rfl⟩ | ⟨hl, rfl⟩⟩
  · have hv : L.wrongSort bs nm s = if b.sort = s then 0 else 4 := by rw [L.wrongSort, hl]
    by_cases hs : b.sort = s
    · go_wp2_with fail
      go_ret
      exact ⟨by rw [hv]; simp [hs], f1.alloc _⟩
    · go_wp2_with fail
      go_ret
      exact ⟨by rw [hv]; simp [hs], f1.alloc _⟩
  · have hv : L.wrongSort bs nm s = 3 := by rw [L.wrongSort, hl]
    go_wp2_with fail
    go_ret
    exact ⟨by rw [hv]; rfl, f1.alloc _⟩
end Go.Proofs.YtpdbkdcdlafobaaGreatDoor
end
section
namespace Go.Proofs.YtpdbkdcdlafobaaGreatDoor
namespace L
def isCall : Tm → Bool
  | .call _ _ _ => true
  | _ => false
/-- A read in the place of a call of a variable. -/
def meant (bs : List Bnd) : Tm → Tm
  | .call of nm [] => if of = 1 ∧ (look bs nm).any (fun b => decide (b.sort = 3)) = true then .read nm else .call of nm []
  | t => t
end L
open Go.RowKit
theorem Rep.notCall {w : World} {A : Nat → Prop} : ∀ {t : L.Tm} {v : Value}, Rep w A t v → L.isCall t = false → ∃ T cs, v = .iface T (.agg cs) ∧ T ≠ 106
  | .skip, _, h, _ => ⟨_, _, h, by decide⟩
  | .stop _, _, h, _ => ⟨_, _, h, by decide⟩
  | .fault _, _, h, _ => ⟨_, _, h, by decide⟩
  | .row _, _, ⟨_, _, e, _⟩, _ => ⟨_, _, e, by decide⟩
  | .assign _ _, _, ⟨_, e, _⟩, _ => ⟨_, _, e, by decide⟩
  | .choice _ _ _ _, _, ⟨_, _, _, e, _⟩, _ => ⟨_, _, e, by decide⟩
  | .loop _ _, _, ⟨_, _, e, _⟩, _ => ⟨_, _, e, by decide⟩
  | .fresh _ _ _ _, _, ⟨_, _, e, _⟩, _ => ⟨_, _, e, by decide⟩
  | .call _ _ _, _, _, h => by cases h
  | .proc _ _ _ _ _ _, _, ⟨_, _, _, e, _⟩, _ => ⟨_, _, e, by decide⟩
  | .num _, _, h, _ => ⟨_, _, h, by decide⟩
  | .read _, _, h, _ => ⟨_, _, h, by decide⟩
  | .binary _ _ _, _, ⟨_, _, e, _⟩, _ => ⟨_, _, e, by decide⟩
  | .doing _ _, _, ⟨_, _, e, _⟩, _ => ⟨_, _, e, by decide⟩
  | .labelled _ _, _, ⟨_, e, _⟩, _ => ⟨_, _, e, by decide⟩
  | .exit _ _, _, h, _ => ⟨_, _, h, by decide⟩
theorem zero_call (W : World) : (do pure (Value.tuple #[← zeroValue 106, .bool false]) : Sem Value).run Tryz.prog W = .ok (.tuple #[.agg #[.int .i64 0, .string ⟨#[]⟩, .slice none 0 0], .bool false]) W := by kernel_rfl
theorem assert_call_yes (W : World) (v : Value) : (Instr.typeAssert (.iface 106 v) 34 106 true).run Tryz.prog W = .ok (.tuple #[v, .bool true]) W := by kernel_rfl
theorem assert_call_no (W : World) (u : TypeId) (v : Value) (h : u ≠ 106) : (Instr.typeAssert (.iface u v) 34 106 true).run Tryz.prog W = .ok (.tuple #[.agg #[.int .i64 0, .string ⟨#[]⟩, .slice none 0 0], .bool false]) W := by
  have e : (Instr.typeAssert (.iface u v) 34 106 true).run Tryz.prog W = (if u = 106 then (pure (Value.tuple #[v, .bool true]) : Sem Value) else (do pure (Value.tuple #[← zeroValue 106, .bool false]))).run Tryz.prog W := by kernel_rfl
  rw [e, if_neg h]
  exact zero_call W
theorem meant_same {bs : List L.Bnd} {t : L.Tm} (h : L.isCall t = false) : L.meant bs t = t := by
  cases t <;> first | rfl | simp [L.isCall] at h
set_option maxRecDepth 100000 in
set_option maxHeartbeats 2000000 in
theorem meant_any {w : World} {R : Nat} {lo : Nat → Prop} {bs : List L.Bnd} {vis : Value} (h : RdAt w R lo bs vis) (hm : bs.length ≤ 1000000) {A : Nat → Prop} {t : L.Tm} {v : Value} (ht : Rep w A t v) :
    Calls Tryz.prog 42 #[.pointer (some ⟨R, 0, none⟩), v] w fun e w' => (∃ v', e = .returned v' ∧ Rep w' A (L.meant bs t) v') ∧ Frm (fun _ => False) w w' := by
  cases hic : L.isCall t
  · obtain ⟨T, cs, rfl, hT⟩ := ht.notCall hic
    have a1 := fun W => assert_call_no W T (.agg cs) hT
    have HH := Lib.hid ht
    clear ht
    go_enter Tryz.func42, Tryz.ntmps42
    go_wp2_with fail
    go_ret
    rw [meant_same hic]
    have F := (Frm.refl (fun _ => False) w).alloc (.cells #[.int .i64 0, .string ⟨#[]⟩, .slice none 0 0] 106)
    exact ⟨⟨_, rfl, Rep.keep (A' := A) (F.same fun _ _ _ => id) (fun _ hb _ => hb) HH.out⟩, F⟩
  · obtain ⟨of, nm, ts, rfl⟩ : ∃ of nm ts, t = .call of nm ts := by cases t <;> first | exact ⟨_, _, _, rfl⟩ | simp [L.isCall] at hic
    have HH := Lib.hid ht
    obtain ⟨sl, vs, rfl, ho, ha, hr⟩ := ht
    obtain ⟨As, c, rfl⟩ := own_form ho
    have a1 := assert_call_yes
    clear ho ha hr
    go_enter Tryz.func42, Tryz.ntmps42
    have F := (Frm.refl (fun _ => False) w).alloc (.cells #[.int .i64 of, .string (str nm), .slice As ts.length c] 106)
    have HR := Lib.hid (Rep.keep (A' := A) (F.same fun _ _ _ => id) (fun _ hb _ => hb) HH.out)
    clear HH
    by_cases hof : of = 1
    · cases ts with
      | nil =>
        subst hof
        go_wp2_with fail
        refine (find_any (h.keep F) hm nm).mono ?_
        rintro e w1 ⟨f1, ⟨b, A2, c2, hl, _, rfl⟩ | ⟨hl, rfl⟩⟩
        · have hbx := f1.blk (Blk.new w 106 _) id
          have hcb : ∀ o, (w1.alloc o).cell? ⟨w.heap.size, 1, none⟩ = some (.string (str nm)) := fun o => (hbx.alloc o).cell 1
          clear hbx
          have hme : L.meant bs (.call 1 nm []) = if b.sort = 3 then .read nm else .call 1 nm [] := by simp [L.meant, hl]
          have HF := Lib.hid ((F.trans f1).alloc (.cells #[.int .i64 b.sort, .string (str b.name), .slice A2 b.args.length c2, .int .i64 b.result] 67))
          have HM := Lib.hid hme
          clear hme
          by_cases hs : b.sort = 3
          · go_wp2_with fail
            go_ret
            rw [HM.out, if_pos hs, ← hs]
            exact ⟨⟨_, rfl, rfl⟩, HF.out⟩
          · go_wp2_with fail
            go_ret
            rw [HM.out, if_neg hs]
            have HF2 := (f1.alloc (.cells #[.int .i64 b.sort, .string (str b.name), .slice A2 b.args.length c2, .int .i64 b.result] 67))
            exact ⟨⟨_, rfl, Rep.keep (A' := A) (HF2.same fun _ _ _ => id) (fun _ hb _ => hb) HR.out⟩, HF.out⟩
        · have hme : L.meant bs (.call 1 nm []) = .call 1 nm [] := by simp [L.meant, hl]
          have HF := Lib.hid ((F.trans f1).alloc (.cells #[.int .i64 0, .string ⟨#[]⟩, .slice none 0 0, .int .i64 0] 67))
          go_wp2_with fail
          go_ret
          rw [hme]
          have HF2 := (f1.alloc (.cells #[.int .i64 0, .string ⟨#[]⟩, .slice none 0 0, .int .i64 0] 67))
          exact ⟨⟨_, rfl, Rep.keep (A' := A) (HF2.same fun _ _ _ => id) (fun _ hb _ => hb) HR.out⟩, HF.out⟩
      | cons t1 ts =>
        subst hof
        have hme : L.meant bs (.call 1 nm (t1 :: ts)) = .call 1 nm (t1 :: ts) := rfl
        go_wp2_with fail
        go_ret
        rw [hme]
        exact ⟨⟨_, rfl, HR.out⟩, F⟩
    · have hme : L.meant bs (.call of nm ts) = .call of nm ts := by cases ts <;> simp [L.meant, hof]
      go_wp2_with fail
      go_ret
      rw [hme]
      exact ⟨⟨_, rfl, HR.out⟩, F⟩
end Go.Proofs.YtpdbkdcdlafobaaGreatDoor
end
