/- The writer at a procedure's head, at operators and operands. The writer at operands and at every term. Contracts of the program's functions, with no condition beyond what each theorem states. -/
import Derived.Test.YtpdbkdcdlafobaaGreatDoorC20
import Derived.Deep.RegionHeld3
section
namespace Go.Proofs.YtpdbkdcdlafobaaGreatDoor
namespace L
def txParam (p : Bytes × Int) : Bytes := p.1 ++ ([32, 58, 32] ++ typeWord p.2)
theorem joinC_snoc (x : Bytes) : ∀ l : List Bytes, joinC (l ++ [x]) = joinC l ++ ((if l = [] then [] else [44, 32]) ++ x)
  | [] => by simp [joinC]
  | [a] => by simp [joinC]
  | a :: c :: l => by
    have := joinC_snoc x (c :: l)
    simp only [List.cons_append] at this ⊢
    simp only [joinC, this, List.append_assoc]
    simp
theorem txParams_snoc {ps : List (Bytes × Int)} {k : Nat} (hk : k < ps.length) : txParams (ps.take (k + 1)) = txParams (ps.take k) ++ ((if k = 0 then [] else [44, 32]) ++ txParam ps[k]) := by
  unfold txParams
  rw [List.take_succ_eq_append_getElem hk, List.map_append, List.map_cons, List.map_nil, joinC_snoc]
  have e : ((ps.take k).map fun p : Bytes × Int => p.1 ++ ([32, 58, 32] ++ typeWord p.2)) = [] ↔ k = 0 := by
    rw [List.map_eq_nil_iff]
    constructor
    · intro h; have := congrArg List.length h; rw [List.length_take, List.length_nil] at this; omega
    · intro h; subst h; rfl
  by_cases h : k = 0
  · rw [if_pos (e.2 h), if_pos h]; rfl
  · rw [if_neg (fun h' => h (e.1 h')), if_neg h]; rfl
theorem txParams_le (ps : List (Bytes × Int)) (k : Nat) : (txParams (ps.take k)).length ≤ (txParams ps).length := by
  induction hk : ps.length - k generalizing k with
  | zero => rw [List.take_of_length_le (by omega)]; exact Nat.le_refl _
  | succ n ih =>
    have hlt : k < ps.length := by omega
    have := ih (k + 1) (by omega)
    rw [txParams_snoc hlt, List.length_append] at this; omega
end L
open Go.RowKit
set_option maxRecDepth 100000 in
set_option maxHeartbeats 4000000 in
theorem head_ok {b : Nat} (of : Int) (nm : L.Bytes) (ps : List (L.Bytes × Int)) (r : Int) {w : World} {l : L.Bytes} {sl : Value} {T0 T1 : TypeId} {c0 c1 : Array Value} (h : WrAt w b l) (ho : Prs w sl ps) (hlen : l.length + (nm.length + (L.txParams ps).length + 10 + (L.typeWord r).length) ≤ 1000000000) (hn : ps.length ≤ 1000) :
    Calls Tryz.prog 83 #[.pointer (some ⟨b, 0, none⟩), .agg #[.int .i64 of, .string (str nm), sl, .int .i64 r, .iface T0 (.agg c0), .iface T1 (.agg c1)]] w (WPost b (l ++ ([112, 114, 111, 99, 32] ++ (nm ++ ([40] ++ (L.txParams ps ++ ([41, 32, 58, 32] ++ L.typeWord r)))))) w) := by
  obtain ⟨Ad, c, rfl, -⟩ := prs_cells ho
  have HO := Lib.hid ho
  have F0 := (Frm.refl (fun _ => False) w).alloc (.cells #[.int .i64 of, .string (str nm), .slice Ad ps.length c, .int .i64 r, .iface T0 (.agg c0), .iface T1 (.agg c1)] 129)
  have HW := Lib.hid (h.frm F0)
  have HK : Hid (Kw b w (w.alloc (.cells #[.int .i64 of, .string (str nm), .slice Ad ps.length c, .int .i64 r, .iface T0 (.agg c0), .iface T1 (.agg c1)] 129))) := Kw.frm F0
  have HB := Lib.hid (Blk.new w 129 #[.int .i64 of, .string (str nm), .slice Ad ps.length c, .int .i64 r, .iface T0 (.agg c0), .iface T1 (.agg c1)])
  have hwl : (L.typeWord r).length ≤ 3 := by unfold L.typeWord; split; simp; split <;> simp
  clear ho h F0
  go_enter Tryz.func83, Tryz.ntmps83
  go_wp2_with fail
  refine (add_lit HW.out [[112, 114, 111, 99, 32], nm, [40]] (by simp) (by simp; omega) (by simp)).mono ?_
  rintro _ w2 ⟨rfl, h2, k2⟩
  have HW2 := Lib.hid h2
  have HK2 := Lib.hid (HK.out.trans k2)
  have HB2 : Hid (Blk w2 w.heap.size 129 #[.int .i64 of, .string (str nm), .slice Ad ps.length c, .int .i64 r, .iface T0 (.agg c0), .iface T1 (.agg c1)]) := (k2.2 129 (by decide) (by decide) _ _ HB.out).trans HB.out
  have g2 := HB2.out.cell 2
  clear h2 k2
  go_wp2_with fail
  go_loopg [14] (ps.length + 1) (fun n i wr => ∃ k : Nat, k ≤ ps.length ∧ n = ps.length + 1 - k ∧ i = .int .i64 k ∧ Hid (WrAt wr b (l ++ ([112, 114, 111, 99, 32] ++ (nm ++ ([40] ++ L.txParams (ps.take k)))))) ∧ Hid (Kw b w wr) ∧ Hid (Blk wr w.heap.size 129 #[.int .i64 of, .string (str nm), .slice Ad ps.length c, .int .i64 r, .iface T0 (.agg c0), .iface T1 (.agg c1)]))
  case atStart => exact ⟨0, Nat.zero_le _, rfl, rfl, show WrAt _ _ _ by simpa [L.txParams, L.joinC] using HW2.out, HK2.out, HB2.out⟩
  case round =>
    obtain ⟨k, hk, rfl, rfl, HWk, HKk, HBk⟩ := hrel
    by_cases hlt : k < ps.length
    · obtain ⟨Ad', c', hsl, hcs⟩ := prs_cells (show Prs wr (.slice Ad ps.length c) ps from (HKk.out.2 49 (by decide) (by decide)).row HO.out)
      injection hsl with e1 _ e2
      subst e1 e2
      obtain ⟨g, rfl, hca, hcb⟩ := hcs k hlt
      have htk := L.txParams_snoc hlt
      have hb1 := L.txParams_le ps (k + 1)
      rw [htk, List.length_append] at hb1
      clear hcs g2
      generalize ps[k] = q at *
      obtain ⟨x, t⟩ := q
      dsimp only at hca hcb
      have FB := (Frm.refl (fun _ => False) wr).alloc (.cells #[.string (str x), .int .i64 t] 49)
      have HWb := Lib.hid (HWk.out.frm FB)
      have HKb := Lib.hid (HKk.out.trans (Kw.frm FB))
      have HBb := Lib.hid (FB.blk HBk.out id)
      have BQ := Lib.hid (Blk.new wr 49 #[.string (str x), .int .i64 t])
      clear FB
      by_cases h0 : k = 0
      · subst h0
        have HS : Hid (L.txParams (ps.take 1) = L.txParams (ps.take 0) ++ L.txParam (x, t)) := show _ = _ by rw [htk]; simp
        simp only [if_true, List.nil_append] at hb1
        have HWa := HWb
        have HKa := HKb
        have HBa := HBb
        have BX := Lib.hid BQ.out.drew
        have BY : Hid (∀ o, Blk ((wr.alloc (.cells #[.string (str x), .int .i64 t] 49)).drew.alloc o) wr.heap.size 49 #[.string (str x), .int .i64 t]) := fun o => BX.out.alloc o
        clear htk
        go_wp2_with fail
        have hxl : (L.txParam (x, t)).length = x.length + 3 + (L.typeWord t).length := by simp [L.txParam]; omega
        have HLN : Hid (l.length + (nm.length + (6 + ((L.txParams (ps.take 0)).length + (2 + (x.length + 3 + (L.typeWord t).length))))) ≤ 1000000000) := show _ ≤ _ by omega
        have HXT : Hid (L.txParam (x, t) = x ++ ([32, 58, 32] ++ L.typeWord t)) := rfl
        go_region_held3 (fun w' => w'.cell? ⟨wr.heap.size, 0, none⟩ = some (.string (str x)) ∧ w'.cell? ⟨wr.heap.size, 1, none⟩ = some (.int .i64 t))
          (first | exact ⟨BX.out.cell 0, BX.out.cell 1⟩ | exact ⟨(BY.out _).cell 0, (BY.out _).cell 1⟩ | exact ⟨Blk.cell (t := 49) (cs := #[.string (str x), .int .i64 t]) (by assumption) 0, Blk.cell (t := 49) (cs := #[.string (str x), .int .i64 t]) (by assumption) 1⟩)
          (first | (go_at_call 58; refine (typeWord_any _ _).mono ?_; rintro e w' ⟨rfl, rfl⟩) | (go_at_call 56; refine (add_lit (HWa.out.frm (Frm0.drew _)) [x, [32, 58, 32], L.typeWord t] (by simp) (by have := HLN.out; simp [show L.txParams [] = [] from rfl]; simp [show L.txParams [] = [] from rfl] at this; omega) (by simp)).mono ?_; rintro _ w5 ⟨rfl, h5, k5⟩; have hb5 : Blk w5 wr.heap.size 49 #[.string (str x), .int .i64 t] := (k5.2 49 (by decide) (by decide) _ _ BX.out).trans BX.out))
        have HW5 := Lib.hid h5
        have HK5 := Lib.hid ((HKa.out.trans (Kw.frm (Frm0.drew _))).trans k5)
        have HB5 : Hid (Blk w5 w.heap.size 129 #[.int .i64 of, .string (str nm), .slice (some ⟨g, 0, none⟩) ps.length c, .int .i64 r, .iface T0 (.agg c0), .iface T1 (.agg c1)]) := (k5.2 129 (by decide) (by decide) _ _ HBa.out.drew).trans HBa.out.drew
        clear BX BY hb5 hxl
        go_wp2_with fail
        go_roundg (ps.length + 1 - (0 + 1))
        case measure => omega
        case rel => exact ⟨0 + 1, by omega, rfl, by go_num, show WrAt _ _ _ by rw [HS.out, HXT.out]; simpa using HW5.out, HK5.out, HB5.out⟩
      · have HS : Hid (L.txParams (ps.take (k + 1)) = L.txParams (ps.take k) ++ ([44, 32] ++ L.txParam (x, t))) := show _ = _ by rw [htk, if_neg h0]
        rw [if_neg h0, List.length_append] at hb1
        simp only [List.length_cons, List.length_nil] at hb1
        have hk0 : (0 : Int) < (k : Int) := by omega
        clear htk
        go_wp2_with fail
        refine (add_lit HWb.out [[44, 32]] (by simp) (by simp; omega) (by simp)).mono ?_
        rintro _ wa ⟨rfl, ha, ka⟩
        have HWa := Lib.hid ha
        have HKa := Lib.hid (HKb.out.trans ka)
        have HBa : Hid (Blk wa w.heap.size 129 #[.int .i64 of, .string (str nm), .slice (some ⟨g, 0, none⟩) ps.length c, .int .i64 r, .iface T0 (.agg c0), .iface T1 (.agg c1)]) := (ka.2 129 (by decide) (by decide) _ _ HBb.out).trans HBb.out
        have BZ : Blk wa wr.heap.size 49 #[.string (str x), .int .i64 t] := (ka.2 49 (by decide) (by decide) _ _ BQ.out).trans BQ.out
        have BX := Lib.hid BZ.drew
        have BY : Hid (∀ o, Blk (wa.drew.alloc o) wr.heap.size 49 #[.string (str x), .int .i64 t]) := fun o => BX.out.alloc o
        clear ha ka BZ
        go_wp2_with fail
        have hxl : (L.txParam (x, t)).length = x.length + 3 + (L.typeWord t).length := by simp [L.txParam]; omega
        have HLN : Hid (l.length + (nm.length + (6 + ((L.txParams (ps.take k)).length + (2 + (x.length + 3 + (L.typeWord t).length))))) ≤ 1000000000) := show _ ≤ _ by omega
        have HXT : Hid (L.txParam (x, t) = x ++ ([32, 58, 32] ++ L.typeWord t)) := rfl
        go_region_held3 (fun w' => w'.cell? ⟨wr.heap.size, 0, none⟩ = some (.string (str x)) ∧ w'.cell? ⟨wr.heap.size, 1, none⟩ = some (.int .i64 t))
          (first | exact ⟨BX.out.cell 0, BX.out.cell 1⟩ | exact ⟨(BY.out _).cell 0, (BY.out _).cell 1⟩ | exact ⟨Blk.cell (t := 49) (cs := #[.string (str x), .int .i64 t]) (by assumption) 0, Blk.cell (t := 49) (cs := #[.string (str x), .int .i64 t]) (by assumption) 1⟩)
          (first | (go_at_call 58; refine (typeWord_any _ _).mono ?_; rintro e w' ⟨rfl, rfl⟩) | (go_at_call 56; refine (add_lit (HWa.out.frm (Frm0.drew _)) [x, [32, 58, 32], L.typeWord t] (by simp) (by have := HLN.out; simp; omega) (by simp)).mono ?_; rintro _ w5 ⟨rfl, h5, k5⟩; have hb5 : Blk w5 wr.heap.size 49 #[.string (str x), .int .i64 t] := (k5.2 49 (by decide) (by decide) _ _ BX.out).trans BX.out))
        have HW5 := Lib.hid h5
        have HK5 := Lib.hid ((HKa.out.trans (Kw.frm (Frm0.drew _))).trans k5)
        have HB5 : Hid (Blk w5 w.heap.size 129 #[.int .i64 of, .string (str nm), .slice (some ⟨g, 0, none⟩) ps.length c, .int .i64 r, .iface T0 (.agg c0), .iface T1 (.agg c1)]) := (k5.2 129 (by decide) (by decide) _ _ HBa.out.drew).trans HBa.out.drew
        clear BX BY hb5 hxl
        go_wp2_with fail
        go_roundg (ps.length + 1 - (k + 1))
        case measure => omega
        case rel => exact ⟨k + 1, by omega, rfl, by go_num, show WrAt _ _ _ by rw [HS.out, HXT.out]; simpa using HW5.out, HK5.out, HB5.out⟩
    · have ek : k = ps.length := by omega
      subst ek
      rw [List.take_length] at HWk
      have g3 := HBk.out.cell 3
      clear g2
      go_wp2_with fail
      refine (typeWord_any _ _).mono ?_
      rintro _ w6 ⟨rfl, rfl⟩
      go_wp2_with fail
      refine (add_lit HWk.out [[41, 32, 58, 32], L.typeWord r] (by simp) (by simp; omega) (by simp)).mono ?_
      rintro _ w6 ⟨rfl, h6, k6⟩
      have HW6 := Lib.hid h6
      have HK6 := Lib.hid (HKk.out.trans k6)
      clear h6 k6
      go_wp2_with fail
      go_end0
      exact ⟨rfl, by simpa using HW6.out, HK6.out⟩
end Go.Proofs.YtpdbkdcdlafobaaGreatDoor
end
section
namespace Go.Proofs.YtpdbkdcdlafobaaGreatDoor
namespace L
mutual
/-- Numbers have one digit. -/
def nums : Tm → Bool
  | .num i => decide (0 ≤ i) && decide (i < 4)
  | .row ts => numsL ts
  | .assign _ x => nums x
  | .choice _ x y z => nums x && (nums y && nums z)
  | .loop x y => nums x && nums y
  | .fresh _ _ x y => nums x && nums y
  | .call _ _ ts => numsL ts
  | .proc _ _ _ _ x y => nums x && nums y
  | .binary _ x y => nums x && nums y
  | .doing x y => nums x && nums y
  | .labelled _ x => nums x
  | .skip => true | .stop _ => true | .fault _ => true | .read _ => true | .exit _ _ => true
def numsL : List Tm → Bool
  | [] => true
  | t :: ts => nums t && numsL ts
end
theorem numsL_mem : ∀ {l : List Tm}, numsL l = true → ∀ t ∈ l, nums t = true
  | [], _, t, h => by cases h
  | a :: l, h, t, ht => by
    simp only [numsL, Bool.and_eq_true] at h
    rcases List.mem_cons.1 ht with e | ht
    · rw [e]; exact h.1
    · exact numsL_mem h.2 t ht
def isBin : Tm → Bool
  | .binary _ _ _ => true
  | _ => false
theorem paren_no {t : Tm} (h : isBin t = false) (n : Int) (x : Bytes) : paren t n x = x := by cases t <;> first | rfl | simp [isBin] at h
theorem rank_02 (k : Int) : 0 ≤ rank k ∧ rank k ≤ 2 := by unfold rank; split; omega; split; omega; split; omega; split <;> omega
end L
open Go.RowKit
theorem Rep.notBin {w : World} {A : Nat → Prop} {t : L.Tm} {v : Value} (h : Rep w A t v) (hr : L.isBin t = false) : ∃ T cs, v = .iface T (.agg cs) ∧ T ≠ 122 := by
  obtain ⟨cs, rfl⟩ := h.ty
  refine ⟨_, _, rfl, ?_⟩
  cases t <;> first | (simp [tyOf]; done) | simp [L.isBin] at hr
/-- The contract of the writer at an operator's struct. -/
def BinOk (b : Nat) (k : Int) (x y : L.Tm) : Prop := ∀ (w : World) (l : L.Bytes) (a0 a1 : Value), WrAt w b l → Rep w (· < b) x a0 → Rep w (· < b) y a1 → l.length + (L.tx (.binary k x y)).length ≤ 1000000000 →
  Calls Tryz.prog 85 #[.pointer (some ⟨b, 0, none⟩), .agg #[.int .i64 k, a0, a1]] w (WPost b (l ++ L.tx (.binary k x y)) w)
/-- Both. -/
def WOk (b : Nat) (t : L.Tm) : Prop := TmOk b t ∧ ∀ k x y, t = .binary k x y → BinOk b k x y
set_option maxRecDepth 100000 in
set_option maxHeartbeats 2000000 in
theorem operand_ok {b : Nat} {t : L.Tm} (ht : WOk b t) (least : Int) {w : World} {l : L.Bytes} {v : Value} (h : WrAt w b l) (hr : Rep w (· < b) t v) (hlen : l.length + (L.paren t least (L.tx t)).length ≤ 1000000000) :
    Calls Tryz.prog 120 #[.pointer (some ⟨b, 0, none⟩), v, .int .i64 least] w (WPost b (l ++ L.paren t least (L.tx t)) w) := by
  have HW := Lib.hid h
  have HR := Lib.hid hr
  have HT := Lib.hid ht
  clear h ht
  cases hb : L.isBin t
  · obtain ⟨T, x, rfl, hT⟩ := hr.notBin hb
    have a0 := fun W => assert_binary_no W T (.agg x) hT
    have HP := Lib.hid (L.paren_no hb least (L.tx t))
    rw [HP.out] at hlen
    have F := (Frm.refl (fun _ => False) w).alloc (.cells #[.int .i64 0, .nilIface, .nilIface] 122)
    have HW1 := Lib.hid (HW.out.frm F)
    have HR1 := Lib.hid (HR.out.kw (Kw.frm (b := b) F))
    have HK1 : Hid (Kw b w (w.alloc (.cells #[.int .i64 0, .nilIface, .nilIface] 122))) := Kw.frm F
    clear hr hT hb F
    go_enter Tryz.func120, Tryz.ntmps120
    go_wp2_with fail
    refine (HT.out.1 _ _ _ HW1.out HR1.out hlen).mono ?_
    rintro _ w3 ⟨rfl, h3, k3⟩
    have HW3 := Lib.hid h3
    have HK3 := Lib.hid (HK1.out.trans k3)
    clear h3 k3
    go_wp2_with fail
    go_end0
    exact ⟨rfl, by rw [HP.out]; exact HW3.out, HK3.out⟩
  · obtain ⟨k, x, y, rfl⟩ : ∃ k x y, t = .binary k x y := by cases t <;> first | exact ⟨_, _, _, rfl⟩ | simp [L.isBin] at hb
    obtain ⟨v0, v1, rfl, r0, r1⟩ := hr
    obtain ⟨T0, c0, rfl⟩ := Rep.form r0
    obtain ⟨T1, c1, rfl⟩ := Rep.form r1
    have R0 := Lib.hid r0
    have R1 := Lib.hid r1
    have a0 := assert_binary_yes
    have F := (Frm.refl (fun _ => False) w).alloc (.cells #[.int .i64 k, .iface T0 (.agg c0), .iface T1 (.agg c1)] 122)
    have HW1 := Lib.hid (HW.out.frm F)
    have HR1 := Lib.hid (HR.out.kw (Kw.frm (b := b) F))
    have HK1 : Hid (Kw b w (w.alloc (.cells #[.int .i64 k, .iface T0 (.agg c0), .iface T1 (.agg c1)] 122))) := Kw.frm F
    have HB1 := Lib.hid (Blk.new w 122 #[.int .i64 k, .iface T0 (.agg c0), .iface T1 (.agg c1)])
    obtain ⟨q0, q2⟩ := L.rank_02 k
    have HPP : Hid (L.paren (.binary k x y) least (L.tx (.binary k x y)) = if L.rank k < least then [40] ++ (L.tx (.binary k x y) ++ [41]) else L.tx (.binary k x y)) := rfl
    rw [HPP.out] at hlen
    clear r0 r1 F hb
    go_enter Tryz.func120, Tryz.ntmps120
    go_wp2_with fail
    refine (operator_any k _).mono ?_
    rintro _ w1 ⟨rfl, rfl⟩
    by_cases hlt : L.rank k < least
    · rw [if_pos hlt] at hlen
      have HP : Hid (L.paren (.binary k x y) least (L.tx (.binary k x y)) = [40] ++ (L.tx (.binary k x y) ++ [41])) := show _ = _ by rw [HPP.out, if_pos hlt]
      generalize L.rank k = rk at *
      go_wp2_with fail
      refine (add_lit HW1.out [[40]] (by simp) (by simp at hlen ⊢; omega) (by simp)).mono ?_
      rintro _ w2 ⟨rfl, h2, k2⟩
      have HW2 := Lib.hid h2
      have HK2 := Lib.hid (HK1.out.trans k2)
      have HB2 : Blk w2 w.heap.size 122 #[.int .i64 k, .iface T0 (.agg c0), .iface T1 (.agg c1)] := (k2.2 122 (by decide) (by decide) _ _ HB1.out).trans HB1.out
      have g0 := HB2.cell 0
      have g1 := HB2.cell 1
      have g2 := HB2.cell 2
      have S0 := Lib.hid (R0.out.kw HK2.out)
      have S1 := Lib.hid (R1.out.kw HK2.out)
      clear h2 k2 HB2
      go_wp2_with fail
      refine (HT.out.2 k x y rfl _ _ _ _ HW2.out S0.out S1.out (by simp at hlen ⊢; omega)).mono ?_
      rintro _ w3 ⟨rfl, h3, k3⟩
      have HW3 := Lib.hid h3
      have HK3 := Lib.hid (HK2.out.trans k3)
      clear h3 k3 g0 g1 g2
      go_wp2_with fail
      refine (add_lit HW3.out [[41]] rfl (by simp at hlen ⊢; omega) (by simp)).mono ?_
      rintro _ w4 ⟨rfl, h4, k4⟩
      have HW4 := Lib.hid h4
      have HK4 := Lib.hid (HK3.out.trans k4)
      clear h4 k4
      go_wp2_with fail
      go_end0
      exact ⟨rfl, by rw [HP.out]; simpa using HW4.out, HK4.out⟩
    · rw [if_neg hlt] at hlen
      have HP : Hid (L.paren (.binary k x y) least (L.tx (.binary k x y)) = L.tx (.binary k x y)) := show _ = _ by rw [HPP.out, if_neg hlt]
      generalize L.rank k = rk at *
      go_wp2_with fail
      refine (HT.out.1 _ _ _ HW1.out HR1.out hlen).mono ?_
      rintro _ w3 ⟨rfl, h3, k3⟩
      have HW3 := Lib.hid h3
      have HK3 := Lib.hid (HK1.out.trans k3)
      clear h3 k3
      go_wp2_with fail
      go_end0
      exact ⟨rfl, by rw [HP.out]; exact HW3.out, HK3.out⟩
set_option maxRecDepth 100000 in
set_option maxHeartbeats 2000000 in
theorem binary_ok {b : Nat} (k : Int) {x y : L.Tm} (hx : WOk b x) (hy : WOk b y) : BinOk b k x y := by
  intro w l a0 a1 h r0 r1 hlen
  obtain ⟨T0, c0, rfl⟩ := Rep.form r0
  obtain ⟨T1, c1, rfl⟩ := Rep.form r1
  have F := (Frm.refl (fun _ => False) w).alloc (.cells #[.int .i64 k, .iface T0 (.agg c0), .iface T1 (.agg c1)] 122)
  have HW := Lib.hid (h.frm F)
  have HK : Hid (Kw b w (w.alloc (.cells #[.int .i64 k, .iface T0 (.agg c0), .iface T1 (.agg c1)] 122))) := Kw.frm F
  have R0 := Lib.hid (r0.kw HK.out)
  have R1 := Lib.hid (r1.kw HK.out)
  have HB := Lib.hid (Blk.new w 122 #[.int .i64 k, .iface T0 (.agg c0), .iface T1 (.agg c1)])
  have HX := Lib.hid hx
  have HY := Lib.hid hy
  have HT : Hid (L.tx (.binary k x y) = L.paren x (if L.rank k = 0 then 1 else L.rank k) (L.tx x) ++ (32 :: L.mark k ++ 32 :: L.paren y (L.rank k + 1) (L.tx y))) := show _ = _ by rw [L.tx]
  obtain ⟨q0, q2⟩ := L.rank_02 k
  rw [HT.out] at hlen
  simp only [List.length_append, List.length_cons] at hlen
  clear h r0 r1 F hx hy
  go_enter Tryz.func85, Tryz.ntmps85
  go_wp2_with fail
  refine (operator_any k _).mono ?_
  rintro _ w1 ⟨rfl, rfl⟩
  generalize L.rank k = rk at *
  generalize L.mark k = mk at *
  by_cases hz : rk = 0
  · subst hz
    simp only [if_true, Int.zero_add] at hlen
    have HT2 := HT.out
    simp only [if_true, Int.zero_add] at HT2
    have HT := Lib.hid HT2
    clear HT2
    go_wp2_with fail
    refine (operand_ok HX.out 1 HW.out R0.out (by omega)).mono ?_
    rintro _ w2 ⟨rfl, h2, k2⟩
    have HW2 := Lib.hid h2
    have HK2 := Lib.hid (HK.out.trans k2)
    have HB2 : Hid (Blk w2 w.heap.size 122 #[.int .i64 k, .iface T0 (.agg c0), .iface T1 (.agg c1)]) := (k2.2 122 (by decide) (by decide) _ _ HB.out).trans HB.out
    have S1 := Lib.hid (R1.out.kw k2)
    clear h2 k2
    go_wp2_with fail
    refine (add_lit HW2.out [[32], mk, [32]] rfl (by simp; omega) (by simp)).mono ?_
    rintro _ w3 ⟨rfl, h3, k3⟩
    have HW3 := Lib.hid h3
    have HK3 := Lib.hid (HK2.out.trans k3)
    have HB3 : Blk w3 w.heap.size 122 #[.int .i64 k, .iface T0 (.agg c0), .iface T1 (.agg c1)] := (k3.2 122 (by decide) (by decide) _ _ HB2.out).trans HB2.out
    have g2 := HB3.cell 2
    have U1 := Lib.hid (S1.out.kw k3)
    clear h3 k3 HB3
    go_wp2_with fail
    refine (operand_ok HY.out 1 HW3.out U1.out (by simp; omega)).mono ?_
    rintro _ w4 ⟨rfl, h4, k4⟩
    have HW4 := Lib.hid h4
    have HK4 := Lib.hid (HK3.out.trans k4)
    clear h4 k4 g2
    go_wp2_with fail
    go_end0
    exact ⟨rfl, by rw [HT.out]; simpa using HW4.out, HK4.out⟩
  · skip
    rw [if_neg hz] at hlen
    have HT2 := HT.out
    rw [if_neg hz] at HT2
    have HT := Lib.hid HT2
    clear HT2
    go_wp2_with fail
    refine (operand_ok HX.out rk HW.out R0.out (by omega)).mono ?_
    rintro _ w2 ⟨rfl, h2, k2⟩
    have HW2 := Lib.hid h2
    have HK2 := Lib.hid (HK.out.trans k2)
    have HB2 : Hid (Blk w2 w.heap.size 122 #[.int .i64 k, .iface T0 (.agg c0), .iface T1 (.agg c1)]) := (k2.2 122 (by decide) (by decide) _ _ HB.out).trans HB.out
    have S1 := Lib.hid (R1.out.kw k2)
    clear h2 k2
    go_wp2_with fail
    refine (add_lit HW2.out [[32], mk, [32]] rfl (by simp; omega) (by simp)).mono ?_
    rintro _ w3 ⟨rfl, h3, k3⟩
    have HW3 := Lib.hid h3
    have HK3 := Lib.hid (HK2.out.trans k3)
    have HB3 : Blk w3 w.heap.size 122 #[.int .i64 k, .iface T0 (.agg c0), .iface T1 (.agg c1)] := (k3.2 122 (by decide) (by decide) _ _ HB2.out).trans HB2.out
    have g2 := HB3.cell 2
    have U1 := Lib.hid (S1.out.kw k3)
    clear h3 k3 HB3
    go_wp2_with fail
    refine (operand_ok HY.out (rk + 1) HW3.out U1.out (by simp; omega)).mono ?_
    rintro _ w4 ⟨rfl, h4, k4⟩
    have HW4 := Lib.hid h4
    have HK4 := Lib.hid (HK3.out.trans k4)
    clear h4 k4 g2
    go_wp2_with fail
    go_end0
    exact ⟨rfl, by rw [HT.out]; simpa using HW4.out, HK4.out⟩
end Go.Proofs.YtpdbkdcdlafobaaGreatDoor
end
