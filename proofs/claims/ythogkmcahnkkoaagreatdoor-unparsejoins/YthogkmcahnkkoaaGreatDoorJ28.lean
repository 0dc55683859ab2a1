/- The walk's rules for min and max of two numbers. What package unparse asks of lists of lists, of sizes. What package unparse asks of marks. -/
import Derived.Test.YthogkmcahnkkoaaGreatDoorJ27
namespace Go.Proofs.YthogkmcahnkkoaaGreatDoor
section
variable {P : Program} {A : Fr} {σ : AW} {d : Option Tmp} {ty : TypeId} {po : String} {af : Array Edge} {gd : Option (Nat × Bool)}
theorem abK {t t' : TypeId} {x y : Operand} : kQ P A σ ⟨d, .call ⟨.builtin .min, #[x, y], #[t, t']⟩, ty, po, af, gd⟩ = match ev A x with
 | some (.int k a) => match ev A y with
  | some (.int _ b) => some (.int k (if b < a then b else a), σ)
  | _ => iD P A σ ⟨d, .call ⟨.builtin .min, #[x, y], #[t, t']⟩, ty, po, af, gd⟩
 | _ => iD P A σ ⟨d, .call ⟨.builtin .min, #[x, y], #[t, t']⟩, ty, po, af, gd⟩ := by
 have e : kQ P A σ ⟨d, .call ⟨.builtin .min, #[x, y], #[t, t']⟩, ty, po, af, gd⟩ = iD P A σ ⟨d, .call ⟨.builtin .min, #[x, y], #[t, t']⟩, ty, po, af, gd⟩ := rfl
 rw [e]
 split
 ·rename_i k a h1
  split
  ·rename_i k' b h2
   simp [iD, nS, Op.operands, Call.operands, h1, h2, ni, uH, CQ, execOp, resolve, invoke, builtin, Builtin.min_, Builtin.min2, List.foldlM]; rfl
  ·rfl
 ·rfl
theorem abL {t t' : TypeId} {x y : Operand} : kQ P A σ ⟨d, .call ⟨.builtin .max, #[x, y], #[t, t']⟩, ty, po, af, gd⟩ = match ev A x with
 | some (.int k a) => match ev A y with
  | some (.int _ b) => some (.int k (if a < b then b else a), σ)
  | _ => iD P A σ ⟨d, .call ⟨.builtin .max, #[x, y], #[t, t']⟩, ty, po, af, gd⟩
 | _ => iD P A σ ⟨d, .call ⟨.builtin .max, #[x, y], #[t, t']⟩, ty, po, af, gd⟩ := by
 have e : kQ P A σ ⟨d, .call ⟨.builtin .max, #[x, y], #[t, t']⟩, ty, po, af, gd⟩ = iD P A σ ⟨d, .call ⟨.builtin .max, #[x, y], #[t, t']⟩, ty, po, af, gd⟩ := rfl
 rw [e]
 split
 ·rename_i k a h1
  split
  ·rename_i k' b h2
   simp [iD, nS, Op.operands, Call.operands, h1, h2, ni, uH, CQ, execOp, resolve, invoke, builtin, Builtin.max_, Builtin.max2, List.foldlM]; rfl
  ·rfl
 ·rfl
end
/-! ajL out of code that is nested deep: step by step. -/
section
variable {A : Fr} {σ : AW} {K : Fr → AW → Prop} {Q : Exit → Fr → AW → Prop}
theorem t_e {i : Nat} (h : Q (.exit i) A σ) : Then K Q (.exit i) A σ := h
theorem t_n (h : K A σ) : Then K Q .normal A σ := h
theorem u_y {i : Nat} (h : Q .normal A σ) : Out i Q (.exit i) A σ := by
 show (if i = i then Q .normal A σ else Q (.exit i) A σ)
 rw [if_pos rfl]; exact h
theorem u_x {i j : Nat} (hn : Nat.beq i j = false) (h : Q (.exit i) A σ) : Out j Q (.exit i) A σ := by
 show (if i = j then Q .normal A σ else Q (.exit i) A σ)
 rw [if_neg (fun e => by subst e; rw [Nat.beq_refl] at hn; cases hn)]; exact h
theorem u_n {i : Nat} (h : Q .normal A σ) : Out i Q .normal A σ := h
end
theorem WB {P : Program} {c : Code} {A : Fr} {σ : AW} {K : Fr → AW → Prop} {Q : Exit → Fr → AW → Prop} (J : Fr → AW → Prop) (h : W P c A σ (Then J (fun _ _ _ => False))) (k : ∀ A1 σ1, J A1 σ1 → K A1 σ1) : W P c A σ (Then K Q) :=
 W.mono h (fun e A1 σ1 hq => by
  cases e with
  | normal => exact k A1 σ1 hq
  | _ => exact False.elim hq)
attribute [go_sem] abK abL
end Go.Proofs.YthogkmcahnkkoaaGreatDoor
namespace Go.Proofs.YthogkmcahnkkoaaGreatDoor
open Go.RowKit
set_option maxRecDepth 10000
set_option linter.unusedSimpArgs false
set_option linter.unusedVariables false
section
variable (σ : AW)
theorem adL (a : Option Addr) (l c : Nat) : bf Tryz.prog σ 135 1 [(0, .slice a l c)] = some (.slice (some ⟨σ.next, 0, none⟩) 1 2, σ.push ⟨1, 39, 1, [.slice a l c]⟩) := QU (σ := σ) (vs := [.slice a l c]) U3 PS aac rfl (by decide) (Nat.le_of_ble_eq_true rfl) (by simp [aF])
theorem adM (a a' : Option Addr) (l c l' c' : Nat) : bf Tryz.prog σ 135 2 [(0, .slice a l c), (1, .slice a' l' c')] = some (.slice (some ⟨σ.next, 0, none⟩) 2 4, σ.push ⟨1, 39, 1, [.slice a l c, .slice a' l' c']⟩) := QU (σ := σ) (vs := [.slice a l c, .slice a' l' c']) U3 PS aac rfl (by decide) (Nat.le_of_ble_eq_true rfl) (by simp [aF])
theorem adN (x0 x1 : Nat) : bf Tryz.prog σ 152 2 [(0, .int .i64 (x0 : Int)), (1, .int .i64 (x1 : Int))] = some (.slice (some ⟨σ.next, 0, none⟩) 2 4, σ.push ⟨1, 3, 1, ([x0, x1] : List Nat).map fun x : Nat => Value.int .i64 (x : Int)⟩) := QU (σ := σ) (vs := [.int .i64 (x0 : Int), .int .i64 (x1 : Int)]) NM Yw aaZ rfl (by decide) (Nat.le_of_ble_eq_true rfl) (by simp [aF])
theorem adO (x0 x1 x2 : Nat) : bf Tryz.prog σ 152 3 [(0, .int .i64 (x0 : Int)), (1, .int .i64 (x1 : Int)), (2, .int .i64 (x2 : Int))] = some (.slice (some ⟨σ.next, 0, none⟩) 3 6, σ.push ⟨1, 3, 1, ([x0, x1, x2] : List Nat).map fun x : Nat => Value.int .i64 (x : Int)⟩) := QU (σ := σ) (vs := [.int .i64 (x0 : Int), .int .i64 (x1 : Int), .int .i64 (x2 : Int)]) NM Yw aaZ rfl (by decide) (Nat.le_of_ble_eq_true rfl) (by simp [aF])
theorem adP (x0 x1 x2 x3 x4 x5 : Nat) : bf Tryz.prog σ 152 6 [(0, .int .i64 (x0 : Int)), (1, .int .i64 (x1 : Int)), (2, .int .i64 (x2 : Int)), (3, .int .i64 (x3 : Int)), (4, .int .i64 (x4 : Int)), (5, .int .i64 (x5 : Int))] = some (.slice (some ⟨σ.next, 0, none⟩) 6 12, σ.push ⟨1, 3, 1, ([x0, x1, x2, x3, x4, x5] : List Nat).map fun x : Nat => Value.int .i64 (x : Int)⟩) := QU (σ := σ) (vs := [.int .i64 (x0 : Int), .int .i64 (x1 : Int), .int .i64 (x2 : Int), .int .i64 (x3 : Int), .int .i64 (x4 : Int), .int .i64 (x5 : Int)]) NM Yw aaZ rfl (by decide) (Nat.le_of_ble_eq_true rfl) (by simp [aF])
end
attribute [go_sem] adL adM adN adO adP
theorem abM {n m e : Nat} {σ : AW} {ls : List (List Tr)} {v : Value} (h : bW (sl 1 (ls.map (sl m))) v σ) (hsz : iW Tryz.prog e = some 1) {i : Nat} (hi : i < ls.length) :
  ∃ bb o c cs x, v = .slice (some ⟨bb, o, none⟩) ls.length c ∧ (∀ τ, Kp σ τ → ∀ q, rowOf τ ⟨bb, q, none⟩ = some cs) ∧ bU Tryz.prog e ⟨bb, o, none⟩ ls.length (i : Int) = some (.pointer (some ⟨bb, o + i, none⟩)) ∧ cs[o + i]? = some x ∧ bW (sl m ls[i]) x σ := by
 obtain ⟨bb, o, c, cs0, x, rfl, hrow, hel, htk, hx, hxl⟩ := qo h hsz (i := i) (by rw [List.length_map]; exact hi)
 rw [List.getElem_map] at hx
 rw [List.length_map] at hel
 rw [Nat.mul_one] at hel htk
 obtain ⟨a, c', rfl⟩ := aG hx
 simp only [aF] at htk
 refine ⟨bb, o, c, cs0, _, by rw [List.length_map], hrow, hel, ?_, hx⟩
 have : ((cs0.drop (o + i)).take 1)[0]? = some (.slice a ls[i].length c') := by rw [htk]; rfl
 simpa [List.getElem?_take, List.getElem?_drop] using this
theorem oC {ls : List (List Tr)} {R : Tr → Bool} {v : Value} (hlen : ls.length ≤ 1000000) (hl : ∀ l ∈ ls, l.length ≤ 4611686018427387904) (hs : ∀ l ∈ ls, ∀ p ∈ l, ShT 6 p) (hf : ∀ l ∈ ls, ∀ p ∈ l, ∀ x, bV (bW p x) 21 [x] (R p)) :
  bV (bW (sl 1 (ls.map (sl 6))) v) 51 [v] (ls.all fun l => l.all R) := by
 intro σ hv
 have l1 : ∀ τ, fF Tryz.prog τ 135 v = some (.int .i64 ls.length) := fun τ => by obtain ⟨a, c, rfl⟩ := aG hv; rw [List.length_map]; exact U4 τ a _ c
 refine pK Tryz.func51 Tryz.ntmps51 Tryz.results51 fun A hz a0 => ?_
 refine gQ a0 l1 ?_
 refine dB (dI (fun m B σ1 => ∃ j, j ≤ ls.length ∧ m = ls.length - j ∧ B.size = 15 ∧ B.get 5 = some v ∧ B.get 6 = some (.int .i64 (ls.length : Int)) ∧ B.get 7 = some (.int .i64 (j : Int)) ∧ Kp σ σ1 ∧ ((ls.take j).all fun l => l.all R) = true) ?_ (m := ls.length) (by refine' ⟨0, Nat.zero_le _, rfl, ?_, ?_, ?_, ?_, Kp.refl σ, rfl⟩; any_goals (first | exact dD | fail)))
 rintro m B σ1 ⟨j, hj, rfl, hz, b5, b6, b7, k1, hall⟩
 by_cases hlt : j < ls.length
 ·have c1 : decide ((j : Int) < (ls.length : Int)) = true := by simp [hlt]
  obtain ⟨bb, o, c, cs0, x, e, hrow, hel, hcs, hx⟩ := abM (n := 0) (bW.kp hv k1) PS hlt
  have hp := List.getElem_mem hlt
  rw [e] at b5
  have hr1 := hrow _ (Kp.refl σ1)
  have hadd : aT .add (.int .i64 (j : Int)) (.int .i64 1) = some (.int .i64 ((j + 1 : Nat) : Int)) := by rw [aH (by omega) (by omega)]; rfl
  refine Ve hr1 b5 b6 b7 c1 hel hcs ?_
  refine aj (aU b5) ?_
  refine C.mono (MH (R := R) (fs := []) (cs := []) (hl _ hp) (hs _ hp) (fun p hq x => hf _ hp p hq x) _ hx) ?_
  rintro _ σ2 ⟨rfl, k2⟩
  cases hR : ls[j].all R with
  | true =>
   refine dV b5 b6 b7 hadd ?_
   refine ⟨ls.length - (j + 1), by omega, j + 1, hlt, rfl, (dD), (by rw [e]; (first | exact aU b5 | fail)), (aU b6), (dD), k1.trans k2, ?_⟩
   rw [List.take_add_one, List.getElem?_eq_getElem hlt, List.all_append, hall]
   simp only [Option.toList_some, List.all_cons, List.all_nil, hR, Bool.and_self]
  | false =>
   refine dS b5 b6 b7 ?_
   refine dG ?_
   refine ⟨?_, k1.trans k2⟩
   have : (ls.all fun l => l.all R) = false := by
    by_cases c : (ls.all fun l => l.all R) = true
    ·rw [List.all_eq_true] at c
     have := c _ hp
     rw [hR] at this
     cases this
    ·exact Bool.eq_false_iff.2 c
   rw [this]
 ·have c1 : decide ((j : Int) < (ls.length : Int)) = false := by simp [hlt]
  rw [List.take_of_length_le (by omega)] at hall
  refine dV b5 b6 b7 c1 ?_
  refine xL ?_
  refine iO ?_
  refine dG ?_
  exact ⟨by rw [hall], k1⟩
theorem rY {σ : AW} {n : Nat} {l : List Nat} {w c e z : Nat} (hlen : l.length ≤ 1000) (hw : σ.get w = ⟨1, e, z, l.map fun x : Nat => Value.int .i64 (x : Int)⟩) :
  C Tryz.prog 92 [.int .i64 (n : Int), .slice (some ⟨w, 0, none⟩) l.length c] σ fun v σ' => v = .bool (kS n l) ∧ Kp σ σ' := by
 have l1 : ∀ τ, fF Tryz.prog τ 152 (.slice (some ⟨w, 0, none⟩) l.length c) = some (.int .i64 l.length) := fun τ => aa0 τ _ _ c
 refine fG Tryz.func92 Tryz.ntmps92 Tryz.results92 fun A hz a0 a1 => ?_
 refine dS a0 a1 l1 ?_
 refine dB (dI (fun m B σ1 => ∃ j, j ≤ l.length ∧ m = l.length - j ∧ B.size = 17 ∧ B.get 0 = some (.int .i64 (n : Int)) ∧ B.get 7 = some (.slice (some ⟨w, 0, none⟩) l.length c) ∧ B.get 8 = some (.int .i64 (l.length : Int)) ∧ B.get 9 = some (.int .i64 (j : Int)) ∧ Kp σ σ1 ∧ σ1.get w = ⟨1, e, z, l.map fun x : Nat => Value.int .i64 (x : Int)⟩ ∧ ((l.take j).all fun x => decide (x ≤ n)) = true) ?_ (m := l.length) (by refine' ⟨0, Nat.zero_le _, rfl, ?_, ?_, ?_, ?_, ?_, Kp.refl σ, hw, rfl⟩; any_goals (first | exact aU a0 | fail)))
 rintro m B σ1 ⟨j, hj, rfl, hz, b0, b7, b8, b9, k1, hw1, hall⟩
 by_cases hlt : j < l.length
 ·have c1 : decide ((j : Int) < (l.length : Int)) = true := by simp [hlt]
  have hel : bU Tryz.prog 3 ⟨w, 0, none⟩ l.length (j : Int) = some (.pointer (some ⟨w, j, none⟩)) := by
   have := vP (P := Tryz.prog) (a := ⟨w, 0, none⟩) Yw hlt
   rw [this, je, Nat.zero_add, Nat.mul_one]
  have hr1 : ∀ q, rowOf σ1 ⟨w, q, none⟩ = _ := fun q => G9 hw1
  have hcs : (l.map fun x : Nat => Value.int .i64 (x : Int))[j]? = some (.int .i64 (l[j] : Int)) := by rw [List.getElem?_map, List.getElem?_eq_getElem hlt]; rfl
  have hadd : aT .add (.int .i64 (j : Int)) (.int .i64 1) = some (.int .i64 ((j + 1 : Nat) : Int)) := by rw [aH (by omega) (by omega)]; rfl
  by_cases hn : l[j] ≤ n
  ·have c2 : decide ((n : Int) < (l[j] : Int)) = false := by simp only [decide_eq_false_iff_not]; omega
   refine iC hr1 b0 b7 b8 b9 c1 c2 hel (cJ hcs hadd) ?_
   refine ⟨l.length - (j + 1), by omega, j + 1, hlt, rfl, (dD), (aU b0), (aU b7), (aU b8), (dD), k1, hw1, ?_⟩
   rw [List.take_add_one, List.getElem?_eq_getElem hlt, List.all_append, hall]
   simp [hn]
  ·have c2 : decide ((n : Int) < (l[j] : Int)) = true := by simp only [decide_eq_true_eq]; omega
   refine iC hr1 b0 b7 b8 b9 c1 c2 hel hcs ?_
   refine dG ?_
   refine ⟨?_, k1⟩
   have : kS n l = false := by
    by_cases c : kS n l = true
    ·unfold kS at c
     rw [List.all_eq_true] at c
     have := c _ (List.getElem_mem hlt)
     simp only [decide_eq_true_eq] at this
     exact absurd this hn
    ·exact Bool.eq_false_iff.2 c
   rw [this]
 ·have c1 : decide ((j : Int) < (l.length : Int)) = false := by simp [hlt]
  rw [List.take_of_length_le (by omega)] at hall
  refine jy b0 b7 b8 b9 c1 ?_
  refine xL ?_
  refine iO ?_
  refine dG ?_
  exact ⟨by rw [show kS n l = true from hall], k1⟩
theorem abN (s : ByteArray) : bV (fun _ => True) 48 [.string s] (wJ s) := by
 intro σ _
 refine pK Tryz.func48 Tryz.ntmps48 Tryz.results48 fun A hz a0 => ?_
 cases h0 : decide (s = (⟨#[111, 114]⟩ : ByteArray)) with
 | true =>
  have e0 : decide (s = NT) = true := h0
  refine gQ a0 h0 ?_
  refine dG ?_
  exact ⟨by simp only [wJ, FH, e0, Bool.true_or, Bool.false_or, Bool.or_true], Kp.refl σ⟩
 | false =>
 have e0 : decide (s = NT) = false := h0
 cases h1 : decide (s = (⟨#[97, 110, 100]⟩ : ByteArray)) with
 | true =>
  have e1 : decide (s = EN) = true := h1
  refine dS a0 h0 h1 ?_
  refine dG ?_
  exact ⟨by simp only [wJ, FH, e0, e1, Bool.true_or, Bool.false_or, Bool.or_true], Kp.refl σ⟩
 | false =>
 have e1 : decide (s = EN) = false := h1
 cases h2 : decide (s = (⟨#[61]⟩ : ByteArray)) with
 | true =>
  have e2 : decide (s = uS) = true := h2
  refine dV a0 h0 h1 h2 ?_
  refine dG ?_
  exact ⟨by simp only [wJ, FH, e0, e1, e2, Bool.true_or, Bool.false_or, Bool.or_true], Kp.refl σ⟩
 | false =>
 have e2 : decide (s = uS) = false := h2
 cases h3 : decide (s = (⟨#[60, 62]⟩ : ByteArray)) with
 | true =>
  have e3 : decide (s = Gj) = true := h3
  refine jy a0 h0 h1 h2 h3 ?_
  refine dG ?_
  exact ⟨by simp only [wJ, FH, e0, e1, e2, e3, Bool.true_or, Bool.false_or, Bool.or_true], Kp.refl σ⟩
 | false =>
 have e3 : decide (s = Gj) = false := h3
 cases h4 : decide (s = (⟨#[60]⟩ : ByteArray)) with
 | true =>
  have e4 : decide (s = Gl) = true := h4
  refine kR a0 h0 h1 h2 h3 h4 ?_
  refine dG ?_
  exact ⟨by simp only [wJ, FH, e0, e1, e2, e3, e4, Bool.true_or, Bool.false_or, Bool.or_true], Kp.refl σ⟩
 | false =>
 have e4 : decide (s = Gl) = false := h4
 cases h5 : decide (s = (⟨#[60, 61]⟩ : ByteArray)) with
 | true =>
  have e5 : decide (s = Gm) = true := h5
  refine nH a0 h0 h1 h2 h3 h4 h5 ?_
  refine dG ?_
  exact ⟨by simp only [wJ, FH, e0, e1, e2, e3, e4, e5, Bool.true_or, Bool.false_or, Bool.or_true], Kp.refl σ⟩
 | false =>
 have e5 : decide (s = Gm) = false := h5
 cases h6 : decide (s = (⟨#[62]⟩ : ByteArray)) with
 | true =>
  have e6 : decide (s = Gn) = true := h6
  refine aY a0 h0 h1 h2 h3 h4 h5 h6 ?_
  refine dG ?_
  exact ⟨by simp only [wJ, FH, e0, e1, e2, e3, e4, e5, e6, Bool.true_or, Bool.false_or, Bool.or_true], Kp.refl σ⟩
 | false =>
 have e6 : decide (s = Gn) = false := h6
 cases h7 : decide (s = (⟨#[62, 61]⟩ : ByteArray)) with
 | true =>
  have e7 : decide (s = Gp) = true := h7
  refine aY a0 h0 h1 h2 h3 h4 h5 (cJ h6 h7) ?_
  refine dG ?_
  exact ⟨by simp only [wJ, FH, e0, e1, e2, e3, e4, e5, e6, e7, Bool.true_or, Bool.false_or, Bool.or_true], Kp.refl σ⟩
 | false =>
 have e7 : decide (s = Gp) = false := h7
 cases h8 : decide (s = (⟨#[43]⟩ : ByteArray)) with
 | true =>
  have e8 : decide (s = xA) = true := h8
  refine aY a0 h0 h1 h2 h3 h4 h5 (cJ h6 (cJ h7 h8)) ?_
  refine dG ?_
  exact ⟨by simp only [wJ, FH, e0, e1, e2, e3, e4, e5, e6, e7, e8, Bool.true_or, Bool.false_or, Bool.or_true], Kp.refl σ⟩
 | false =>
 have e8 : decide (s = xA) = false := h8
 cases h9 : decide (s = (⟨#[45]⟩ : ByteArray)) with
 | true =>
  have e9 : decide (s = jq) = true := h9
  refine aY a0 h0 h1 h2 h3 h4 h5 (cJ h6 (cJ h7 (cJ h8 h9))) ?_
  refine dG ?_
  exact ⟨by simp only [wJ, FH, e0, e1, e2, e3, e4, e5, e6, e7, e8, e9, Bool.true_or, Bool.false_or, Bool.or_true], Kp.refl σ⟩
 | false =>
 have e9 : decide (s = jq) = false := h9
 cases h10 : decide (s = (⟨#[124, 124]⟩ : ByteArray)) with
 | true =>
  have e10 : decide (s = yX) = true := h10
  refine aY a0 h0 h1 h2 h3 h4 h5 (cJ h6 (cJ h7 (cJ h8 (cJ h9 h10)))) ?_
  refine dG ?_
  exact ⟨by simp only [wJ, FH, e0, e1, e2, e3, e4, e5, e6, e7, e8, e9, e10, Bool.true_or, Bool.false_or, Bool.or_true], Kp.refl σ⟩
 | false =>
 have e10 : decide (s = yX) = false := h10
 cases h11 : decide (s = (⟨#[42]⟩ : ByteArray)) with
 | true =>
  have e11 : decide (s = kF) = true := h11
  refine aY a0 h0 h1 h2 h3 h4 h5 (cJ h6 (cJ h7 (cJ h8 (cJ h9 (cJ h10 h11))))) ?_
  refine dG ?_
  exact ⟨by simp only [wJ, FH, e0, e1, e2, e3, e4, e5, e6, e7, e8, e9, e10, e11, Bool.true_or, Bool.false_or, Bool.or_true], Kp.refl σ⟩
 | false =>
 have e11 : decide (s = kF) = false := h11
 cases h12 : decide (s = (⟨#[47]⟩ : ByteArray)) with
 | true =>
  have e12 : decide (s = vN) = true := h12
  refine aY a0 h0 h1 h2 h3 h4 h5 (cJ h6 (cJ h7 (cJ h8 (cJ h9 (cJ h10 (cJ h11 h12)))))) ?_
  refine dG ?_
  exact ⟨by simp only [wJ, FH, e0, e1, e2, e3, e4, e5, e6, e7, e8, e9, e10, e11, e12, Bool.true_or, Bool.false_or, Bool.or_true], Kp.refl σ⟩
 | false =>
 have e12 : decide (s = vN) = false := h12
 cases h13 : decide (s = (⟨#[37]⟩ : ByteArray)) with
 | true =>
  have e13 : decide (s = ER) = true := h13
  refine aY a0 h0 h1 h2 h3 h4 h5 (cJ h6 (cJ h7 (cJ h8 (cJ h9 (cJ h10 (cJ h11 (cJ h12 h13))))))) ?_
  refine dG ?_
  exact ⟨by simp only [wJ, FH, e0, e1, e2, e3, e4, e5, e6, e7, e8, e9, e10, e11, e12, e13, Bool.true_or, Bool.false_or, Bool.or_true], Kp.refl σ⟩
 | false =>
 have e13 : decide (s = ER) = false := h13
 refine aY a0 h0 h1 h2 h3 h4 h5 (cJ h6 (cJ h7 (cJ h8 (cJ h9 (cJ h10 (cJ h11 (cJ h12 h13))))))) ?_
 refine dG ?_
 exact ⟨by simp only [wJ, FH, e0, e1, e2, e3, e4, e5, e6, e7, e8, e9, e10, e11, e12, e13, Bool.false_or], Kp.refl σ⟩
theorem abO (s : ByteArray) : bV (fun _ => True) 50 [.string s] (MF s) := by
 intro σ _
 refine pK Tryz.func50 Tryz.ntmps50 Tryz.results50 fun A hz a0 => ?_
 cases h0 : decide (s = (⟨#[99, 111, 117, 110, 116]⟩ : ByteArray)) with
 | true =>
  have e0 : decide (s = qF) = true := h0
  refine gQ a0 h0 ?_
  refine dG ?_
  exact ⟨by simp only [MF, FH, e0, Bool.true_or, Bool.false_or, Bool.or_true], Kp.refl σ⟩
 | false =>
 have e0 : decide (s = qF) = false := h0
 cases h1 : decide (s = (⟨#[115, 117, 109]⟩ : ByteArray)) with
 | true =>
  have e1 : decide (s = P6) = true := h1
  refine dS a0 h0 h1 ?_
  refine dG ?_
  exact ⟨by simp only [MF, FH, e0, e1, Bool.true_or, Bool.false_or, Bool.or_true], Kp.refl σ⟩
 | false =>
 have e1 : decide (s = P6) = false := h1
 cases h2 : decide (s = (⟨#[109, 105, 110]⟩ : ByteArray)) with
 | true =>
  have e2 : decide (s = P7) = true := h2
  refine dV a0 h0 h1 h2 ?_
  refine dG ?_
  exact ⟨by simp only [MF, FH, e0, e1, e2, Bool.true_or, Bool.false_or, Bool.or_true], Kp.refl σ⟩
 | false =>
 have e2 : decide (s = P7) = false := h2
 cases h3 : decide (s = (⟨#[109, 97, 120]⟩ : ByteArray)) with
 | true =>
  have e3 : decide (s = P8) = true := h3
  refine jy a0 h0 h1 h2 h3 ?_
  refine dG ?_
  exact ⟨by simp only [MF, FH, e0, e1, e2, e3, Bool.true_or, Bool.false_or, Bool.or_true], Kp.refl σ⟩
 | false =>
 have e3 : decide (s = P8) = false := h3
 refine jy a0 h0 h1 h2 h3 ?_
 refine dG ?_
 exact ⟨by simp only [MF, FH, e0, e1, e2, e3, Bool.false_or], Kp.refl σ⟩
theorem WC {σ : AW} {k n : Int} {s t : ByteArray} {kids qs : List Tr} {x : Value} (hx : bW (kH k n s t kids qs) x σ) : C Tryz.prog 49 [x] σ fun v σ' => v = .int .i64 (Ce s kids : Nat) ∧ Kp σ σ' := by
 obtain ⟨vk, vq, rfl, rk, rq⟩ := qL hx
 have o4 := ay rk
 have o5 := ay rq
 have l1 : ∀ τ, fF Tryz.prog τ 39 vk = some (.int .i64 kids.length) := fun τ => by obtain ⟨a, c, rfl⟩ := aG rk; exact Df τ a _ c
 have kp : Kp σ (σ.push ⟨1, 42, 0, [.int .i64 k, .int .i64 n, .string s, .string t, vk, vq]⟩) := (Kp.refl σ).push _
 refine pK Tryz.func49 Tryz.ntmps49 Tryz.results49 fun A hz a0 => ?_
 by_cases hs : s = qF
 ·have c1 : decide (s = (⟨#[99, 111, 117, 110, 116]⟩ : ByteArray)) = true := decide_eq_true hs
  by_cases hk : kids.length = 0
  ·have c2 : ((kids.length : Int) == 0) = true := by simp [hk]
   refine kR a0 o4 o5 l1 c1 c2 ?_
   refine dG ?_
   exact ⟨by simp [Ce, hs, hk], kp⟩
  ·have c2 : ((kids.length : Int) == 0) = false := by simp only [beq_eq_false_iff_ne]; omega
   refine kR a0 o4 o5 l1 c1 c2 ?_
   refine dG ?_
   exact ⟨by simp [Ce, hk], kp⟩
 ·have c1 : decide (s = (⟨#[99, 111, 117, 110, 116]⟩ : ByteArray)) = false := decide_eq_false hs
  refine jy a0 o4 o5 l1 c1 ?_
  refine dG ?_
  exact ⟨by simp [Ce, hs], kp⟩
theorem MJ {k : Int} {v : Bool} {t a : ByteArray} {q kids on : List Tr} {x : Value} : bV (bW (DZ k v t a q kids on) x) 164 [x] (wu (DZ k v t a q kids on)) := by
 intro σ hx
 obtain ⟨v1, v2, v3, rfl, r1, r2, r3⟩ := FD hx
 have o4 := ay r1
 have o5 := ay r2
 have o6 := ay r3
 have kp : Kp σ (σ.push ⟨1, 92, 0, [.int .i64 k, .string t, .bool v, .string a, v1, v2, v3]⟩) := (Kp.refl σ).push _
 have e : wu (DZ k v t a q kids on) = (k == 1 || k == 2) := rfl
 rw [e]
 refine pK Tryz.func164 Tryz.ntmps164 Tryz.results164 fun A hz a0 => ?_
 cases c1 : (k == 1) with
 | true =>
  refine jy a0 o4 o5 o6 c1 ?_
  refine dG ?_
  exact ⟨rfl, kp⟩
 | false =>
  refine jy a0 o4 o5 o6 c1 ?_
  refine dG ?_
  exact ⟨rfl, kp⟩
end Go.Proofs.YthogkmcahnkkoaaGreatDoor
