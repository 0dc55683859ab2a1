/- Two structs of seven numbers are compared. The program's writer: statements without blocks. -/
import Derived.Laws.StructEq
import Derived.Test.YthogkmcahnkkoaaGreatDoorJ30
namespace Go.Proofs.YthogkmcahnkkoaaGreatDoor
set_option linter.unusedSimpArgs false
set_option linter.unusedVariables false
set_option maxRecDepth 100000
theorem pure_bind {P : Program} {α β : Type} (s : Sem α) (f : α → Sem β) : aS P (s >>= f) = match aS P s with
 | some a => aS P (f a)
 | none => none := by
 have key : ∀ (s : Sem α), aS P (Sem.bind s f) = match aS P s with
   | some a => aS P (f a)
   | none => none := by
  intro s
  induction s with
  | pure b => rfl
  | program k ih => exact ih P
  | mark m k ih => exact ih
  | _ => rfl
 exact key s
section
variable {P : Program}
theorem MQ {t : TypeId} {d : TypeDesc} (h : P.underlying t = some d) : aS P (underlying t) = some d := by
 show aS P (do match (← program).underlying t with | some d => pure d | none => stuck "no such type") = _
 rw [pure_bind]
 show aS P (match P.underlying t with | some d => pure d | none => stuck "no such type") = _
 rw [h]; rfl
theorem TA {t : TypeId} {x y : Operand} {a b : Array Value} (h : P.eqGuardType P.depth t = false) : aS P (eqGuard .eql t x y (.agg a) (.agg b)) = some () := by
 have e : aS P program = some P := rfl
 unfold eqGuard
 simp only [Bool.not_true, Bool.false_eq_true, if_false, pure_bind, e, h, Bool.not_false, if_true]
 rfl
theorem MR {t : TypeId} {xs ys : Array Value} {d : Nat} (ht : P.underlying t = some (.struct (P.fieldsOf t))) (hp : P.stoodInHeld t = false) :
  aS P (Op.equalIn (d + 1) t (.agg xs) (.agg ys)) = aS P (Op.eqFields d xs ys (P.fieldsOf t).toList) := by
 unfold Op.equalIn
 rw [pure_bind, MQ ht]
 simp only
 rw [pure_bind]
 have e : aS P program = some P := rfl
 rw [e]
 simp only [hp, Bool.false_eq_true, if_false]
 rw [← Array.forIn_toList]
 generalize (P.fieldsOf t).toList = fs
 clear ht e
 induction fs with
 | nil => rfl
 | cons f fs ih =>
  rw [List.forIn_cons]
  unfold Op.eqFields
  split
  ·simp only [pure_bind]
   cases h1 : aS P (part f.type xs f.offset) with
   | none => rfl
   | some a =>
    simp only
    cases h2 : aS P (part f.type ys f.offset) with
    | none => rfl
    | some b =>
     simp only
     cases h3 : aS P (Op.equalIn d f.type a b) with
     | none => rfl
     | some r =>
      cases r
      ·rfl
      ·simp only [pure_bind] at ih
       simp only [Bool.not_true, Bool.false_eq_true, if_false]
       exact ih
  ·simp only [pure_bind] at ih ⊢
   exact ih
end
theorem Xh (d : Nat) (a b : Int) : aS Tryz.prog (Op.equalIn (d + 1) 3 (.int .i64 a) (.int .i64 b)) = some (a == b) := by
 have hu : Tryz.prog.underlying 3 = some (.int .i64) := by kernel_rfl
 unfold Op.equalIn
 rw [pure_bind, MQ hu]
 rfl
theorem Il (cs : Array Value) (o : Nat) (v : Value) (h : cs[o]? = some v) : aS Tryz.prog (part 3 cs o) = some v := by
 have ha : aS Tryz.prog (isAgg 3) = some false := by kernel_rfl
 unfold part
 rw [pure_bind, ha]
 simp only [Bool.false_eq_true, if_false, h]
 rfl
def eqc (xs ys : Array Value) (o : Nat) : Bool := match xs[o]?, ys[o]? with
 | some (.int _ a), some (.int _ b) => a == b
 | _, _ => false
theorem Dw {d : Nat} {xs ys : Array Value} : ∀ {fs : List Field} {ZA : List Nat}, fs.map (fun f => (f.name == "_", f.type, f.offset)) = ZA.map (fun o => (false, 3, o)) → (∀ o ∈ ZA, ∃ a b, xs[o]? = some (.int .i64 a) ∧ ys[o]? = some (.int .i64 b)) → aS Tryz.prog (Op.eqFields (d + 1) xs ys fs) = some (ZA.all fun o => eqc xs ys o)
 | [], [], _, _ => rfl
 | [], _ :: _, h, _ => by cases h
 | _ :: _, [], h, _ => by cases h
 | f :: fs, o :: ZA, h, hx => by
  simp only [List.map_cons, List.cons.injEq, Prod.mk.injEq] at h
  obtain ⟨⟨h1, h2, h3⟩, h4⟩ := h
  obtain ⟨a, b, ha, hb⟩ := hx o (List.mem_cons_self ..)
  have ih := Dw (d := d) h4 (fun o ho => hx o (List.mem_cons_of_mem _ ho))
  unfold Op.eqFields
  rw [if_pos (by simpa using h1), h2, h3, pure_bind, Il xs o _ ha]
  simp only
  rw [pure_bind, Il ys o _ hb]
  simp only
  rw [pure_bind, Xh]
  simp only
  have e : eqc xs ys o = (a == b) := by unfold eqc; rw [ha, hb]
  rw [List.all_cons, e]
  cases hab : (a == b)
  ·rfl
  ·simp only [Bool.not_true, Bool.false_eq_true, if_false, Bool.true_and]
   exact ih
def oG (l : List Int) : Value := .agg ⟨l.map (Value.int .i64)⟩
def FP (l : List Nat) : Value := .agg ⟨l.map fun x : Nat => Value.int .i64 (x : Int)⟩
theorem TB {A : Fr} {σ : AW} {d : Option Tmp} {ty : TypeId} {po : String} {af : Array Edge} {gd : Option (Nat × Bool)} {t2 : TypeId} {x y : Operand} {l m : List Int} (hx : ev A x = some (oG l)) (hy : ev A y = some (oG m)) (hl : l.length = 7) (hm : m.length = 7) :
  kQ Tryz.prog A σ ⟨d, .binOp .eql 118 x y t2, ty, po, af, gd⟩ = some (.bool (decide (l = m)), σ) := by
 have hfl : ∀ l : List Int, ni (oG l) = true := fun l => by
  show (l.map (Value.int .i64)).all uH = true
  rw [List.all_eq_true]
  intro v hv
  obtain ⟨x, _, rfl⟩ := List.mem_map.1 hv
  rfl
 have hf : iD Tryz.prog A σ ⟨d, .binOp .eql 118 x y t2, ty, po, af, gd⟩ = some (.bool (decide (l = m)), σ) := by
  refine zV hx hy (hfl l) (hfl m) rfl ?_
  have hg : aS Tryz.prog (eqGuard .eql 118 x y (oG l) (oG m)) = some () := TA (by kernel_rfl)
  rw [pure_bind, hg]
  have hb : binOp .eql 118 (oG l) (oG m) = (do pure (.bool (← Op.equal 118 (oG l) (oG m))) : Sem Value) := rfl
  simp only
  rw [hb, pure_bind]
  have hst : Tryz.prog.underlying 118 = some (.struct (Tryz.prog.fieldsOf 118)) := by kernel_rfl
  have hsh : Tryz.prog.stoodInHeld 118 = false := by kernel_rfl
  have hfs : (Tryz.prog.fieldsOf 118).toList.map (fun f => (f.name == "_", f.type, f.offset)) = [0, 1, 2, 3, 4, 5, 6].map (fun o => (false, 3, o)) := by kernel_rfl
  have hcell : ∀ (l : List Int), l.length = 7 → ∀ o (h : o < 7), (⟨l.map (Value.int .i64)⟩ : Array Value)[o]? = some (.int .i64 (l[o]?.getD 0)) := fun l hl o ho => by
   have : (⟨l.map (Value.int .i64)⟩ : Array Value)[o]? = (l.map (Value.int .i64))[o]? := by simp
   rw [this, List.getElem?_map, List.getElem?_eq_getElem (by omega)]
   rfl
  have hq : aS Tryz.prog (Op.equal 118 (oG l) (oG m)) = some (decide (l = m)) := by
   obtain ⟨dd, hdd⟩ : ∃ dd, Op.maxDepth = dd + 2 := ⟨9998, rfl⟩
   unfold Op.equal oG
   rw [hdd]
   have h1 := MR (d := dd + 1) (xs := ⟨l.map (Value.int .i64)⟩) (ys := ⟨m.map (Value.int .i64)⟩) hst hsh
   refine h1.trans ?_
   rw [Dw (d := dd) hfs (fun o ho => ⟨_, _, hcell l hl o (by simp at ho; omega), hcell m hm o (by simp at ho; omega)⟩)]
   congr 1
   match l, hl, m, hm with
   | [a0, a1, a2, a3, a4, a5, a6], _, [b0, b1, b2, b3, b4, b5, b6], _ =>
    have e : ([0, 1, 2, 3, 4, 5, 6] : List Nat).all (fun o => eqc ⟨[a0, a1, a2, a3, a4, a5, a6].map (Value.int .i64)⟩ ⟨[b0, b1, b2, b3, b4, b5, b6].map (Value.int .i64)⟩ o) = ((a0 == b0) && ((a1 == b1) && ((a2 == b2) && ((a3 == b3) && ((a4 == b4) && ((a5 == b5) && ((a6 == b6) && true))))))) := rfl
    rw [e]
    rw [Bool.eq_iff_iff]
    simp only [Bool.and_eq_true, beq_iff_eq, decide_eq_true_eq, List.cons.injEq, and_true]
  rw [hq]
  rfl
 have hfb : aT .eql (oG l) (oG m) = none := rfl
 simp only [kQ, hx, hy, hfb]
 exact hf
theorem ZB {A : Fr} {σ : AW} {d : Option Tmp} {ty : TypeId} {po : String} {af : Array Edge} {gd : Option (Nat × Bool)} {t2 : TypeId} {x y : Operand} : zU Tryz.prog A σ ⟨d, .binOp .eql 118 x y t2, ty, po, af, gd⟩ = match ev A x with
 | some (.agg ⟨[.int .i64 a0, .int .i64 a1, .int .i64 a2, .int .i64 a3, .int .i64 a4, .int .i64 a5, .int .i64 a6]⟩) => match ev A y with
  | some (.agg ⟨[.int .i64 b0, .int .i64 b1, .int .i64 b2, .int .i64 b3, .int .i64 b4, .int .i64 b5, .int .i64 b6]⟩) => some (.bool (decide ([a0, a1, a2, a3, a4, a5, a6] = [b0, b1, b2, b3, b4, b5, b6])), σ)
  | _ => kQ Tryz.prog A σ ⟨d, .binOp .eql 118 x y t2, ty, po, af, gd⟩
 | _ => kQ Tryz.prog A σ ⟨d, .binOp .eql 118 x y t2, ty, po, af, gd⟩ := by
 unfold zU
 split
 ·rename_i hx
  split
  ·rename_i hy
   exact TB (l := [_, _, _, _, _, _, _]) (m := [_, _, _, _, _, _, _]) hx hy rfl rfl
  ·rfl
 ·rfl
attribute [go_sem] ZB
end Go.Proofs.YthogkmcahnkkoaaGreatDoor
namespace Go.Proofs.YthogkmcahnkkoaaGreatDoor
open Go.RowKit
set_option maxRecDepth 10000
set_option linter.unusedSimpArgs false
set_option linter.unusedVariables false
theorem sJ {σ : AW} {D : Nat → Prop} {k a : Int} {t : ByteArray} {names es qs wh body other : List Tr} {x : Value} (h : Rd σ D (mkS k a t names es qs wh body other) x) : ∃ v1 v2 v3 v4 v5 v6, x = .agg ⟨[.int .i64 k, .int .i64 a, .string t, v1, v2, v3, v4, v5, v6]⟩ ∧ Rd σ D (sl 1 names) v1 ∧ Rd σ D (sl 6 es) v2 ∧ Rd σ D (sl 10 qs) v3 ∧ Rd σ D (sl 6 wh) v4 ∧ Rd σ D (sl 9 body) v5 ∧ Rd σ D (sl 9 other) v6 := by
 obtain ⟨_, rfl, _, _, rfl, rfl, _, _, rfl, rfl, _, _, rfl, rfl, v1, _, rfl, h1, v2, _, rfl, h2, v3, _, rfl, h3, v4, _, rfl, h4, v5, _, rfl, h5, v6, _, rfl, h6, rfl⟩ := jh.1 h
 exact ⟨_, _, _, _, _, _, rfl, h1, h2, h3, h4, h5, h6⟩
theorem tY {σ : AW} {D : Nat → Prop} {k a : Int} {t : ByteArray} {names es qs wh body other : List Tr} {v1 v2 v3 v4 v5 v6 : Value} (h1 : Rd σ D (sl 1 names) v1) (h2 : Rd σ D (sl 6 es) v2) (h3 : Rd σ D (sl 10 qs) v3) (h4 : Rd σ D (sl 6 wh) v4) (h5 : Rd σ D (sl 9 body) v5) (h6 : Rd σ D (sl 9 other) v6) : Rd σ D (mkS k a t names es qs wh body other) (.agg ⟨[.int .i64 k, .int .i64 a, .string t, v1, v2, v3, v4, v5, v6]⟩) :=
 jh.2 ⟨_, rfl, _, _, rfl, BJ.2 rfl, _, _, rfl, BJ.2 rfl, _, _, rfl, jQ.2 rfl, _, _, rfl, h1, _, _, rfl, h2, _, _, rfl, h3, _, _, rfl, h4, _, _, rfl, h5, _, _, rfl, h6, rfl⟩
theorem shS {k a : Int} {t : ByteArray} {names es qs wh body other : List Tr} : ShT 9 (mkS k a t names es qs wh body other) := ⟨_, rfl, rfl, fun q hq => by
 simp only [List.mem_cons, List.not_mem_nil, or_false] at hq
 rcases hq with rfl | rfl | rfl | rfl | rfl | rfl | rfl | rfl | rfl
 ·exact .inr (.inl ⟨_, _, rfl⟩)
 ·exact .inr (.inl ⟨_, _, rfl⟩)
 ·exact .inr (.inr (.inl ⟨_, rfl⟩))
 ·exact .inr (.inr (.inr ⟨_, _, rfl⟩))
 ·exact .inr (.inr (.inr ⟨_, _, rfl⟩))
 ·exact .inr (.inr (.inr ⟨_, _, rfl⟩))
 ·exact .inr (.inr (.inr ⟨_, _, rfl⟩))
 ·exact .inr (.inr (.inr ⟨_, _, rfl⟩))
 ·exact .inr (.inr (.inr ⟨_, _, rfl⟩))⟩
theorem FQ {α : Type} {ps : List α} (fm : α → WM) {j : Nat} (h : j < ps.length) : dh ((ps.take (j + 1)).map fm) = if j = 0 then fm ps[j] else aQ (dh ((ps.take j).map fm)) (aQ (aK [dJ]) (fm ps[j])) := by
 have e : ps.take (j + 1) = ps.take j ++ [ps[j]] := by rw [List.take_add_one, List.getElem?_eq_getElem h]; rfl
 rw [e, List.map_append]
 split
 ·rename_i h0
  subst h0
  rw [List.take_zero]
  exact L8 _
 ·rename_i h0
  refine Ig (fun e => ?_) _
  have := congrArg List.length e
  rw [List.length_map, List.length_take] at this
  simp only [List.length_nil] at this
  omega
theorem abU {b : Nat} {σ : AW} {ps : List Tr} {v : Value} (h : aP b (sl 1 ps) v σ) {i : Nat} {j : Int} (hj : j = (i : Int)) (hi : i < ps.length) (hs : ∃ s, ps[i] = .string s) :
  ∃ bb o q c cs, v = .slice (some ⟨bb, o, none⟩) ps.length c ∧ (∀ τ, Wk b σ τ → ∀ q, rowOf τ ⟨bb, q, none⟩ = some cs) ∧ bU Tryz.prog 9 ⟨bb, o, none⟩ ps.length j = some (.pointer (some ⟨bb, q, none⟩)) ∧ cs[q]? = some (.string (fM ps[i])) := by
 obtain ⟨bb, o, c, cs0, x, rfl, hrow, hel, htk, hx, hxl⟩ := zu h Bq hi
 obtain ⟨s, hs⟩ := hs
 have hx0 : x = .string s := by rw [hs] at hx; exact jQ.1 hx
 subst hx0
 simp only [aF] at htk
 rw [Nat.mul_one] at hel htk
 subst hj
 refine ⟨bb, o, o + i, c, cs0, rfl, hrow, hel, ?_⟩
 have : ((cs0.drop (o + i)).take 1)[0]? = some (.string s) := by rw [htk]; rfl
 rw [hs]
 show cs0[o + i]? = some (.string s)
 simpa [List.getElem?_take, List.getElem?_drop] using this
theorem Dx {b : Nat} {d i k a : Int} {t : ByteArray} {names es qs wh body other : List Tr} {x : Value} {fi : Tr → WM} (hln : names.length ≤ 1000000) (hns : ∀ p ∈ names, ∃ s : ByteArray, p = .string s ∧ s.size ≤ 70000) (hne : names.length = es.length) (oU : es.length ≤ 1000000) (nJ : ∀ p ∈ es, ShT 6 p) (nK : oK b d i fi es) :
  Writes (aP b (mkS k a t names es qs wh body other) x) b d i 150 [.pointer (some ⟨b, 0, none⟩), x] (dh ((names.zip es).map fun p => aQ (aK [fM p.1, uS]) (fi p.2))) := by
 intro σ s0 t0 td tl hx h
 have hlt := h.lt
 obtain ⟨v1, v2, v3, v4, v5, v6, rfl, r1, r2, r3, r4, r5, r6⟩ := sJ hx
 have o1 := ay r1
 have o2 := ay r2
 have o3 := ay r3
 have o4 := ay r4
 have o5 := ay r5
 have o6 := ay r6
 replace r1 : aP b (sl 1 names) v1 σ := r1
 replace r2 : aP b (sl 6 es) v2 σ := r2
 replace r3 : aP b (sl 10 qs) v3 σ := r3
 replace r4 : aP b (sl 6 wh) v4 σ := r4
 replace r5 : aP b (sl 9 body) v5 σ := r5
 replace r6 : aP b (sl 9 other) v6 σ := r6
 have kp : Kp σ (σ.push ⟨1, 54, 0, [.int .i64 k, .int .i64 a, .string t, v1, v2, v3, v4, v5, v6]⟩) := (Kp.refl σ).push _
 refine fG Tryz.func150 Tryz.ntmps150 Tryz.results150 fun A hz a0 a1 => ?_
 have l1 : ∀ τ, fF Tryz.prog τ 38 v1 = some (.int .i64 names.length) := fun τ => by obtain ⟨a, c, rfl⟩ := aG r1; exact KL τ a _ c
 have hzl : (names.zip es).length = names.length := by rw [List.length_zip]; omega
 refine aY a0 a1 l1 o1 o2 o3 o4 (cJ o5 o6) ?_
 refine dB (dI (fun m B σ1 => ∃ j, j ≤ names.length ∧ m = names.length - j ∧ B.size = 31 ∧ B.get 0 = some (.pointer (some ⟨b, 0, none⟩)) ∧ B.get 3 = some (.pointer (some ⟨σ.next, 0, none⟩)) ∧ B.get 7 = some v1 ∧ B.get 8 = some (.int .i64 (names.length : Int)) ∧ B.get 9 = some (.int .i64 (j : Int)) ∧ Wrote b d i (σ.push ⟨1, 54, 0, [.int .i64 k, .int .i64 a, .string t, v1, v2, v3, v4, v5, v6]⟩) s0 t0 td tl (dh (((names.zip es).take j).map fun p => aQ (aK [fM p.1, uS]) (fi p.2))) (.tuple #[]) σ1) ?_ (m := names.length) (by refine' ⟨0, Nat.zero_le _, rfl, ?_, ?_, ?_, ?_, ?_, ?_, Wrote.nil (h.kp kp)⟩; any_goals (first | exact aU a0 | fail)))
 rintro m B σ1 ⟨j, hj, rfl, hz, b0, b3, b7, b8, b9, h1⟩
 have nN := (box1 hlt h1.2 (by decide)).1
 have hn1 := (box1 hlt h1.2 (by decide)).2
 by_cases hjl : j < names.length
 ·have c1 : decide ((j : Int) < (names.length : Int)) = true := by simp [hjl]
  have hadd : aT .add (.int .i64 (j : Int)) (.int .i64 1) = some (.int .i64 ((j + 1 : Nat) : Int)) := by rw [aH (by omega) (by omega)]; rfl
  have hzj : (names.zip es)[j]'(by omega) = (names[j], es[j]'(by omega)) := List.getElem_zip
  have hnm := hns _ (List.getElem_mem hjl)
  obtain ⟨y, hy, hys⟩ := hnm
  have hyt : (fM names[j]).size ≤ 70000 := by rw [hy]; exact hys
  have rn := aP.wk r1 ((kp.wk b).trans h1.2)
  obtain ⟨bb, p, q, c, cs, e, hrow, hel, hcs⟩ := abU rn (j := (j : Int)) rfl hjl ⟨y, hy⟩
  have hr1 := hrow _ (Wk.refl b _)
  rw [e] at b7
  have szj : ∀ z ∈ [fM names[j], uS], ByteArray.size z ≤ 70000 := fun z hz => by
   simp only [List.mem_cons, List.not_mem_nil, or_false] at hz
   rcases hz with rfl | rfl
   ·exact hyt
   ·decide
  by_cases h0 : j = 0
  ·have c2 : decide ((0 : Int) < (j : Int)) = false := by simp [h0]
   refine iC hr1 b0 b3 b7 b8 b9 c1 c2 (cJ hel hcs) ?_
   refine aj (aU b0) ?_
   refine C.mono (mg h1.1 _ _ [fM names[j], uS] (show 2 ≤ 1000 by decide) szj) ?_
   rintro _ σ2 h2
   have h12 := h1.trans h2
   have kU := (box1 hlt h12.2 (by decide)).1
   obtain ⟨bb', p', q', c', cs', l', e', hrow', Xi, abV, hx', hl', ho'⟩ := jl (aP.wk r2 ((kp.wk b).trans h12.2)) oM (j := (j : Int)) rfl (i := j) (by omega) (nJ _ (List.getElem_mem _))
   rw [e'] at kU
   have hr2 := hrow' _ (Wk.refl b _)
   refine iC hr2 b0 b3 b8 b9 kU Xi abV (cJ hl' ho') ?_
   refine aj (aU b0) ?_
   refine C.mono (nK _ (List.getElem_mem _) _ _ _ _ _ _ hx' h2.1) ?_
   rintro _ σ3 h3
   refine kR b0 b3 b7 b8 b9 hadd ?_
   refine ⟨names.length - (j + 1), by omega, j + 1, hjl, rfl, (dD), (aU b0), (aU b3), (by rw [e]; (first | exact aU b7 | fail)), (aU b8), (dD), ?_⟩
   rw [FQ _ (by omega), if_pos h0, hzj]
   have e1 : dh (((names.zip es).take j).map fun p => aQ (aK [fM p.1, uS]) (fi p.2)) = dW := by rw [h0]; rfl
   rw [e1] at h1 h2 h3
   have := h1.trans (h2.trans h3)
   rw [qK] at this
   exact this
  ·have c2 : decide ((0 : Int) < (j : Int)) = true := by simp; omega
   refine iC hr1 b0 b3 b7 b8 b9 c1 c2 (cJ hel hcs) ?_
   refine aj (aU b0) ?_
   refine C.mono (cZ h1.1 _ _ dJ (by decide)) ?_
   rintro _ σ4 h4
   refine jy b0 b3 b7 b8 b9 ?_
   refine aj (aU b0) ?_
   refine C.mono (mg h4.1 _ _ [fM names[j], uS] (show 2 ≤ 1000 by decide) szj) ?_
   rintro _ σ2 h2
   have h12 := h1.trans (h4.trans h2)
   have kU := (box1 hlt h12.2 (by decide)).1
   obtain ⟨bb', p', q', c', cs', l', e', hrow', Xi, abV, hx', hl', ho'⟩ := jl (aP.wk r2 ((kp.wk b).trans h12.2)) oM (j := (j : Int)) rfl (i := j) (by omega) (nJ _ (List.getElem_mem _))
   rw [e'] at kU
   have hr2 := hrow' _ (Wk.refl b _)
   refine iC hr2 b0 b3 b8 b9 kU Xi abV (cJ hl' ho') ?_
   refine aj (aU b0) ?_
   refine C.mono (nK _ (List.getElem_mem _) _ _ _ _ _ _ hx' h2.1) ?_
   rintro _ σ3 h3
   refine kR b0 b3 b7 b8 b9 hadd ?_
   refine ⟨names.length - (j + 1), by omega, j + 1, hjl, rfl, (dD), (aU b0), (aU b3), (by rw [e]; (first | exact aU b7 | fail)), (aU b8), (dD), ?_⟩
   rw [FQ _ (by omega), if_neg h0, hzj]
   exact h1.trans (h4.trans (h2.trans h3))
 ·have c1 : decide ((j : Int) < (names.length : Int)) = false := by simp [hjl]
  have ej : (names.zip es).take j = names.zip es := List.take_of_length_le (by omega)
  rw [ej] at h1
  refine kR b0 b3 b7 b8 b9 c1 ?_
  refine xL ?_
  refine iO ?_
  refine gI ?_
  exact h1.kp kp
theorem abW {σ : AW} (k : Int) : C Tryz.prog 154 [.int .i64 k] σ fun v σ' => v = .string (Fq k) ∧ σ' = σ := by
 refine pK Tryz.func154 Tryz.ntmps154 Tryz.results154 fun A hz a0 => ?_
 unfold Fq
 by_cases e11 : k = 11
 ·have c : (k == 11) = true := by simp [e11]
  rw [if_pos e11]
  refine gQ a0 c ?_
  refine dG ?_
  exact ⟨rfl, trivial⟩
 have c11 : (k == 11) = false := by simp [e11]
 rw [if_neg e11]
 by_cases e13 : k = 13
 ·have c : (k == 13) = true := by simp [e13]
  rw [if_pos e13]
  refine dS a0 c c11 ?_
  refine dG ?_
  exact ⟨rfl, trivial⟩
 have c13 : (k == 13) = false := by simp [e13]
 rw [if_neg e13]
 by_cases e14 : k = 14
 ·have c : (k == 14) = true := by simp [e14]
  rw [if_pos e14]
  refine dV a0 c c11 c13 ?_
  refine dG ?_
  exact ⟨rfl, trivial⟩
 have c14 : (k == 14) = false := by simp [e14]
 rw [if_neg e14]
 by_cases e15 : k = 15
 ·have c : (k == 15) = true := by simp [e15]
  rw [if_pos e15]
  refine jy a0 c c11 c13 c14 ?_
  refine dG ?_
  exact ⟨rfl, trivial⟩
 have c15 : (k == 15) = false := by simp [e15]
 rw [if_neg e15]
 refine jy a0 c11 c13 c14 c15 ?_
 refine dG ?_
 exact ⟨rfl, trivial⟩
theorem TD {b N : Nat} {d i k a : Int} {t : ByteArray} {es : List Tr} {v1 v2 v3 v4 v5 v6 : Value} {fi : Tr → WM} (oU : es.length ≤ 1000000) (nJ : ∀ p ∈ es, ShT 6 p) (nK : oK b d i fi es) (hNb : N ≠ b) (hMb : N + 1 ≠ b) :
  Writes (fun σ' => aP b (sl 6 es) v2 σ' ∧ σ'.get N = ⟨1, 48, 0, [.pointer (some ⟨b, 0, none⟩)]⟩ ∧ σ'.get (N + 1) = ⟨1, 54, 0, [.int .i64 k, .int .i64 a, .string t, v1, v2, v3, v4, v5, v6]⟩ ∧ N + 2 ≤ σ'.next) b d i 151 ([] ++ [.pointer (some ⟨N, 0, none⟩), .pointer (some ⟨N + 1, 0, none⟩)]) (dh (es.map fi)) := by
 intro σ s0 t0 td tl ⟨r2, gN, gM, hn⟩ h
 refine fG Tryz.func151 Tryz.ntmps151 Tryz.results151 fun A hz a0 a1 => ?_
 refine dV a0 a1 gN gM ?_
 refine aj (bP a0 a1) ?_
 refine C.mono (FC (E := fun _ => True) (fs := [.pointer (some ⟨b, 0, none⟩)]) (cs := []) ou oU nJ (fun p hp x => (nK p hp x).weak fun _ h => h.2) _ _ _ _ _ ⟨trivial, r2⟩ h) ?_
 rintro _ σ1 h1
 refine iO ?_
 refine gI ?_
 exact h1
theorem TF {b N : Nat} {d i k a : Int} {t : ByteArray} {es : List Tr} {v1 v2 v3 v4 v5 v6 : Value} {fi : Tr → WM} (oU : es.length ≤ 1000000) (nJ : ∀ p ∈ es, ShT 6 p) (nK : oK b d i fi es) (hNb : N ≠ b) (hMb : N + 1 ≠ b) :
  Writes (fun σ' => aP b (sl 6 es) v2 σ' ∧ σ'.get N = ⟨1, 48, 0, [.pointer (some ⟨b, 0, none⟩)]⟩ ∧ σ'.get (N + 1) = ⟨1, 54, 0, [.int .i64 k, .int .i64 a, .string t, v1, v2, v3, v4, v5, v6]⟩ ∧ N + 2 ≤ σ'.next) b d i 153 ([] ++ [.pointer (some ⟨N, 0, none⟩), .pointer (some ⟨N + 1, 0, none⟩)]) (dh (es.map fi)) := by
 intro σ s0 t0 td tl ⟨r2, gN, gM, hn⟩ h
 refine fG Tryz.func153 Tryz.ntmps153 Tryz.results153 fun A hz a0 a1 => ?_
 refine dV a0 a1 gN gM ?_
 refine aj (bP a0 a1) ?_
 refine C.mono (FC (E := fun _ => True) (fs := [.pointer (some ⟨b, 0, none⟩)]) (cs := []) ou oU nJ (fun p hp x => (nK p hp x).weak fun _ h => h.2) _ _ _ _ _ ⟨trivial, r2⟩ h) ?_
 rintro _ σ1 h1
 refine iO ?_
 refine gI ?_
 exact h1
theorem TG {b : Nat} {d i a : Int} {t : ByteArray} {names es qs wh body other : List Tr} {x : Value} {fi : Tr → WM} (hln : names.length ≤ 1000000) (hns : ∀ p ∈ names, ∃ s : ByteArray, p = .string s ∧ s.size ≤ 70000) (hne : names.length = es.length) (oU : es.length ≤ 1000000) (nJ : ∀ p ∈ es, ShT 6 p) (nK : oK b d i fi es) :
  Writes (aP b (mkS 1 a t names es qs wh body other) x) b d i 116 [.pointer (some ⟨b, 0, none⟩), x] (aQ (aK [yF]) (dh ((names.zip es).map fun p => aQ (aK [fM p.1, uS]) (fi p.2)))) := by
 intro σ s0 t0 td tl hx h
 have hlt := h.lt
 obtain ⟨v1, v2, v3, v4, v5, v6, rfl, r1, r2, r3, r4, r5, r6⟩ := sJ hx
 have o1 := ay r1
 have o2 := ay r2
 have o3 := ay r3
 have o4 := ay r4
 have o5 := ay r5
 have o6 := ay r6
 replace r1 : aP b (sl 1 names) v1 σ := r1
 replace r2 : aP b (sl 6 es) v2 σ := r2
 replace r3 : aP b (sl 10 qs) v3 σ := r3
 replace r4 : aP b (sl 6 wh) v4 σ := r4
 replace r5 : aP b (sl 9 body) v5 σ := r5
 replace r6 : aP b (sl 9 other) v6 σ := r6
 have kp : Kp σ ((σ.push ⟨1, 48, 0, [.pointer (some ⟨b, 0, none⟩)]⟩).push ⟨1, 54, 0, [.int .i64 1, .int .i64 a, .string t, v1, v2, v3, v4, v5, v6]⟩) := ((Kp.refl σ).push _).push _
 refine fG Tryz.func116 Tryz.ntmps116 Tryz.results116 fun A hz a0 a1 => ?_
 refine aY a0 a1 o1 o2 o3 o4 o5 (cJ o6 (eQ 1)) ?_
 refine aj (bP a0 a1) ?_
 refine C.mono (cZ (h.kp kp) _ _ (yF) (by decide)) ?_
 rintro _ σ1 h1
 have H1 := h1
 obtain ⟨gN, gM, hn⟩ := iP hlt H1.2 (by decide) (by decide)
 refine aY a0 a1 gN gM o1 o2 o3 (cJ o4 (cJ o5 o6)) ?_
 refine aj (bP a0 a1) ?_
 refine C.mono (Dx hln hns hne oU nJ nK _ _ _ _ _ (aP.wk (tY r1 r2 r3 r4 r5 r6) ((kp.wk b).trans H1.2)) H1.1) ?_
 rintro _ σ2 h2
 have H2 := H1.trans h2
 obtain ⟨gN, gM, hn⟩ := iP hlt H2.2 (by decide) (by decide)
 refine aY a0 a1 gN gM o1 o2 o3 (cJ o4 (cJ o5 o6)) ?_
 refine gI ?_
 exact H2.kp kp
theorem OY {b : Nat} {d i a : Int} {t : ByteArray} {names es qs wh body other : List Tr} {x : Value} (hln : names.length ≤ 1000000) (hns : ∀ p ∈ names, ∃ s : ByteArray, p = .string s ∧ s.size ≤ 70000) :
  Writes (aP b (mkS 17 a t names es qs wh body other) x) b d i 116 [.pointer (some ⟨b, 0, none⟩), x] (aQ (aK [zZ]) (dh (names.map fun p => aK [fM p]))) := by
 intro σ s0 t0 td tl hx h
 have hlt := h.lt
 obtain ⟨v1, v2, v3, v4, v5, v6, rfl, r1, r2, r3, r4, r5, r6⟩ := sJ hx
 have o1 := ay r1
 have o2 := ay r2
 have o3 := ay r3
 have o4 := ay r4
 have o5 := ay r5
 have o6 := ay r6
 replace r1 : aP b (sl 1 names) v1 σ := r1
 replace r2 : aP b (sl 6 es) v2 σ := r2
 replace r3 : aP b (sl 10 qs) v3 σ := r3
 replace r4 : aP b (sl 6 wh) v4 σ := r4
 replace r5 : aP b (sl 9 body) v5 σ := r5
 replace r6 : aP b (sl 9 other) v6 σ := r6
 have kp : Kp σ ((σ.push ⟨1, 48, 0, [.pointer (some ⟨b, 0, none⟩)]⟩).push ⟨1, 54, 0, [.int .i64 17, .int .i64 a, .string t, v1, v2, v3, v4, v5, v6]⟩) := ((Kp.refl σ).push _).push _
 refine fG Tryz.func116 Tryz.ntmps116 Tryz.results116 fun A hz a0 a1 => ?_
 refine aY a0 a1 o1 o2 o3 o4 o5 (cJ o6 (cJ (nQ 17 1) (eQ 17))) ?_
 refine aj (bP a0 a1) ?_
 refine C.mono (cZ (h.kp kp) _ _ (zZ) (by decide)) ?_
 rintro _ σ1 h1
 have H1 := h1
 obtain ⟨gN, gM, hn⟩ := iP hlt H1.2 (by decide) (by decide)
 refine aY a0 a1 gN gM o1 o2 o3 (cJ o4 (cJ o5 o6)) ?_
 refine aj (bP a0 a1) ?_
 refine C.mono (Mc hln hns _ _ _ _ _ (aP.wk r1 ((kp.wk b).trans H1.2)) H1.1) ?_
 rintro _ σ2 h2
 have H2 := H1.trans h2
 obtain ⟨gN, gM, hn⟩ := iP hlt H2.2 (by decide) (by decide)
 refine aY a0 a1 gN gM o1 o2 o3 (cJ o4 (cJ o5 o6)) ?_
 refine gI ?_
 exact H2.kp kp
theorem TI {b : Nat} {d i a : Int} {t : ByteArray} {names es qs wh body other : List Tr} {x : Value} (ht : t.size ≤ 70000) {fi : Tr → WM} (oU : es.length ≤ 1000000) (nJ : ∀ p ∈ es, ShT 6 p) (nK : oK b d i fi es) :
  Writes (aP b (mkS 5 a t names es qs wh body other) x) b d i 116 [.pointer (some ⟨b, 0, none⟩), x] (if es = [] then dW else aQ (aK [zY, t]) (dh (es.map fi))) := by
 intro σ s0 t0 td tl hx h
 have hlt := h.lt
 obtain ⟨v1, v2, v3, v4, v5, v6, rfl, r1, r2, r3, r4, r5, r6⟩ := sJ hx
 have o1 := ay r1
 have o2 := ay r2
 have o3 := ay r3
 have o4 := ay r4
 have o5 := ay r5
 have o6 := ay r6
 replace r1 : aP b (sl 1 names) v1 σ := r1
 replace r2 : aP b (sl 6 es) v2 σ := r2
 replace r3 : aP b (sl 10 qs) v3 σ := r3
 replace r4 : aP b (sl 6 wh) v4 σ := r4
 replace r5 : aP b (sl 9 body) v5 σ := r5
 replace r6 : aP b (sl 9 other) v6 σ := r6
 have kp : Kp σ ((σ.push ⟨1, 48, 0, [.pointer (some ⟨b, 0, none⟩)]⟩).push ⟨1, 54, 0, [.int .i64 5, .int .i64 a, .string t, v1, v2, v3, v4, v5, v6]⟩) := ((Kp.refl σ).push _).push _
 refine fG Tryz.func116 Tryz.ntmps116 Tryz.results116 fun A hz a0 a1 => ?_
 have tz : ∀ z ∈ [zY, t], ByteArray.size z ≤ 70000 := fun z hz => by
   simp only [List.mem_cons, List.not_mem_nil, or_false] at hz
   rcases hz with rfl | rfl
   ·decide
   ·exact ht
 refine aY a0 a1 o1 o2 o3 o4 o5 (cJ o6 (cJ (nQ 5 1) (cJ (nQ 5 17) (eQ 5)))) ?_
 refine aj (bP a0 a1) ?_
 have oV : ∀ B, Kp ((σ.push ⟨1, 48, 0, [.pointer (some ⟨b, 0, none⟩)]⟩).push ⟨1, 54, 0, [.int .i64 5, .int .i64 a, .string t, v1, v2, v3, v4, v5, v6]⟩) (((σ.push ⟨1, 48, 0, [.pointer (some ⟨b, 0, none⟩)]⟩).push ⟨1, 54, 0, [.int .i64 5, .int .i64 a, .string t, v1, v2, v3, v4, v5, v6]⟩).push B) := fun B => (Kp.refl _).push B
 refine C.mono (wo (fi := fi) (ws := [zY, t]) oU nJ nK (show 2 ≤ 1000 by decide) (tz) _ _ _ _ _ ⟨aP.wk r2 ((kp.trans (oV _)).wk b), aA, (show σ.next + 2 < σ.next + 3 by omega), (show σ.next + 2 ≠ b by omega)⟩ (h.kp (kp.trans (oV _)))) ?_
 rintro _ σ1 h1
 have H1 := (h1.kp (oV _))
 obtain ⟨gN, gM, hn⟩ := iP hlt H1.2 (by decide) (by decide)
 refine aY a0 a1 gN gM o1 o2 o3 (cJ o4 (cJ o5 o6)) ?_
 refine gI ?_
 exact H1.kp kp
theorem TJ {b : Nat} {d i a : Int} {t : ByteArray} {names es qs wh body other : List Tr} {x : Value} (ht : t.size ≤ 70000) {fi : Tr → WM} (oU : es.length ≤ 1000000) (nJ : ∀ p ∈ es, ShT 6 p) (nK : oK b d i fi es) :
  Writes (aP b (mkS 6 a t names es qs wh body other) x) b d i 116 [.pointer (some ⟨b, 0, none⟩), x] (aQ (aK [mO, uj, t, uQ]) (brW (dh (es.map fi)))) := by
 intro σ s0 t0 td tl hx h
 have hlt := h.lt
 obtain ⟨v1, v2, v3, v4, v5, v6, rfl, r1, r2, r3, r4, r5, r6⟩ := sJ hx
 have o1 := ay r1
 have o2 := ay r2
 have o3 := ay r3
 have o4 := ay r4
 have o5 := ay r5
 have o6 := ay r6
 replace r1 : aP b (sl 1 names) v1 σ := r1
 replace r2 : aP b (sl 6 es) v2 σ := r2
 replace r3 : aP b (sl 10 qs) v3 σ := r3
 replace r4 : aP b (sl 6 wh) v4 σ := r4
 replace r5 : aP b (sl 9 body) v5 σ := r5
 replace r6 : aP b (sl 9 other) v6 σ := r6
 have kp : Kp σ ((σ.push ⟨1, 48, 0, [.pointer (some ⟨b, 0, none⟩)]⟩).push ⟨1, 54, 0, [.int .i64 6, .int .i64 a, .string t, v1, v2, v3, v4, v5, v6]⟩) := ((Kp.refl σ).push _).push _
 refine fG Tryz.func116 Tryz.ntmps116 Tryz.results116 fun A hz a0 a1 => ?_
 refine aY a0 a1 o1 o2 o3 o4 o5 (cJ o6 (cJ (nQ 6 1) (cJ (nQ 6 17) (cJ (nQ 6 5) (eQ 6))))) ?_
 refine aj (bP a0 a1) ?_
 have sz0 : ∀ z ∈ [mO, uj, t, uQ], ByteArray.size z ≤ 70000 := fun z hz => by
   simp only [List.mem_cons, List.not_mem_nil, or_false] at hz
   rcases hz with rfl | rfl | rfl | rfl
   ·decide
   ·decide
   ·exact ht
   ·decide
 refine C.mono (mg (h.kp kp) _ _ [mO, uj, t, uQ] (show 4 ≤ 1000 by decide) sz0) ?_
 rintro _ σ1 h1
 have H1 := h1
 obtain ⟨gN, gM, hn⟩ := iP hlt H1.2 (by decide) (by decide)
 refine aY a0 a1 gN gM o1 o2 o3 (cJ o4 (cJ o5 o6)) ?_
 refine aj (bP a0 a1) ?_
 refine C.mono (Du (E := fun σ' => aP b (sl 6 es) v2 σ' ∧ σ'.get σ.next = ⟨1, 48, 0, [.pointer (some ⟨b, 0, none⟩)]⟩ ∧ σ'.get (σ.next + 1) = ⟨1, 54, 0, [.int .i64 6, .int .i64 a, .string t, v1, v2, v3, v4, v5, v6]⟩ ∧ σ.next + 2 ≤ σ'.next) (fs := []) (dR fU hlt (by decide) (by decide)) (m := dh (es.map fi)) (fun σ1 s1 t1 Uf tl1 he h1 => TD (k := 6) (a := a) (t := t) (v1 := v1) (v2 := v2) (v3 := v3) (v4 := v4) (v5 := v5) (v6 := v6) oU nJ nK (N := σ.next) (by omega) (by omega) σ1 s1 t1 Uf tl1 he h1) _ _ _ _ _ ⟨aP.wk r2 ((kp.wk b).trans H1.2), gN, gM, hn⟩ H1.1) ?_
 rintro _ σ2 h2
 have H2 := H1.trans h2
 obtain ⟨gN, gM, hn⟩ := iP hlt H2.2 (by decide) (by decide)
 refine aY a0 a1 gN gM o1 o2 o3 (cJ o4 (cJ o5 o6)) ?_
 refine gI ?_
 exact H2.kp kp
theorem TK {b : Nat} {d i a : Int} {t : ByteArray} {names es qs wh body other : List Tr} {x : Value} (ht : t.size ≤ 70000) (yK : ∀ p ∈ qs, ShT 10 p) (hq0 : 0 < qs.length) {fq : Tr → WM} (hq : oL b d i 103 fq qs) :
  Writes (aP b (mkS 7 a t names es qs wh body other) x) b d i 116 [.pointer (some ⟨b, 0, none⟩), x] (aQ (aK [mO, uj, t]) (fq qs[0])) := by
 intro σ s0 t0 td tl hx h
 have hlt := h.lt
 obtain ⟨v1, v2, v3, v4, v5, v6, rfl, r1, r2, r3, r4, r5, r6⟩ := sJ hx
 have o1 := ay r1
 have o2 := ay r2
 have o3 := ay r3
 have o4 := ay r4
 have o5 := ay r5
 have o6 := ay r6
 replace r1 : aP b (sl 1 names) v1 σ := r1
 replace r2 : aP b (sl 6 es) v2 σ := r2
 replace r3 : aP b (sl 10 qs) v3 σ := r3
 replace r4 : aP b (sl 6 wh) v4 σ := r4
 replace r5 : aP b (sl 9 body) v5 σ := r5
 replace r6 : aP b (sl 9 other) v6 σ := r6
 have kp : Kp σ ((σ.push ⟨1, 48, 0, [.pointer (some ⟨b, 0, none⟩)]⟩).push ⟨1, 54, 0, [.int .i64 7, .int .i64 a, .string t, v1, v2, v3, v4, v5, v6]⟩) := ((Kp.refl σ).push _).push _
 refine fG Tryz.func116 Tryz.ntmps116 Tryz.results116 fun A hz a0 a1 => ?_
 refine aY a0 a1 o1 o2 o3 o4 o5 (cJ o6 (cJ (nQ 7 1) (cJ (nQ 7 17) (cJ (nQ 7 5) (cJ (nQ 7 6) (eQ 7)))))) ?_
 refine aj (bP a0 a1) ?_
 have sz0 : ∀ z ∈ [mO, uj, t], ByteArray.size z ≤ 70000 := fun z hz => by
   simp only [List.mem_cons, List.not_mem_nil, or_false] at hz
   rcases hz with rfl | rfl | rfl
   ·decide
   ·decide
   ·exact ht
 refine C.mono (mg (h.kp kp) _ _ [mO, uj, t] (show 3 ≤ 1000 by decide) sz0) ?_
 rintro _ σ1 h1
 have H1 := h1
 obtain ⟨gN, gM, hn⟩ := iP hlt H1.2 (by decide) (by decide)
 obtain ⟨bbq, pq, qq, cq, csq, lq, eq, oQ, yw, yx, SQ, hlq, hoq⟩ := jl (aP.wk r3 ((kp.wk b).trans H1.2)) rE (j := 0) rfl (i := 0) (hq0) (yK _ (List.getElem_mem _))
 have yA := oQ _ (Wk.refl b _)
 refine gQ a0 a1 ?_
 rw [eq] at gM
 refine bY mixed (by kernel_rfl) (by kernel_rfl) ?_
 refine NZ yA a0 a1 gN gM yw yx hlq hoq ?_
 refine bD (dD) ?_
 refine C.mono (hq _ (List.getElem_mem _) _ _ _ _ _ _ SQ H1.1) ?_
 rintro _ σ2 h2
 have JA := oQ _ h2.2
 have Vo := gN
 have YR := gM
 have H2 := H1.trans h2
 obtain ⟨gN, gM, hn⟩ := iP hlt H2.2 (by decide) (by decide)
 rw [eq] at gM
 refine NW ?_
 refine oW [(0, 0), (2, 0), (4, 0)] ?_ ?_
 ·(repeat (refine aO (bg rfl rfl rfl rfl rfl (Gq (cJ yA JA) a0 a1 gN gM Vo YR yw (cJ yx (cJ hlq hoq)))) ?_)); exact bn
 refine aY a0 a1 gN gM o1 o2 o3 (cJ o4 (cJ o5 o6)) ?_
 refine gI ?_
 exact H2.kp kp
theorem TL {b : Nat} {d i a : Int} {t : ByteArray} {names es qs wh body other : List Tr} {x : Value} (ht : t.size ≤ 70000) {fi : Tr → WM} (hln : names.length ≤ 1000000) (hns : ∀ p ∈ names, ∃ s : ByteArray, p = .string s ∧ s.size ≤ 70000) (hne : names.length = es.length) (oU : es.length ≤ 1000000) (nJ : ∀ p ∈ es, ShT 6 p) (nK : oK b d i fi es) (MN : wh.length ≤ 1000000) (MO : ∀ p ∈ wh, ShT 6 p) (MP : oK b d i fi wh) :
  Writes (aP b (mkS 8 a t names es qs wh body other) x) b d i 116 [.pointer (some ⟨b, 0, none⟩), x] (aQ (aQ (aK [uP, t, yF]) (dh ((names.zip es).map fun p => aQ (aK [fM p.1, uS]) (fi p.2)))) (if wh = [] then dW else aQ (aK [jm]) (dh (wh.map fi)))) := by
 intro σ s0 t0 td tl hx h
 have hlt := h.lt
 obtain ⟨v1, v2, v3, v4, v5, v6, rfl, r1, r2, r3, r4, r5, r6⟩ := sJ hx
 have o1 := ay r1
 have o2 := ay r2
 have o3 := ay r3
 have o4 := ay r4
 have o5 := ay r5
 have o6 := ay r6
 replace r1 : aP b (sl 1 names) v1 σ := r1
 replace r2 : aP b (sl 6 es) v2 σ := r2
 replace r3 : aP b (sl 10 qs) v3 σ := r3
 replace r4 : aP b (sl 6 wh) v4 σ := r4
 replace r5 : aP b (sl 9 body) v5 σ := r5
 replace r6 : aP b (sl 9 other) v6 σ := r6
 have kp : Kp σ ((σ.push ⟨1, 48, 0, [.pointer (some ⟨b, 0, none⟩)]⟩).push ⟨1, 54, 0, [.int .i64 8, .int .i64 a, .string t, v1, v2, v3, v4, v5, v6]⟩) := ((Kp.refl σ).push _).push _
 refine fG Tryz.func116 Tryz.ntmps116 Tryz.results116 fun A hz a0 a1 => ?_
 refine aY a0 a1 o1 o2 o3 o4 o5 (cJ o6 (cJ (nQ 8 1) (cJ (nQ 8 17) (cJ (nQ 8 5) (cJ (nQ 8 6) (cJ (nQ 8 7) (eQ 8))))))) ?_
 refine aj (bP a0 a1) ?_
 have sz0 : ∀ z ∈ [uP, t, yF], ByteArray.size z ≤ 70000 := fun z hz => by
   simp only [List.mem_cons, List.not_mem_nil, or_false] at hz
   rcases hz with rfl | rfl | rfl
   ·decide
   ·exact ht
   ·decide
 refine C.mono (mg (h.kp kp) _ _ [uP, t, yF] (show 3 ≤ 1000 by decide) sz0) ?_
 rintro _ σ1 h1
 have H1 := h1
 obtain ⟨gN, gM, hn⟩ := iP hlt H1.2 (by decide) (by decide)
 refine aY a0 a1 gN gM o1 o2 o3 (cJ o4 (cJ o5 o6)) ?_
 refine aj (bP a0 a1) ?_
 refine C.mono (Dx hln hns hne oU nJ nK _ _ _ _ _ (aP.wk (tY r1 r2 r3 r4 r5 r6) ((kp.wk b).trans H1.2)) H1.1) ?_
 rintro _ σ2 h2
 have H2 := H1.trans h2
 obtain ⟨gN, gM, hn⟩ := iP hlt H2.2 (by decide) (by decide)
 refine aY a0 a1 gN gM o1 o2 o3 (cJ o4 (cJ o5 o6)) ?_
 refine aj (bP a0 a1) ?_
 have kq2 : ∀ B, Kp σ2 (σ2.push B) := fun B => (Kp.refl _).push B
 have lb2 := H2.1.lt
 refine C.mono (wo (fi := fi) (ws := [jm]) MN MO MP (show 1 ≤ 1000 by decide) (by decide) _ _ _ _ _ ⟨aP.wk r4 (((kp.wk b).trans H2.2).trans ((kq2 _).wk b)), aA, (show σ2.next < σ2.next + 1 by omega), by omega⟩ (H2.1.kp (kq2 _))) ?_
 rintro _ σ3 h3
 have H3 := H2.trans (h3.kp (kq2 _))
 obtain ⟨gN, gM, hn⟩ := iP hlt H3.2 (by decide) (by decide)
 refine aY a0 a1 gN gM o1 o2 o3 (cJ o4 (cJ o5 o6)) ?_
 refine gI ?_
 exact H3.kp kp
theorem TM {b : Nat} {d i a : Int} {t : ByteArray} {names es qs wh body other : List Tr} {x : Value} (ht : t.size ≤ 70000) {fi : Tr → WM} (MN : wh.length ≤ 1000000) (MO : ∀ p ∈ wh, ShT 6 p) (MP : oK b d i fi wh) :
  Writes (aP b (mkS 9 a t names es qs wh body other) x) b d i 116 [.pointer (some ⟨b, 0, none⟩), x] (aQ (aK [xw, lg, t]) (if wh = [] then dW else aQ (aK [jm]) (dh (wh.map fi)))) := by
 intro σ s0 t0 td tl hx h
 have hlt := h.lt
 obtain ⟨v1, v2, v3, v4, v5, v6, rfl, r1, r2, r3, r4, r5, r6⟩ := sJ hx
 have o1 := ay r1
 have o2 := ay r2
 have o3 := ay r3
 have o4 := ay r4
 have o5 := ay r5
 have o6 := ay r6
 replace r1 : aP b (sl 1 names) v1 σ := r1
 replace r2 : aP b (sl 6 es) v2 σ := r2
 replace r3 : aP b (sl 10 qs) v3 σ := r3
 replace r4 : aP b (sl 6 wh) v4 σ := r4
 replace r5 : aP b (sl 9 body) v5 σ := r5
 replace r6 : aP b (sl 9 other) v6 σ := r6
 have kp : Kp σ ((σ.push ⟨1, 48, 0, [.pointer (some ⟨b, 0, none⟩)]⟩).push ⟨1, 54, 0, [.int .i64 9, .int .i64 a, .string t, v1, v2, v3, v4, v5, v6]⟩) := ((Kp.refl σ).push _).push _
 refine fG Tryz.func116 Tryz.ntmps116 Tryz.results116 fun A hz a0 a1 => ?_
 refine aY a0 a1 o1 o2 o3 o4 o5 (cJ o6 (cJ (nQ 9 1) (cJ (nQ 9 17) (cJ (nQ 9 5) (cJ (nQ 9 6) (cJ (nQ 9 7) (cJ (nQ 9 8) (eQ 9)))))))) ?_
 refine aj (bP a0 a1) ?_
 have sz0 : ∀ z ∈ [xw, lg, t], ByteArray.size z ≤ 70000 := fun z hz => by
   simp only [List.mem_cons, List.not_mem_nil, or_false] at hz
   rcases hz with rfl | rfl | rfl
   ·decide
   ·decide
   ·exact ht
 refine C.mono (mg (h.kp kp) _ _ [xw, lg, t] (show 3 ≤ 1000 by decide) sz0) ?_
 rintro _ σ1 h1
 have H1 := h1
 obtain ⟨gN, gM, hn⟩ := iP hlt H1.2 (by decide) (by decide)
 refine aY a0 a1 gN gM o1 o2 o3 (cJ o4 (cJ o5 o6)) ?_
 refine aj (bP a0 a1) ?_
 have kq1 : ∀ B, Kp σ1 (σ1.push B) := fun B => (Kp.refl _).push B
 have lb1 := H1.1.lt
 refine C.mono (wo (fi := fi) (ws := [jm]) MN MO MP (show 1 ≤ 1000 by decide) (by decide) _ _ _ _ _ ⟨aP.wk r4 (((kp.wk b).trans H1.2).trans ((kq1 _).wk b)), aA, (show σ1.next < σ1.next + 1 by omega), by omega⟩ (H1.1.kp (kq1 _))) ?_
 rintro _ σ2 h2
 have H2 := H1.trans (h2.kp (kq1 _))
 obtain ⟨gN, gM, hn⟩ := iP hlt H2.2 (by decide) (by decide)
 refine aY a0 a1 gN gM o1 o2 o3 (cJ o4 (cJ o5 o6)) ?_
 refine gI ?_
 exact H2.kp kp
theorem OZ {b : Nat} {d i a : Int} {t : ByteArray} {names es qs wh body other : List Tr} {x : Value} (ht : t.size ≤ 70000) {fi : Tr → WM} (oU : es.length ≤ 1000000) (nJ : ∀ p ∈ es, ShT 6 p) (nK : oK b d i fi es) :
  Writes (aP b (mkS 12 a t names es qs wh body other) x) b d i 116 [.pointer (some ⟨b, 0, none⟩), x] (aQ (aK [I7]) (vZ t (dh (es.map fi)))) := by
 intro σ s0 t0 td tl hx h
 have hlt := h.lt
 obtain ⟨v1, v2, v3, v4, v5, v6, rfl, r1, r2, r3, r4, r5, r6⟩ := sJ hx
 have o1 := ay r1
 have o2 := ay r2
 have o3 := ay r3
 have o4 := ay r4
 have o5 := ay r5
 have o6 := ay r6
 replace r1 : aP b (sl 1 names) v1 σ := r1
 replace r2 : aP b (sl 6 es) v2 σ := r2
 replace r3 : aP b (sl 10 qs) v3 σ := r3
 replace r4 : aP b (sl 6 wh) v4 σ := r4
 replace r5 : aP b (sl 9 body) v5 σ := r5
 replace r6 : aP b (sl 9 other) v6 σ := r6
 have kp : Kp σ ((σ.push ⟨1, 48, 0, [.pointer (some ⟨b, 0, none⟩)]⟩).push ⟨1, 54, 0, [.int .i64 12, .int .i64 a, .string t, v1, v2, v3, v4, v5, v6]⟩) := ((Kp.refl σ).push _).push _
 refine fG Tryz.func116 Tryz.ntmps116 Tryz.results116 fun A hz a0 a1 => ?_
 refine aY a0 a1 o1 o2 o3 o4 o5 (cJ o6 (cJ (nQ 12 1) (cJ (nQ 12 17) (cJ (nQ 12 5) (cJ (nQ 12 6) (cJ (nQ 12 7) (cJ (nQ 12 8) (cJ (nQ 12 9) (eQ 12))))))))) ?_
 refine aj (bP a0 a1) ?_
 refine C.mono (cZ (h.kp kp) _ _ (I7) (by decide)) ?_
 rintro _ σ1 h1
 have H1 := h1
 obtain ⟨gN, gM, hn⟩ := iP hlt H1.2 (by decide) (by decide)
 refine aY a0 a1 gN gM o1 o2 o3 (cJ o4 (cJ o5 o6)) ?_
 refine aj (bP a0 a1) ?_
 refine C.mono (Ia (E := fun σ' => aP b (sl 6 es) v2 σ' ∧ σ'.get σ.next = ⟨1, 48, 0, [.pointer (some ⟨b, 0, none⟩)]⟩ ∧ σ'.get (σ.next + 1) = ⟨1, 54, 0, [.int .i64 12, .int .i64 a, .string t, v1, v2, v3, v4, v5, v6]⟩ ∧ σ.next + 2 ≤ σ'.next) (fs := []) (dR fU hlt (by decide) (by decide)) ht (m := dh (es.map fi)) (fun σ1 s1 t1 Uf tl1 he h1 => TF (k := 12) (a := a) (t := t) (v1 := v1) (v2 := v2) (v3 := v3) (v4 := v4) (v5 := v5) (v6 := v6) oU nJ nK (N := σ.next) (by omega) (by omega) σ1 s1 t1 Uf tl1 he h1) _ _ _ _ _ ⟨aP.wk r2 ((kp.wk b).trans H1.2), gN, gM, hn⟩ H1.1) ?_
 rintro _ σ2 h2
 have H2 := H1.trans h2
 obtain ⟨gN, gM, hn⟩ := iP hlt H2.2 (by decide) (by decide)
 refine aY a0 a1 gN gM o1 o2 o3 (cJ o4 (cJ o5 o6)) ?_
 refine gI ?_
 exact H2.kp kp
theorem TN {b : Nat} {d i k a : Int} {t : ByteArray} {names es qs wh body other : List Tr} {x : Value} (hk : k = 11 ∨ k = 13 ∨ k = 14 ∨ k = 15 ∨ k = 16) :
  Writes (aP b (mkS k a t names es qs wh body other) x) b d i 116 [.pointer (some ⟨b, 0, none⟩), x] (aK [Fq k]) := by
 intro σ s0 t0 td tl hx h
 have hlt := h.lt
 obtain ⟨v1, v2, v3, v4, v5, v6, rfl, r1, r2, r3, r4, r5, r6⟩ := sJ hx
 have o1 := ay r1
 have o2 := ay r2
 have o3 := ay r3
 have o4 := ay r4
 have o5 := ay r5
 have o6 := ay r6
 replace r1 : aP b (sl 1 names) v1 σ := r1
 replace r2 : aP b (sl 6 es) v2 σ := r2
 replace r3 : aP b (sl 10 qs) v3 σ := r3
 replace r4 : aP b (sl 6 wh) v4 σ := r4
 replace r5 : aP b (sl 9 body) v5 σ := r5
 replace r6 : aP b (sl 9 other) v6 σ := r6
 have kp : Kp σ ((σ.push ⟨1, 48, 0, [.pointer (some ⟨b, 0, none⟩)]⟩).push ⟨1, 54, 0, [.int .i64 k, .int .i64 a, .string t, v1, v2, v3, v4, v5, v6]⟩) := ((Kp.refl σ).push _).push _
 refine fG Tryz.func116 Tryz.ntmps116 Tryz.results116 fun A hz a0 a1 => ?_
 have c1 : (k == 1) = false := by simp only [beq_eq_false_iff_ne]; omega
 have c17 : (k == 17) = false := by simp only [beq_eq_false_iff_ne]; omega
 have c5 : (k == 5) = false := by simp only [beq_eq_false_iff_ne]; omega
 have c6 : (k == 6) = false := by simp only [beq_eq_false_iff_ne]; omega
 have c7 : (k == 7) = false := by simp only [beq_eq_false_iff_ne]; omega
 have c8 : (k == 8) = false := by simp only [beq_eq_false_iff_ne]; omega
 have c9 : (k == 9) = false := by simp only [beq_eq_false_iff_ne]; omega
 have c12 : (k == 12) = false := by simp only [beq_eq_false_iff_ne]; omega
 have XR : (Fq k).size ≤ 70000 := by unfold Fq; repeat (first | (split; · decide) | decide)
 refine aY a0 a1 o1 o2 o3 o4 o5 (cJ o6 (cJ c1 (cJ c17 (cJ c5 (cJ c6 (cJ c7 (cJ c8 (cJ c9 c12)))))))) ?_
 obtain ⟨τ, hτ, kt, gN, gM, nx⟩ : ∃ τ, τ = ((σ.push ⟨1, 48, 0, [.pointer (some ⟨b, 0, none⟩)]⟩).push ⟨1, 54, 0, [.int .i64 k, .int .i64 a, .string t, v1, v2, v3, v4, v5, v6]⟩) ∧ Kp σ τ ∧ τ.get σ.next = ⟨1, 48, 0, [.pointer (some ⟨b, 0, none⟩)]⟩ ∧ τ.get (σ.next + 1) = ⟨1, 54, 0, [.int .i64 k, .int .i64 a, .string t, v1, v2, v3, v4, v5, v6]⟩ ∧ τ.next = σ.next + 2 := ⟨_, rfl, kp, (aC (by rw [ah]; omega)).trans aA, aA, rfl⟩
 rw [← hτ]
 refine bY mixed (by kernel_rfl) (by kernel_rfl) ?_
 refine XL a0 a1 gN gM ?_
 refine bD (dD) ?_
 refine C.mono (abW k) ?_
 rintro _ _ ⟨rfl, rfl⟩
 refine XL a0 a1 gN gM ?_
 refine bD (dD) ?_
 refine C.mono (cZ (h.kp kt) _ _ (Fq k) XR) ?_
 rintro _ σ1 h1
 have nN := (h1.2.get σ.next (by omega) (by omega) (by rw [gN]; show (48 : Nat) ≠ 5; decide)).trans gN
 have E8 := (h1.2.get (σ.next + 1) (by omega) (by omega) (by rw [gM]; show (54 : Nat) ≠ 5; decide)).trans gM
 refine NW ?_
 refine oW [(0, 0), (0, 4), (0, 5), (2, 0)] ?_ ?_
 ·(repeat (refine aO (bg rfl rfl rfl rfl rfl (D8 a0 a1 gN gM nN E8)) ?_)); exact bn
 refine iO ?_
 refine gI ?_
 exact h1.kp kt
end Go.Proofs.YthogkmcahnkkoaaGreatDoor
