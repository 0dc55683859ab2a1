/- The program's reader: the generic readers, at each type. The program's reader: expressions. -/
import Derived.Test.YthogkmcahnkkoaaGreatDoorJ07
namespace Go.Proofs.YthogkmcahnkkoaaGreatDoor
open Go.RowKit
set_option maxRecDepth 10000
set_option linter.unusedSimpArgs false
set_option linter.unusedVariables false
def xB (more : Tr → ByteArray → SM Tr) (ws : List ByteArray) : Tr → SM (Option Tr) := fun x => do
 match ← aI ws with
 | some m => do
  let y ← more x m
  pure (some y)
 | none => pure none
theorem Jf {more : Tr → ByteArray → SM Tr} {ws : List ByteArray} {s : Sy} {x : ByteArray} {m : Nat} {p : Tr} (h : (aI ws s).1 = some x) : loopS (xB more ws) (m + 1) p s = loopS (xB more ws) m (more p x (aI ws s).2).1 (more p x (aI ws s).2).2 := by
 have h1 : xB more ws p s = (some (more p x (aI ws s).2).1, (more p x (aI ws s).2).2) := by
  show (match (aI ws s).1 with
   | some m => (more p m >>= fun y => pure (some y) : SM (Option Tr))
   | none => pure none) (aI ws s).2 = _
  rw [h]
  rfl
 simp only [loopS, SM.bind_run, h1]
theorem Jg {more : Tr → ByteArray → SM Tr} {ws : List ByteArray} {s : Sy} {m : Nat} {p : Tr} (h : (aI ws s).1 = none) : loopS (xB more ws) (m + 1) p s = (p, (aI ws s).2) := by
 have h1 : xB more ws p s = (none, (aI ws s).2) := by
  show (match (aI ws s).1 with
   | some m => (more p m >>= fun y => pure (some y) : SM (Option Tr))
   | none => pure none) (aI ws s).2 = _
  rw [h]
  rfl
 simp only [loopS, SM.bind_run, h1]
 rfl
def xC (x : ByteArray) (m : SM Tr) : List Tr → SM (Option (List Tr)) := fun l => do
 if ← aB x then do
  let y ← m
  pure (some (l ++ [y]))
 else pure none
theorem Jh {x : ByteArray} {m : SM Tr} {s : Sy} {k : Nat} {ps : List Tr} (h : (aB x s).1 = true) : loopS (xC x m) (k + 1) ps s = loopS (xC x m) k (ps ++ [(m (aB x s).2).1]) (m (aB x s).2).2 := by
 have h1 : xC x m ps s = (some (ps ++ [(m (aB x s).2).1]), (m (aB x s).2).2) := by
  show (if (aB x s).1 = true then (m >>= fun y => pure (some (ps ++ [y])) : SM (Option (List Tr))) else pure none) (aB x s).2 = _
  rw [if_pos h]
  rfl
 simp only [loopS, SM.bind_run, h1]
theorem EZ {x : ByteArray} {m : SM Tr} {s : Sy} {k : Nat} {ps : List Tr} (h : (aB x s).1 = false) : loopS (xC x m) (k + 1) ps s = (ps, (aB x s).2) := by
 have h1 : xC x m ps s = (none, (aB x s).2) := by
  show (if (aB x s).1 = true then (m >>= fun y => pure (some (ps ++ [y])) : SM (Option (List Tr))) else pure none) (aB x s).2 = _
  rw [if_neg (by simp [h])]
  rfl
 simp only [loopS, SM.bind_run, h1]
 rfl
theorem Ji {x : ByteArray} {s : Sy} (hp : 0 < s.left.length) (h : (aB x s).1 = true) : (aB x s).2.left.length < s.left.length := by
 unfold aB at h ⊢
 split at h
 ·rename_i hs
  rw [if_pos hs]
  simp
  omega
 ·cases h
def Grow (σ : AW) (N e n : Nat) (v : Value) (vs ps : List Value) : Prop := ∃ B c k z, v = .slice (some ⟨B, 0, none⟩) vs.length c ∧ σ.get B = ⟨k, e, z, vs.flatMap aF⟩ ∧ ((k = 1 ∧ c = 2 * vs.length ∧ z = 1) ∨ (k = 2 ∧ c = 1 ∧ z = n)) ∧ N ≤ B ∧ B < σ.next ∧ nG σ (fun k => N ≤ k ∧ k ≠ B) ps vs ∧ ∀ v ∈ vs, Sh n v
theorem Ag {n : Nat} : ∀ {vs : List Value}, (∀ v ∈ vs, Sh n v) → (vs.flatMap aF).length = vs.length * n
 | [], _ => by simp
 | u :: vs, h => by rw [List.flatMap_cons, List.length_append, (h u (List.mem_cons_self ..)).len, Ag (fun w hw => h w (List.mem_cons_of_mem _ hw)), List.length_cons, Nat.add_mul, Nat.one_mul, Nat.add_comm]
theorem Grow.rd {σ : AW} {N e n : Nat} {v : Value} {vs ps : List Value} (h : Grow σ N e n v vs ps) (hn : n ≠ 0) : Rd σ (fun k => N ≤ k) (sl n ps) v := by
 obtain ⟨B, c, k, z, rfl, h2, h3, h4, h5, h6, h7⟩ := h
 refine oO.2 ⟨vs, h6.keep (fun _ _ _ _ => rfl) (Nat.le_refl _) (fun k hk _ => hk.1), .inr ⟨B, 0, c, k, e, z, _, rfl, h2, h3.imp (·.1) (.inl ·.1), ?_, h5, h4, ?_, fun u hu => (h7 u hu).len⟩⟩
 ·rcases h3 with ⟨_, _, rfl⟩ | ⟨_, _, rfl⟩
  ·decide
  ·exact hn
 ·rw [List.drop_zero, List.take_of_length_le (by rw [Ag h7]; exact Nat.le_refl _)]
theorem Grow.gr {r : Nat} {σ σ' : AW} {N e n : Nat} {v : Value} {vs ps : List Value} (h : Grow σ N e n v vs ps) (g : Gr r σ σ') (hr : r < N) : Grow σ' N e n v vs ps := by
 obtain ⟨B, c, k, z, h1, h2, h3, h4, h5, h6, h7⟩ := h
 exact ⟨B, c, k, z, h1, by rw [g.get B h5 (by omega)]; exact h2, h3, h4, Nat.lt_of_lt_of_le h5 g.next, h6.keep (fun j hj hlt _ => g.get j hlt (by have := hj.1; omega)) g.next (fun _ h _ => h), h7⟩
theorem Ah {P : Program} {r : Nat} {σ3 σ4 : AW} {N t e n PO : Nat} {zv v p : Value} {vs ps l : List Value} (hu : P.underlying t = some (.slice e)) (AZ : (P.info? e).map (fun i => (i.zero, i.size, i.bytes)) = some (some zv, n, PO)) (hz : (aF zv).length = n) (hn : 0 < n)
  (hr : r < N) (hN : N ≤ σ3.next) (hG : Grow σ3 N e n v vs ps) (g : Gr r σ3 σ4) (ht : TE n σ4 (fun k => σ3.next ≤ k) (.agg ⟨l⟩) p) (hb : (2 * (vs.length + 1) + 768) * PO ≤ 281474976710656) (hlen : vs.length + 1 ≤ 1000000000) :
  ∃ v' σ', ig P (σ4.push ⟨1, e, 1, l⟩) t t v (.slice (some ⟨σ4.next, 0, none⟩) 1 2) = some (v', σ') ∧ Grow σ' N e n v' (vs ++ [.agg ⟨l⟩]) (ps ++ [p]) ∧ Ow N σ4 σ' ∧ ∀ j, j < σ4.next → (σ4.get j).esz = 0 → σ'.get j = σ4.get j := by
 obtain ⟨B, c, k, z, rfl, h2, h3, h4, h5, h6, h7⟩ := hG.gr g hr
 obtain ⟨B', _, _, _, e1, _, _, _, hB3, _, _⟩ := hG
 injection e1 with e1
 injection e1 with e1
 injection e1 with e1
 subst e1
 obtain ⟨t4, _, e2, hl4, Na⟩ := ht
 injection e2 with e2
 injection e2 with e2
 subst e2
 have hne : B ≠ σ4.next := by omega
 refine ⟨_, _, UY hu AZ hz hn (len := vs.length) (by rw [aC hne]; exact h2) (h3.imp (fun h => ⟨h.1, h.2.1⟩) (fun h => ⟨h.1, h.2.1, rfl, h.2.2⟩)) (Ag h7) aA hl4 Na hb hlen, ?_, ?_, fun j hj hz0 => ?_⟩
 ·have hnx : (if k = 1 then σ4.push ⟨1, e, 1, l⟩ else (σ4.push ⟨1, e, 1, l⟩).set B eu).next = σ4.next + 1 := by split <;> rfl
  have hkeep : ∀ j, j ≠ B → j < σ4.next → ((if k = 1 then σ4.push ⟨1, e, 1, l⟩ else (σ4.push ⟨1, e, 1, l⟩).set B eu).push ⟨2, e, n, vs.flatMap aF ++ l⟩).get j = σ4.get j := fun j h1 h2 => by
   rw [aC (by rw [hnx]; omega)]
   split
   ·exact aC (by omega)
   ·rw [bG h1, aC (by omega)]
  refine ⟨σ4.next + 1, 1, 2, n, by rw [List.length_append]; rfl, ?_, .inr ⟨rfl, rfl, rfl⟩, by omega, by rw [ah, hnx]; omega, ?_, ?_⟩
  ·have := aA (σ := if k = 1 then σ4.push ⟨1, e, 1, l⟩ else (σ4.push ⟨1, e, 1, l⟩).set B eu) (b := ⟨2, e, n, vs.flatMap aF ++ l⟩)
   rw [hnx] at this
   rw [this]
   simp [aF]
  ·refine nG.append (h6.keep (fun j hj hlt _ => hkeep j hj.2 hlt) (by rw [ah, hnx]; omega) (fun j hj hlt => ⟨hj.1, by omega⟩)) (nG.one (t4.keep (fun j hj hlt _ => hkeep j (by have := hj; omega) hlt) (by rw [ah, hnx]; omega) (fun j hj hlt => ⟨by have := hj; omega, by omega⟩)))
  ·intro u hu
   rcases List.mem_append.1 hu with hu | hu
   ·exact h7 u hu
   ·simp only [List.mem_singleton] at hu
    subst hu
    exact ⟨l, rfl, hl4, Na⟩
 ·split
  ·exact (((Ow.refl N σ4).push _).push _)
  ·exact ((((Ow.refl N σ4).push _).set h4 _).push _)
 ·have hjB : j ≠ B := fun e => by
   rw [e, h2] at hz0
   rcases h3 with ⟨_, _, e3⟩ | ⟨_, _, e3⟩ <;> (simp only at hz0; omega)
  have hnx : (if k = 1 then σ4.push ⟨1, e, 1, l⟩ else (σ4.push ⟨1, e, 1, l⟩).set B eu).next = σ4.next + 1 := by split <;> rfl
  rw [aC (by rw [hnx]; omega)]
  split
  ·exact aC (by omega)
  ·rw [bG hjB, aC (by omega)]
theorem qG {s : Sy} {x : ByteArray} (hp : 0 < s.left.length) : ∀ {ws : List ByteArray}, (aI ws s).1 = some x → x ∈ ws ∧ (aI ws s).2.left.length < s.left.length
 | [], h => by cases h
 | y :: ws, h => by
  unfold aI at h ⊢
  by_cases hy : eF y s = true
  ·rw [if_pos hy] at h ⊢
   injection h with h
   subst h
   exact ⟨List.mem_cons_self .., by simp; omega⟩
  ·rw [if_neg hy] at h ⊢
   obtain ⟨h1, h2⟩ := qG hp h
   exact ⟨List.mem_cons_of_mem _ h1, h2⟩
section
variable {r b : Nat} {T : List Tk}
def vU (E : AW → Prop) (n r b : Nat) (T : List Tk) (d : Int) (g : Nat) (xs : List Value) (m : SM (List Tr)) : Prop := ∀ σ s, E σ → lu σ r b T d s → C Tryz.prog g xs σ fun v σ' => Rd σ' (fun k => σ.next ≤ k) (sl n (m s).1) v ∧ lu σ' r b T d (m s).2 ∧ Gr r σ σ'
theorem xY {n : Nat} {d : Int} {σ σ2 σ3 : AW} {p : List Tr × Sy} {v : Value} (ow : Ow σ.next σ2 σ3) (g : Gr r σ σ2) (h : lu σ2 r b T d p.2) (hlr : r < σ.next) (hlb : b < σ.next) (ht : Rd σ3 (fun k => σ.next ≤ k) (sl n p.1) v) : Rd σ3 (fun k => σ.next ≤ k) (sl n p.1) v ∧ lu σ3 r b T d p.2 ∧ Gr r σ σ3 :=
 ⟨ht, h.ow ow hlr hlb, g.ow ow⟩
theorem YH {E : AW → Prop} (hE : Stable r E) {d : Int} {g : Nat} {fs cs : List Value} {more : Tr → ByteArray → SM Tr} {ws : List ByteArray} (hw0 : ws.length ≤ 1000) (hsh : ∀ p x, bQ (more p x))
  (hf : ∀ σ s lo v p x, E σ → lu σ r b T d s → lo ≤ σ.next → TE 6 σ (fun k => lo ≤ k) v p → x ∈ ws → C Tryz.prog g (fs ++ [v, .string x] ++ cs) σ fun v' σ' => TE 6 σ' (fun k => lo ≤ k) v' (more p x s).1 ∧ lu σ' r b T d (more p x s).2 ∧ Gr r σ σ')
  {σ : AW} {s : Sy} (he : E σ) (h : lu σ r b T d s) {lo w c e z : Nat} (hlo : lo ≤ σ.next) {v p : Value} (hv : TE 6 σ (fun k => lo ≤ k) v p) (hw : σ.get w = ⟨1, e, z, ws.map Value.string⟩) (hwr : w ≠ r) (hwn : w < σ.next) :
  C Tryz.prog 85 [.pointer (some ⟨r, 0, none⟩), v, .func (.func g) ⟨fs⟩ ⟨cs⟩, .slice (some ⟨w, 0, none⟩) ws.length c] σ fun v' σ' => TE 6 σ' (fun k => lo ≤ k) v' (dL more ws p s).1 ∧ lu σ' r b T d (dL more ws p s).2 ∧ Gr r σ σ' := by
 have hlr := h.lr
 have hlb := h.lb
 obtain ⟨hv1, l, rfl, hl, ho⟩ := hv
 refine cE4 Tryz.func85 Tryz.ntmps85 Tryz.results85 fun A hz a0 a1 a2 a3 => ?_
 refine kR a0 a1 a2 a3 hl ho ?_
 refine EG (fun m B σ1 => ∃ s1 l1 p1, s1.left.length ≤ m ∧ B.size = 23 ∧ B.get 0 = some (.pointer (some ⟨r, 0, none⟩)) ∧ B.get 2 = some (.func (.func g) ⟨fs⟩ ⟨cs⟩) ∧ B.get 3 = some (.slice (some ⟨w, 0, none⟩) ws.length c) ∧ B.get 5 = some (.pointer (some ⟨σ.next, 0, none⟩)) ∧ B.get 8 = some (.pointer (some ⟨σ.next + 1, 0, none⟩)) ∧ lu σ1 r b T d s1 ∧ Gr r σ σ1 ∧ σ.next + 2 ≤ σ1.next ∧ σ1.get σ.next = ⟨1, 42, 0, l1⟩ ∧ σ1.get (σ.next + 1) = ⟨1, 42, 0, [.int .i64 0, .int .i64 0, .string ⟨#[]⟩, .string ⟨#[]⟩, .slice none 0 0, .slice none 0 0]⟩ ∧ TE 6 σ1 (fun k => lo ≤ k) (.agg ⟨l1⟩) p1 ∧ loopS (xB more ws) m p1 s1 = dL more ws p s) ?_ (m := s.left.length) ⟨s, l, p, Nat.le_refl _, (dD), (aU a0), (aU a2), (aU a3), (dD), (dD), h.kp (((Kp.refl σ).push _).push _), (((Gr.refl r σ).push _).push _), Nat.le_refl _, ?_, ?_, TE.ks ⟨hv1, l, rfl, hl, ho⟩ (((Ks.refl σ).push _).push _), rfl⟩
 ·rintro m B σ1 ⟨s1, l1, p1, hm, hz, b0, b2, b3, b5, b8, h1, g1, nx, gN, gM, t1, hloop⟩
  have hw1 := (g1.get w hwn hwr).trans hw
  obtain ⟨q1, _, e1, hl1, ho1⟩ := t1
  injection e1 with e1
  injection e1 with e1
  subst e1
  refine jy b0 b2 b3 b5 b8 ?_
  refine aj (NY b0 b2 b3 b5 b8) ?_
  refine C.mono (uV h1 hw1 (by omega) hw0) ?_
  rintro _ σ2 ⟨rfl, h2, g2⟩
  have kU := (g2.get σ.next (by omega) (by omega)).trans gN
  have sF := (g2.get (σ.next + 1) (by omega) (by omega)).trans gM
  have nM := g2.next
  have t2 := TE.ks ⟨q1, l1, rfl, hl1, ho1⟩ (g2.ks h1.ez)
  obtain ⟨i1, hi1, hi2, _⟩ := h1.head
  have hpos : 0 < s1.left.length := by rw [hi2, List.length_drop]; have := hi1.li; omega
  obtain ⟨m, rfl⟩ : ∃ k, m = k + 1 := ⟨m - 1, by omega⟩
  cases ho : (aI ws s1).1 with
  | some x =>
   obtain ⟨hx, hlt⟩ := qG hpos ho
   rw [Jf ho] at hloop
   simp only [EX]
   refine aY b0 b2 b3 b5 b8 kU sF hl1 ?_
   refine aj (kC b0 b2 b3 b5 b8 kU sF hl1) ?_
   have g12 := g1.trans g2
   refine C.mono (hf σ2 (aI ws s1).2 lo _ p1 x (hE _ _ he g12) h2 (by omega) t2 hx) ?_
   rintro _ σ3 ⟨⟨t3, l3, rfl, hl3, ho3⟩, h3, g3⟩
   have tq := (g3.get σ.next (by omega) (by omega)).trans kU
   have rU := (g3.get (σ.next + 1) (by omega) (by omega)).trans sF
   have Dl := g3.next
   refine aY b0 b2 b3 b5 b8 tq rU (cJ hl3 (cJ ho3 hl1)) ?_
   refine NG ?_
   simp only [Then, Out, iy]
   refine ⟨trivial, m, Nat.lt_succ_self _, (more p1 x (aI ws s1).2).2, l3, (more p1 x (aI ws s1).2).1, ?_, (dD), (aU b0), (aU b2), (aU b3), (aU b5), (aU b8), h3.ow ((Ow.refl σ.next σ3).set (Nat.le_refl _) _) hlr hlb, (g12.trans g3).ow ((Ow.refl σ.next σ3).set (Nat.le_refl _) _), by rw [au]; omega, by rw [bF], by rw [bG (by omega)]; exact rU, TE.ks ⟨t3, l3, rfl, hl3, ho3⟩ ((Ks.refl σ3).set (.inr (by rw [tq])) _), hloop⟩
   have := hsh p1 x (aI ws s1).2
   omega
  | none =>
   rw [Jg ho] at hloop
   simp only [EX]
   refine aY b0 b2 b3 b5 b8 kU sF (cJ hl1 ho1) ?_
   refine rT3 b8 sF hl1 ?_
   rw [← hloop]
   exact ⟨t2.ks ((Ks.refl σ2).set (.inr (by rw [sF])) _), h2.ow ((Ow.refl σ.next σ2).set (by omega) _) hlr hlb, (g1.trans g2).ow ((Ow.refl σ.next σ2).set (by omega) _)⟩
 ·rw [aC (by simp only [ah]; omega), aA]
 ·exact aA
theorem YI {E : AW → Prop} (hE : Stable r E) {d : Int} {g : Nat} {fs cs : List Value} {more : Tr → ByteArray → SM Tr} {ws : List ByteArray} (hw0 : ws.length ≤ 1000) (hsh : ∀ p x, bQ (more p x))
  (hf : ∀ σ s lo v p x, E σ → lu σ r b T d s → lo ≤ σ.next → TE 10 σ (fun k => lo ≤ k) v p → x ∈ ws → C Tryz.prog g (fs ++ [v, .string x] ++ cs) σ fun v' σ' => TE 10 σ' (fun k => lo ≤ k) v' (more p x s).1 ∧ lu σ' r b T d (more p x s).2 ∧ Gr r σ σ')
  {σ : AW} {s : Sy} (he : E σ) (h : lu σ r b T d s) {lo w c e z : Nat} (hlo : lo ≤ σ.next) {v p : Value} (hv : TE 10 σ (fun k => lo ≤ k) v p) (hw : σ.get w = ⟨1, e, z, ws.map Value.string⟩) (hwr : w ≠ r) (hwn : w < σ.next) :
  C Tryz.prog 201 [.pointer (some ⟨r, 0, none⟩), v, .func (.func g) ⟨fs⟩ ⟨cs⟩, .slice (some ⟨w, 0, none⟩) ws.length c] σ fun v' σ' => TE 10 σ' (fun k => lo ≤ k) v' (dL more ws p s).1 ∧ lu σ' r b T d (dL more ws p s).2 ∧ Gr r σ σ' := by
 have hlr := h.lr
 have hlb := h.lb
 obtain ⟨hv1, l, rfl, hl, ho⟩ := hv
 refine cE4 Tryz.func201 Tryz.ntmps201 Tryz.results201 fun A hz a0 a1 a2 a3 => ?_
 refine kR a0 a1 a2 a3 hl ho ?_
 refine EG (fun m B σ1 => ∃ s1 l1 p1, s1.left.length ≤ m ∧ B.size = 23 ∧ B.get 0 = some (.pointer (some ⟨r, 0, none⟩)) ∧ B.get 2 = some (.func (.func g) ⟨fs⟩ ⟨cs⟩) ∧ B.get 3 = some (.slice (some ⟨w, 0, none⟩) ws.length c) ∧ B.get 5 = some (.pointer (some ⟨σ.next, 0, none⟩)) ∧ B.get 8 = some (.pointer (some ⟨σ.next + 1, 0, none⟩)) ∧ lu σ1 r b T d s1 ∧ Gr r σ σ1 ∧ σ.next + 2 ≤ σ1.next ∧ σ1.get σ.next = ⟨1, 61, 0, l1⟩ ∧ σ1.get (σ.next + 1) = ⟨1, 61, 0, [.int .i64 0, .bool false, .slice none 0 0, .slice none 0 0, .slice none 0 0, .slice none 0 0, .slice none 0 0, .slice none 0 0, .int .i64 0, .slice none 0 0]⟩ ∧ TE 10 σ1 (fun k => lo ≤ k) (.agg ⟨l1⟩) p1 ∧ loopS (xB more ws) m p1 s1 = dL more ws p s) ?_ (m := s.left.length) ⟨s, l, p, Nat.le_refl _, (dD), (aU a0), (aU a2), (aU a3), (dD), (dD), h.kp (((Kp.refl σ).push _).push _), (((Gr.refl r σ).push _).push _), Nat.le_refl _, ?_, ?_, TE.ks ⟨hv1, l, rfl, hl, ho⟩ (((Ks.refl σ).push _).push _), rfl⟩
 ·rintro m B σ1 ⟨s1, l1, p1, hm, hz, b0, b2, b3, b5, b8, h1, g1, nx, gN, gM, t1, hloop⟩
  have hw1 := (g1.get w hwn hwr).trans hw
  obtain ⟨q1, _, e1, hl1, ho1⟩ := t1
  injection e1 with e1
  injection e1 with e1
  subst e1
  refine jy b0 b2 b3 b5 b8 ?_
  refine aj (NY b0 b2 b3 b5 b8) ?_
  refine C.mono (uV h1 hw1 (by omega) hw0) ?_
  rintro _ σ2 ⟨rfl, h2, g2⟩
  have kU := (g2.get σ.next (by omega) (by omega)).trans gN
  have sF := (g2.get (σ.next + 1) (by omega) (by omega)).trans gM
  have nM := g2.next
  have t2 := TE.ks ⟨q1, l1, rfl, hl1, ho1⟩ (g2.ks h1.ez)
  obtain ⟨i1, hi1, hi2, _⟩ := h1.head
  have hpos : 0 < s1.left.length := by rw [hi2, List.length_drop]; have := hi1.li; omega
  obtain ⟨m, rfl⟩ : ∃ k, m = k + 1 := ⟨m - 1, by omega⟩
  cases ho : (aI ws s1).1 with
  | some x =>
   obtain ⟨hx, hlt⟩ := qG hpos ho
   rw [Jf ho] at hloop
   simp only [EX]
   refine aY b0 b2 b3 b5 b8 kU sF hl1 ?_
   refine aj (kC b0 b2 b3 b5 b8 kU sF hl1) ?_
   have g12 := g1.trans g2
   refine C.mono (hf σ2 (aI ws s1).2 lo _ p1 x (hE _ _ he g12) h2 (by omega) t2 hx) ?_
   rintro _ σ3 ⟨⟨t3, l3, rfl, hl3, ho3⟩, h3, g3⟩
   have tq := (g3.get σ.next (by omega) (by omega)).trans kU
   have rU := (g3.get (σ.next + 1) (by omega) (by omega)).trans sF
   have Dl := g3.next
   refine aY b0 b2 b3 b5 b8 tq rU (cJ hl3 (cJ ho3 hl1)) ?_
   refine NG ?_
   simp only [Then, Out, iy]
   refine ⟨trivial, m, Nat.lt_succ_self _, (more p1 x (aI ws s1).2).2, l3, (more p1 x (aI ws s1).2).1, ?_, (dD), (aU b0), (aU b2), (aU b3), (aU b5), (aU b8), h3.ow ((Ow.refl σ.next σ3).set (Nat.le_refl _) _) hlr hlb, (g12.trans g3).ow ((Ow.refl σ.next σ3).set (Nat.le_refl _) _), by rw [au]; omega, by rw [bF], by rw [bG (by omega)]; exact rU, TE.ks ⟨t3, l3, rfl, hl3, ho3⟩ ((Ks.refl σ3).set (.inr (by rw [tq])) _), hloop⟩
   have := hsh p1 x (aI ws s1).2
   omega
  | none =>
   rw [Jg ho] at hloop
   simp only [EX]
   refine aY b0 b2 b3 b5 b8 kU sF (cJ hl1 ho1) ?_
   refine rT3 b8 sF hl1 ?_
   rw [← hloop]
   exact ⟨t2.ks ((Ks.refl σ2).set (.inr (by rw [sF])) _), h2.ow ((Ow.refl σ.next σ2).set (by omega) _) hlr hlb, (g1.trans g2).ow ((Ow.refl σ.next σ2).set (by omega) _)⟩
 ·rw [aC (by simp only [ah]; omega), aA]
 ·exact aA
theorem YJ {E : AW → Prop} (hE : Stable r E) {d : Int} {g : Nat} {fs cs : List Value} {more : Tr → ByteArray → SM Tr} {ws : List ByteArray} (hw0 : ws.length ≤ 1000) (hsh : ∀ p x, bQ (more p x))
  (hf : ∀ σ s lo v p x, E σ → lu σ r b T d s → lo ≤ σ.next → TE 7 σ (fun k => lo ≤ k) v p → x ∈ ws → C Tryz.prog g (fs ++ [v, .string x] ++ cs) σ fun v' σ' => TE 7 σ' (fun k => lo ≤ k) v' (more p x s).1 ∧ lu σ' r b T d (more p x s).2 ∧ Gr r σ σ')
  {σ : AW} {s : Sy} (he : E σ) (h : lu σ r b T d s) {lo w c e z : Nat} (hlo : lo ≤ σ.next) {v p : Value} (hv : TE 7 σ (fun k => lo ≤ k) v p) (hw : σ.get w = ⟨1, e, z, ws.map Value.string⟩) (hwr : w ≠ r) (hwn : w < σ.next) :
  C Tryz.prog 228 [.pointer (some ⟨r, 0, none⟩), v, .func (.func g) ⟨fs⟩ ⟨cs⟩, .slice (some ⟨w, 0, none⟩) ws.length c] σ fun v' σ' => TE 7 σ' (fun k => lo ≤ k) v' (dL more ws p s).1 ∧ lu σ' r b T d (dL more ws p s).2 ∧ Gr r σ σ' := by
 have hlr := h.lr
 have hlb := h.lb
 obtain ⟨hv1, l, rfl, hl, ho⟩ := hv
 refine cE4 Tryz.func228 Tryz.ntmps228 Tryz.results228 fun A hz a0 a1 a2 a3 => ?_
 refine kR a0 a1 a2 a3 hl ho ?_
 refine EG (fun m B σ1 => ∃ s1 l1 p1, s1.left.length ≤ m ∧ B.size = 23 ∧ B.get 0 = some (.pointer (some ⟨r, 0, none⟩)) ∧ B.get 2 = some (.func (.func g) ⟨fs⟩ ⟨cs⟩) ∧ B.get 3 = some (.slice (some ⟨w, 0, none⟩) ws.length c) ∧ B.get 5 = some (.pointer (some ⟨σ.next, 0, none⟩)) ∧ B.get 8 = some (.pointer (some ⟨σ.next + 1, 0, none⟩)) ∧ lu σ1 r b T d s1 ∧ Gr r σ σ1 ∧ σ.next + 2 ≤ σ1.next ∧ σ1.get σ.next = ⟨1, 92, 0, l1⟩ ∧ σ1.get (σ.next + 1) = ⟨1, 92, 0, [.int .i64 0, .string ⟨#[]⟩, .bool false, .string ⟨#[]⟩, .slice none 0 0, .slice none 0 0, .slice none 0 0]⟩ ∧ TE 7 σ1 (fun k => lo ≤ k) (.agg ⟨l1⟩) p1 ∧ loopS (xB more ws) m p1 s1 = dL more ws p s) ?_ (m := s.left.length) ⟨s, l, p, Nat.le_refl _, (dD), (aU a0), (aU a2), (aU a3), (dD), (dD), h.kp (((Kp.refl σ).push _).push _), (((Gr.refl r σ).push _).push _), Nat.le_refl _, ?_, ?_, TE.ks ⟨hv1, l, rfl, hl, ho⟩ (((Ks.refl σ).push _).push _), rfl⟩
 ·rintro m B σ1 ⟨s1, l1, p1, hm, hz, b0, b2, b3, b5, b8, h1, g1, nx, gN, gM, t1, hloop⟩
  have hw1 := (g1.get w hwn hwr).trans hw
  obtain ⟨q1, _, e1, hl1, ho1⟩ := t1
  injection e1 with e1
  injection e1 with e1
  subst e1
  refine jy b0 b2 b3 b5 b8 ?_
  refine aj (NY b0 b2 b3 b5 b8) ?_
  refine C.mono (uV h1 hw1 (by omega) hw0) ?_
  rintro _ σ2 ⟨rfl, h2, g2⟩
  have kU := (g2.get σ.next (by omega) (by omega)).trans gN
  have sF := (g2.get (σ.next + 1) (by omega) (by omega)).trans gM
  have nM := g2.next
  have t2 := TE.ks ⟨q1, l1, rfl, hl1, ho1⟩ (g2.ks h1.ez)
  obtain ⟨i1, hi1, hi2, _⟩ := h1.head
  have hpos : 0 < s1.left.length := by rw [hi2, List.length_drop]; have := hi1.li; omega
  obtain ⟨m, rfl⟩ : ∃ k, m = k + 1 := ⟨m - 1, by omega⟩
  cases ho : (aI ws s1).1 with
  | some x =>
   obtain ⟨hx, hlt⟩ := qG hpos ho
   rw [Jf ho] at hloop
   simp only [EX]
   refine aY b0 b2 b3 b5 b8 kU sF hl1 ?_
   refine aj (kC b0 b2 b3 b5 b8 kU sF hl1) ?_
   have g12 := g1.trans g2
   refine C.mono (hf σ2 (aI ws s1).2 lo _ p1 x (hE _ _ he g12) h2 (by omega) t2 hx) ?_
   rintro _ σ3 ⟨⟨t3, l3, rfl, hl3, ho3⟩, h3, g3⟩
   have tq := (g3.get σ.next (by omega) (by omega)).trans kU
   have rU := (g3.get (σ.next + 1) (by omega) (by omega)).trans sF
   have Dl := g3.next
   refine aY b0 b2 b3 b5 b8 tq rU (cJ hl3 (cJ ho3 hl1)) ?_
   refine NG ?_
   simp only [Then, Out, iy]
   refine ⟨trivial, m, Nat.lt_succ_self _, (more p1 x (aI ws s1).2).2, l3, (more p1 x (aI ws s1).2).1, ?_, (dD), (aU b0), (aU b2), (aU b3), (aU b5), (aU b8), h3.ow ((Ow.refl σ.next σ3).set (Nat.le_refl _) _) hlr hlb, (g12.trans g3).ow ((Ow.refl σ.next σ3).set (Nat.le_refl _) _), by rw [au]; omega, by rw [bF], by rw [bG (by omega)]; exact rU, TE.ks ⟨t3, l3, rfl, hl3, ho3⟩ ((Ks.refl σ3).set (.inr (by rw [tq])) _), hloop⟩
   have := hsh p1 x (aI ws s1).2
   omega
  | none =>
   rw [Jg ho] at hloop
   simp only [EX]
   refine aY b0 b2 b3 b5 b8 kU sF (cJ hl1 ho1) ?_
   refine rT3 b8 sF hl1 ?_
   rw [← hloop]
   exact ⟨t2.ks ((Ks.refl σ2).set (.inr (by rw [sF])) _), h2.ow ((Ow.refl σ.next σ2).set (by omega) _) hlr hlb, (g1.trans g2).ow ((Ow.refl σ.next σ2).set (by omega) _)⟩
 ·rw [aC (by simp only [ah]; omega), aA]
 ·exact aA
theorem abg {E : AW → Prop} (hE : Stable r E) {d : Int} {g : Nat} {fs cs : List Value} {m : SM Tr} (hf : Reads E 6 r b T d g (fs ++ cs) m) :
  Reads E 6 r b T d 225 [.pointer (some ⟨r, 0, none⟩), .func (.func g) ⟨fs⟩ ⟨cs⟩] (bH m) := by
 intro σ s he h
 have hlr := h.lr
 have hlb := h.lb
 refine fG Tryz.func225 Tryz.ntmps225 Tryz.results225 fun A hz a0 a1 => ?_
 refine gQ a0 a1 ?_
 refine aj (bP a0 a1) ?_
 refine C.mono (jX (h.kp ((Kp.refl σ).push _)) qh) ?_
 rintro _ σ1 ⟨h1, g1⟩
 have nN := (g1.get σ.next (Nat.lt_succ_self _) (by omega)).trans aA
 have wI := g1.next
 simp only [ah] at wI
 refine gQ a0 a1 ?_
 refine aj (bP a0 a1) ?_
 refine C.mono (hf _ _ (hE _ _ he g1.unpush) h1) ?_
 rintro _ σ2 ⟨⟨t2, l, rfl, hl, ho⟩, h2, g2⟩
 have kU := (g2.get σ.next (by omega) (by omega)).trans nN
 have nM := g2.next
 refine dV a0 a1 hl ho ?_
 refine aj (qx a0 a1 hl ho) ?_
 refine C.mono (jX (h2.ow (((Ow.refl σ.next σ2).push _).set (by omega) _) hlr hlb) Gi) ?_
 rintro _ σ3 ⟨h3, g3⟩
 have tq := (g3.get σ.next (by rw [au, ah]; omega) (by omega)).trans ((bG (by omega)).trans ((aC (by omega)).trans kU))
 have rU := (g3.get σ2.next (by rw [au, ah]; omega) (by omega)).trans bF
 have Dl := g3.next
 simp only [ah, au] at Dl
 refine kR a0 a1 hl ho tq rU ?_
 refine D7 tq hl ?_
 refine aX ((Ow.refl _ _).set (Nat.le_refl _) _) (((g1.unpush.trans g2).ow (((Ow.refl σ.next σ2).push _).set (by omega) _)).trans g3) h3 hlr hlb ((TE.ks ⟨t2, l, rfl, hl, ho⟩ (((((Ks.refl σ2).push _).set (.inl (Nat.le_refl _)) _).trans (g3.ks (by rw [bG (by omega), aC (by omega)]; exact h2.ez))).set (.inr (by rw [kU])) _)).lo (fun k hk => by have := hk; omega))
theorem E5 {E : AW → Prop} (hE : Stable r E) {d : Int} {g : Nat} {fs cs : List Value} {m : SM Tr} (hf : Reads E 10 r b T d g (fs ++ cs) m) :
  Reads E 10 r b T d 162 [.pointer (some ⟨r, 0, none⟩), .func (.func g) ⟨fs⟩ ⟨cs⟩] (bH m) := by
 intro σ s he h
 have hlr := h.lr
 have hlb := h.lb
 refine fG Tryz.func162 Tryz.ntmps162 Tryz.results162 fun A hz a0 a1 => ?_
 refine gQ a0 a1 ?_
 refine aj (bP a0 a1) ?_
 refine C.mono (jX (h.kp ((Kp.refl σ).push _)) qh) ?_
 rintro _ σ1 ⟨h1, g1⟩
 have nN := (g1.get σ.next (Nat.lt_succ_self _) (by omega)).trans aA
 have wI := g1.next
 simp only [ah] at wI
 refine gQ a0 a1 ?_
 refine aj (bP a0 a1) ?_
 refine C.mono (hf _ _ (hE _ _ he g1.unpush) h1) ?_
 rintro _ σ2 ⟨⟨t2, l, rfl, hl, ho⟩, h2, g2⟩
 have kU := (g2.get σ.next (by omega) (by omega)).trans nN
 have nM := g2.next
 refine dV a0 a1 hl ho ?_
 refine aj (qx a0 a1 hl ho) ?_
 refine C.mono (jX (h2.ow (((Ow.refl σ.next σ2).push _).set (by omega) _) hlr hlb) Gi) ?_
 rintro _ σ3 ⟨h3, g3⟩
 have tq := (g3.get σ.next (by rw [au, ah]; omega) (by omega)).trans ((bG (by omega)).trans ((aC (by omega)).trans kU))
 have rU := (g3.get σ2.next (by rw [au, ah]; omega) (by omega)).trans bF
 have Dl := g3.next
 simp only [ah, au] at Dl
 refine kR a0 a1 hl ho tq rU ?_
 refine D7 tq hl ?_
 refine aX ((Ow.refl _ _).set (Nat.le_refl _) _) (((g1.unpush.trans g2).ow (((Ow.refl σ.next σ2).push _).set (by omega) _)).trans g3) h3 hlr hlb ((TE.ks ⟨t2, l, rfl, hl, ho⟩ (((((Ks.refl σ2).push _).set (.inl (Nat.le_refl _)) _).trans (g3.ks (by rw [bG (by omega), aC (by omega)]; exact h2.ez))).set (.inr (by rw [kU])) _)).lo (fun k hk => by have := hk; omega))
theorem Vk {E : AW → Prop} (hE : Stable r E) {d : Int} {g : Nat} {fs cs : List Value} {m : SM Tr} (hf : Reads E 6 r b T d g (fs ++ cs) m) (x : ByteArray) :
  vU E 6 r b T d 216 [.pointer (some ⟨r, 0, none⟩), .string x, .func (.func g) ⟨fs⟩ ⟨cs⟩] (fJ x m) := by
 intro σ s he h
 have hlr := h.lr
 have hlb := h.lb
 refine Ld Tryz.func216 Tryz.ntmps216 Tryz.results216 fun A hz a0 a1 a2 => ?_
 refine dS a0 a1 a2 ?_
 refine aj (lF a0 a1 a2) ?_
 refine C.mono (gV h x) ?_
 rintro _ σ1 ⟨rfl, h1, g1⟩
 have e : fJ x m s = if (aB x s).1 = true then ([(m (aB x s).2).1], (m (aB x s).2).2) else ([], (aB x s).2) := by
  show (if (aB x s).1 = true then (m >>= fun y => pure [y] : SM (List Tr)) else pure []) (aB x s).2 = _
  split <;> rfl
 rw [e]
 cases ht : (aB x s).1 with
 | false =>
  refine dS a0 a1 a2 ?_
  refine dG ?_
  exact ⟨aW _ _ _, h1, g1⟩
 | true =>
  refine dS a0 a1 a2 ?_
  refine aj (lF a0 a1 a2) ?_
  refine C.mono (hf _ _ (hE _ _ he g1) h1) ?_
  rintro _ σ2 ⟨⟨t2, l, rfl, hl, ho⟩, h2, g2⟩
  have wI := g1.next
  have nM := g2.next
  refine jy a0 a1 a2 hl ho ?_
  refine dG ?_
  refine xY ((Ow.refl _ _).push _) (g1.trans g2) h2 hlr hlb (jJ aA (by decide) (Nat.lt_succ_self _) (by omega) (TE.ks ⟨t2, l, rfl, hl, ho⟩ ((Ks.refl σ2).push _) |>.lo (fun k hk => by have := hk; omega)))
theorem abh {E : AW → Prop} (hE : Stable r E) {d : Int} {g : Nat} {fs cs : List Value} {m : SM Tr} (hf : Reads E 7 r b T d g (fs ++ cs) m) (x : ByteArray) :
  vU E 7 r b T d 214 [.pointer (some ⟨r, 0, none⟩), .string x, .func (.func g) ⟨fs⟩ ⟨cs⟩] (fJ x m) := by
 intro σ s he h
 have hlr := h.lr
 have hlb := h.lb
 refine Ld Tryz.func214 Tryz.ntmps214 Tryz.results214 fun A hz a0 a1 a2 => ?_
 refine dS a0 a1 a2 ?_
 refine aj (lF a0 a1 a2) ?_
 refine C.mono (gV h x) ?_
 rintro _ σ1 ⟨rfl, h1, g1⟩
 have e : fJ x m s = if (aB x s).1 = true then ([(m (aB x s).2).1], (m (aB x s).2).2) else ([], (aB x s).2) := by
  show (if (aB x s).1 = true then (m >>= fun y => pure [y] : SM (List Tr)) else pure []) (aB x s).2 = _
  split <;> rfl
 rw [e]
 cases ht : (aB x s).1 with
 | false =>
  refine dS a0 a1 a2 ?_
  refine dG ?_
  exact ⟨aW _ _ _, h1, g1⟩
 | true =>
  refine dS a0 a1 a2 ?_
  refine aj (lF a0 a1 a2) ?_
  refine C.mono (hf _ _ (hE _ _ he g1) h1) ?_
  rintro _ σ2 ⟨⟨t2, l, rfl, hl, ho⟩, h2, g2⟩
  have wI := g1.next
  have nM := g2.next
  refine jy a0 a1 a2 hl ho ?_
  refine dG ?_
  refine xY ((Ow.refl _ _).push _) (g1.trans g2) h2 hlr hlb (jJ aA (by decide) (Nat.lt_succ_self _) (by omega) (TE.ks ⟨t2, l, rfl, hl, ho⟩ ((Ks.refl σ2).push _) |>.lo (fun k hk => by have := hk; omega)))
theorem YK {E : AW → Prop} (hE : Stable r E) {d : Int} {g : Nat} {fs cs : List Value} {m : SM Tr} (hsh : bQ m) (hf : Reads E 6 r b T d g (fs ++ cs) m) (x : ByteArray) :
  vU E 6 r b T d 218 [.pointer (some ⟨r, 0, none⟩), .string x, .func (.func g) ⟨fs⟩ ⟨cs⟩] (jW x m) := by
 intro σ s he h
 have hlr := h.lr
 have hlb := h.lb
 have hfew : s.left.length ≤ 100000 := by obtain ⟨i, h1, h2⟩ := h; rw [h2, List.length_drop]; have := h1.few; omega
 refine Ld Tryz.func218 Tryz.ntmps218 Tryz.results218 fun A hz a0 a1 a2 => ?_
 refine dS a0 a1 a2 ?_
 refine aj (lF a0 a1 a2) ?_
 refine C.mono (hf _ _ he h) ?_
 rintro _ σ1 ⟨⟨t1, l, rfl, hl, ho⟩, h1, g1⟩
 have wI := g1.next
 have hs1 := hsh s
 refine jy a0 a1 a2 hl ho ?_
 refine dB (dI (fun k B σ2 => ∃ s2 ps vs v, s2.left.length ≤ k ∧ B.size = 20 ∧ B.get 0 = some (.pointer (some ⟨r, 0, none⟩)) ∧ B.get 1 = some (.string x) ∧ B.get 2 = some (.func (.func g) ⟨fs⟩ ⟨cs⟩) ∧ B.get 7 = some v ∧ lu σ2 r b T d s2 ∧ Gr r σ σ2 ∧ Grow σ2 σ.next 42 6 v vs ps ∧ vs.length + s2.left.length ≤ s.left.length + 1 ∧ loopS (xC x m) k ps s2 = jW x m s) ?_ (m := (m s).2.left.length) ⟨(m s).2, [(m s).1], [.agg ⟨l⟩], _, Nat.le_refl _, (dD), (aU a0), (aU a1), (aU a2), (dD), h1.kp ((Kp.refl σ1).push _), g1.kp ((Kp.refl σ1).push _), ?_, ?_, rfl⟩)
 ·rintro k B σ2 ⟨s2, ps, vs, v, hk, hz, b0, b1, b2, b7, h2, g2, hG, hcnt, hloop⟩
  refine dV b0 b1 b2 b7 ?_
  refine aj (qx b0 b1 b2 b7) ?_
  refine C.mono (gV h2 x) ?_
  rintro _ σ3 ⟨rfl, h3, g3⟩
  obtain ⟨i2, hi1, hi2, _⟩ := h2.head
  have hpos : 0 < s2.left.length := by rw [hi2, List.length_drop]; have := hi1.li; omega
  have Dl := g3.next
  have nM := g2.next
  obtain ⟨k, rfl⟩ : ∃ j, k = j + 1 := ⟨k - 1, by omega⟩
  have hG3 := hG.gr g3 hlr
  cases ht : (aB x s2).1 with
  | true =>
   have hlt : (aB x s2).2.left.length < s2.left.length := Ji hpos ht
   rw [Jh ht] at hloop
   refine dV b0 b1 b2 b7 ?_
   refine aj (qx b0 b1 b2 b7) ?_
   refine C.mono (hf _ _ (hE _ _ he (g2.trans g3)) h3) ?_
   rintro _ σ4 ⟨⟨t4, l4, rfl, hl4, Na⟩, h4, g4⟩
   have hs4 := hsh (aB x s2).2
   obtain ⟨v', σ', hap, hG', Rl, _⟩ := Ah PU aaf rfl (by decide) hlr (by omega) hG3 g4 ⟨t4, l4, rfl, hl4, Na⟩ (by omega) (by omega)
   refine nH b0 b1 b2 b7 hl4 Na hap ?_
   exact (by refine' ⟨k, Nat.lt_succ_self _, (m (aB x s2).2).2, ps ++ [(m (aB x s2).2).1], vs ++ [.agg ⟨l4⟩], v', by omega, ?_, ?_, ?_, ?_, ?_, h4.ow Rl hlr hlb, ((g2.trans g3).trans g4).ow Rl, hG', by rw [List.length_append, List.length_singleton]; omega, hloop⟩; any_goals (first | exact lF b0 b1 b2 | fail))
  | false =>
   rw [EZ ht] at hloop
   refine dV b0 b1 b2 b7 ?_
   refine iH ?_; simp only [Then, Out, iy, reduceIte, Nat.reduceEqDiff]
   refine dV b0 b1 b2 b7 ?_
   refine dG ?_
   rw [← hloop]
   exact ⟨hG3.rd (by decide), h3, g2.trans g3⟩
 ·refine ⟨σ1.next, 2, 1, 1, rfl, by rw [aA]; simp [aF], .inl ⟨rfl, rfl, rfl⟩, by omega, Nat.lt_succ_self _, nG.one (t1.keep (fun j _ h1 _ => aC (by omega)) (Nat.le_succ _) (fun j hj hlt => ⟨hj, by omega⟩)), fun u hu => by simp only [List.mem_singleton] at hu; subst hu; exact ⟨l, rfl, hl, ho⟩⟩
 ·simp only [List.length_singleton]
  omega
theorem YL {E : AW → Prop} (hE : Stable r E) {d : Int} {g : Nat} {fs cs : List Value} {m : SM Tr} (hsh : bQ m) (hf : Reads E 7 r b T d g (fs ++ cs) m) (x : ByteArray) :
  vU E 7 r b T d 212 [.pointer (some ⟨r, 0, none⟩), .string x, .func (.func g) ⟨fs⟩ ⟨cs⟩] (jW x m) := by
 intro σ s he h
 have hlr := h.lr
 have hlb := h.lb
 have hfew : s.left.length ≤ 100000 := by obtain ⟨i, h1, h2⟩ := h; rw [h2, List.length_drop]; have := h1.few; omega
 refine Ld Tryz.func212 Tryz.ntmps212 Tryz.results212 fun A hz a0 a1 a2 => ?_
 refine dS a0 a1 a2 ?_
 refine aj (lF a0 a1 a2) ?_
 refine C.mono (hf _ _ he h) ?_
 rintro _ σ1 ⟨⟨t1, l, rfl, hl, ho⟩, h1, g1⟩
 have wI := g1.next
 have hs1 := hsh s
 refine jy a0 a1 a2 hl ho ?_
 refine dB (dI (fun k B σ2 => ∃ s2 ps vs v, s2.left.length ≤ k ∧ B.size = 20 ∧ B.get 0 = some (.pointer (some ⟨r, 0, none⟩)) ∧ B.get 1 = some (.string x) ∧ B.get 2 = some (.func (.func g) ⟨fs⟩ ⟨cs⟩) ∧ B.get 7 = some v ∧ lu σ2 r b T d s2 ∧ Gr r σ σ2 ∧ Grow σ2 σ.next 87 7 v vs ps ∧ vs.length + s2.left.length ≤ s.left.length + 1 ∧ loopS (xC x m) k ps s2 = jW x m s) ?_ (m := (m s).2.left.length) ⟨(m s).2, [(m s).1], [.agg ⟨l⟩], _, Nat.le_refl _, (dD), (aU a0), (aU a1), (aU a2), (dD), h1.kp ((Kp.refl σ1).push _), g1.kp ((Kp.refl σ1).push _), ?_, ?_, rfl⟩)
 ·rintro k B σ2 ⟨s2, ps, vs, v, hk, hz, b0, b1, b2, b7, h2, g2, hG, hcnt, hloop⟩
  refine dV b0 b1 b2 b7 ?_
  refine aj (qx b0 b1 b2 b7) ?_
  refine C.mono (gV h2 x) ?_
  rintro _ σ3 ⟨rfl, h3, g3⟩
  obtain ⟨i2, hi1, hi2, _⟩ := h2.head
  have hpos : 0 < s2.left.length := by rw [hi2, List.length_drop]; have := hi1.li; omega
  have Dl := g3.next
  have nM := g2.next
  obtain ⟨k, rfl⟩ : ∃ j, k = j + 1 := ⟨k - 1, by omega⟩
  have hG3 := hG.gr g3 hlr
  cases ht : (aB x s2).1 with
  | true =>
   have hlt : (aB x s2).2.left.length < s2.left.length := Ji hpos ht
   rw [Jh ht] at hloop
   refine dV b0 b1 b2 b7 ?_
   refine aj (qx b0 b1 b2 b7) ?_
   refine C.mono (hf _ _ (hE _ _ he (g2.trans g3)) h3) ?_
   rintro _ σ4 ⟨⟨t4, l4, rfl, hl4, Na⟩, h4, g4⟩
   have hs4 := hsh (aB x s2).2
   obtain ⟨v', σ', hap, hG', Rl, _⟩ := Ah aai acG rfl (by decide) hlr (by omega) hG3 g4 ⟨t4, l4, rfl, hl4, Na⟩ (by omega) (by omega)
   refine nH b0 b1 b2 b7 hl4 Na hap ?_
   exact (by refine' ⟨k, Nat.lt_succ_self _, (m (aB x s2).2).2, ps ++ [(m (aB x s2).2).1], vs ++ [.agg ⟨l4⟩], v', by omega, ?_, ?_, ?_, ?_, ?_, h4.ow Rl hlr hlb, ((g2.trans g3).trans g4).ow Rl, hG', by rw [List.length_append, List.length_singleton]; omega, hloop⟩; any_goals (first | exact lF b0 b1 b2 | fail))
  | false =>
   rw [EZ ht] at hloop
   refine dV b0 b1 b2 b7 ?_
   refine iH ?_; simp only [Then, Out, iy, reduceIte, Nat.reduceEqDiff]
   refine dV b0 b1 b2 b7 ?_
   refine dG ?_
   rw [← hloop]
   exact ⟨hG3.rd (by decide), h3, g2.trans g3⟩
 ·refine ⟨σ1.next, 2, 1, 1, rfl, by rw [aA]; simp [aF], .inl ⟨rfl, rfl, rfl⟩, by omega, Nat.lt_succ_self _, nG.one (t1.keep (fun j _ h1 _ => aC (by omega)) (Nat.le_succ _) (fun j hj hlt => ⟨hj, by omega⟩)), fun u hu => by simp only [List.mem_singleton] at hu; subst hu; exact ⟨l, rfl, hl, ho⟩⟩
 ·simp only [List.length_singleton]
  omega
theorem YM {E : AW → Prop} (hE : Stable r E) {d : Int} {g : Nat} {fs cs : List Value} {m : SM Tr} (hsh : bQ m) (hf : Reads E 7 r b T d g (fs ++ cs) m) (x : ByteArray) :
  vU E 7 r b T d 219 [.pointer (some ⟨r, 0, none⟩), .string x, .func (.func g) ⟨fs⟩ ⟨cs⟩] (jW x m) := by
 intro σ s he h
 have hlr := h.lr
 have hlb := h.lb
 have hfew : s.left.length ≤ 100000 := by obtain ⟨i, h1, h2⟩ := h; rw [h2, List.length_drop]; have := h1.few; omega
 refine Ld Tryz.func219 Tryz.ntmps219 Tryz.results219 fun A hz a0 a1 a2 => ?_
 refine dS a0 a1 a2 ?_
 refine aj (lF a0 a1 a2) ?_
 refine C.mono (hf _ _ he h) ?_
 rintro _ σ1 ⟨⟨t1, l, rfl, hl, ho⟩, h1, g1⟩
 have wI := g1.next
 have hs1 := hsh s
 refine jy a0 a1 a2 hl ho ?_
 refine dB (dI (fun k B σ2 => ∃ s2 ps vs v, s2.left.length ≤ k ∧ B.size = 20 ∧ B.get 0 = some (.pointer (some ⟨r, 0, none⟩)) ∧ B.get 1 = some (.string x) ∧ B.get 2 = some (.func (.func g) ⟨fs⟩ ⟨cs⟩) ∧ B.get 7 = some v ∧ lu σ2 r b T d s2 ∧ Gr r σ σ2 ∧ Grow σ2 σ.next 89 7 v vs ps ∧ vs.length + s2.left.length ≤ s.left.length + 1 ∧ loopS (xC x m) k ps s2 = jW x m s) ?_ (m := (m s).2.left.length) ⟨(m s).2, [(m s).1], [.agg ⟨l⟩], _, Nat.le_refl _, (dD), (aU a0), (aU a1), (aU a2), (dD), h1.kp ((Kp.refl σ1).push _), g1.kp ((Kp.refl σ1).push _), ?_, ?_, rfl⟩)
 ·rintro k B σ2 ⟨s2, ps, vs, v, hk, hz, b0, b1, b2, b7, h2, g2, hG, hcnt, hloop⟩
  refine dV b0 b1 b2 b7 ?_
  refine aj (qx b0 b1 b2 b7) ?_
  refine C.mono (gV h2 x) ?_
  rintro _ σ3 ⟨rfl, h3, g3⟩
  obtain ⟨i2, hi1, hi2, _⟩ := h2.head
  have hpos : 0 < s2.left.length := by rw [hi2, List.length_drop]; have := hi1.li; omega
  have Dl := g3.next
  have nM := g2.next
  obtain ⟨k, rfl⟩ : ∃ j, k = j + 1 := ⟨k - 1, by omega⟩
  have hG3 := hG.gr g3 hlr
  cases ht : (aB x s2).1 with
  | true =>
   have hlt : (aB x s2).2.left.length < s2.left.length := Ji hpos ht
   rw [Jh ht] at hloop
   refine dV b0 b1 b2 b7 ?_
   refine aj (qx b0 b1 b2 b7) ?_
   refine C.mono (hf _ _ (hE _ _ he (g2.trans g3)) h3) ?_
   rintro _ σ4 ⟨⟨t4, l4, rfl, hl4, Na⟩, h4, g4⟩
   have hs4 := hsh (aB x s2).2
   obtain ⟨v', σ', hap, hG', Rl, _⟩ := Ah aak acJ rfl (by decide) hlr (by omega) hG3 g4 ⟨t4, l4, rfl, hl4, Na⟩ (by omega) (by omega)
   refine nH b0 b1 b2 b7 hl4 Na hap ?_
   exact (by refine' ⟨k, Nat.lt_succ_self _, (m (aB x s2).2).2, ps ++ [(m (aB x s2).2).1], vs ++ [.agg ⟨l4⟩], v', by omega, ?_, ?_, ?_, ?_, ?_, h4.ow Rl hlr hlb, ((g2.trans g3).trans g4).ow Rl, hG', by rw [List.length_append, List.length_singleton]; omega, hloop⟩; any_goals (first | exact lF b0 b1 b2 | fail))
  | false =>
   rw [EZ ht] at hloop
   refine dV b0 b1 b2 b7 ?_
   refine iH ?_; simp only [Then, Out, iy, reduceIte, Nat.reduceEqDiff]
   refine dV b0 b1 b2 b7 ?_
   refine dG ?_
   rw [← hloop]
   exact ⟨hG3.rd (by decide), h3, g2.trans g3⟩
 ·refine ⟨σ1.next, 2, 1, 1, rfl, by rw [aA]; simp [aF], .inl ⟨rfl, rfl, rfl⟩, by omega, Nat.lt_succ_self _, nG.one (t1.keep (fun j _ h1 _ => aC (by omega)) (Nat.le_succ _) (fun j hj hlt => ⟨hj, by omega⟩)), fun u hu => by simp only [List.mem_singleton] at hu; subst hu; exact ⟨l, rfl, hl, ho⟩⟩
 ·simp only [List.length_singleton]
  omega
theorem YN {E : AW → Prop} (hE : Stable r E) {d : Int} {g : Nat} {fs cs : List Value} {m : SM (List Tr)} (hf : vU E 6 r b T d g (fs ++ cs) m) :
  vU E 6 r b T d 233 [.pointer (some ⟨r, 0, none⟩), .func (.func g) ⟨fs⟩ ⟨cs⟩] (bH m) := by
 intro σ s he h
 have hlr := h.lr
 have hlb := h.lb
 refine fG Tryz.func233 Tryz.ntmps233 Tryz.results233 fun A hz a0 a1 => ?_
 refine gQ a0 a1 ?_
 refine aj (bP a0 a1) ?_
 refine C.mono (jX h qh) ?_
 rintro _ σ1 ⟨h1, g1⟩
 have wI := g1.next
 refine gQ a0 a1 ?_
 refine aj (bP a0 a1) ?_
 refine C.mono (hf _ _ (hE _ _ he g1) h1) ?_
 rintro v2 σ2 ⟨t2, h2, g2⟩
 have nM := g2.next
 refine gQ a0 a1 ?_
 refine aj (bP a0 a1) ?_
 refine C.mono (jX h2 Gi) ?_
 rintro _ σ3 ⟨h3, g3⟩
 refine gQ a0 a1 ?_
 refine dG ?_
 exact ⟨(t2.ks (g3.ks h2.ez)).keep (fun _ _ _ _ => rfl) (Nat.le_refl _) (fun k hk _ => by have := hk; omega), h3, (g1.trans g2).trans g3⟩
end
section
variable {r b : Nat} {T : List Tk}
theorem cO : Stable r (fun _ => True) := fun _ _ _ _ => trivial
theorem Lh {σ : AW} {lo : Nat} (hlo : lo ≤ σ.next) {l m p q : Value} {x : ByteArray} (h1 : TE 6 σ (fun k => lo ≤ k) l p) (h2 : TE 6 σ (fun k => lo ≤ k) m q) :
  C Tryz.prog 87 [l, .string x, m] σ fun v σ' => TE 6 σ' (fun k => lo ≤ k) v (La p x q) ∧ Kp σ σ' := by
 obtain ⟨t1, l, rfl, hl, ho⟩ := h1
 obtain ⟨t2, m, rfl, hm, hn⟩ := h2
 refine Ld Tryz.func87 Tryz.ntmps87 Tryz.results87 fun A hz a0 a1 a2 => ?_
 refine nH a0 a1 a2 hl ho hm hn ?_
 refine dG ?_
 refine ⟨iM (D6 (e := 42) (z := 1) (dD) (by decide) (by first | omega | (simp only [ah, au]; first | done | omega)) (by first | omega | (simp only [ah, au]; first | done | omega)) (TE.ks ⟨t1, l, rfl, hl, ho⟩ (((((Ks.refl σ).push _).push _).push _).push _ |>.set (.inl (by first | omega | (simp only [ah, au]; first | done | omega))) _)) (TE.ks ⟨t2, m, rfl, hm, hn⟩ (((((Ks.refl σ).push _).push _).push _).push _ |>.set (.inl (by first | omega | (simp only [ah, au]; first | done | omega))) _))) (aW _ _ _), ((((Kp.refl σ).push _).push _).push _).push _ |>.set (by first | omega | (simp only [ah, au]; first | done | omega)) _⟩
theorem Lj {E : AW → Prop} {d : Int} {g : Nat} {fs cs : List Value} {m : SM Tr} (hf : Reads E 6 r b T d g (fs ++ cs) m) (k : Nat) (σ : AW) (s : Sy) (lo : Nat) (v p : Value) (x : ByteArray) (he : E σ ∧ σ.get k = ⟨1, 64, 0, [.func (.func g) ⟨fs⟩ ⟨cs⟩]⟩ ∧ k < σ.next ∧ k ≠ r) (hE : Stable r E) (h : lu σ r b T d s) (hlo : lo ≤ σ.next) (hv : TE 6 σ (fun k => lo ≤ k) v p) :
  C Tryz.prog 86 ([] ++ [v, .string x] ++ [.pointer (some ⟨k, 0, none⟩)]) σ fun v' σ' => TE 6 σ' (fun k => lo ≤ k) v' ((do let y ← m; pure (La p x y) : SM Tr) s).1 ∧ lu σ' r b T d ((do let y ← m; pure (La p x y) : SM Tr) s).2 ∧ Gr r σ σ' := by
 obtain ⟨he, gk, hk, hkr⟩ := he
 have hlr := h.lr
 have hlb := h.lb
 obtain ⟨t1, l, rfl, hl, ho⟩ := hv
 refine Ld Tryz.func86 Tryz.ntmps86 Tryz.results86 fun A hz a0 a1 a2 => ?_
 refine kR a0 a1 a2 gk hl ho ?_
 refine bY mixed (by kernel_rfl) (by kernel_rfl) ?_
 refine gT6 a0 a1 a2 gk hl ho ?_
 refine bD (D8 a0 a1 a2 gk hl ho) ?_
 have g0 : ∀ B1 B2 : fZ, Gr r σ ((σ.push B1).push B2) := fun _ _ => ((Gr.refl r σ).push _).push _
 refine C.mono (hf _ _ (hE _ _ he (g0 _ _)) (h.kp (((Kp.refl σ).push _).push _))) ?_
 rintro _ σ2 ⟨⟨t2, l2, rfl, hl2, ho2⟩, h2, g2⟩
 have nM := g2.next
 simp only [ah] at nM
 have gN := (g2.get σ.next (by first | omega | (simp only [ah, au]; first | done | omega)) (by omega)).trans ((aC (by first | omega | (simp only [ah, au]; first | done | omega))).trans aA)
 have gM := (g2.get (σ.next + 1) (by first | omega | (simp only [ah, au]; first | done | omega)) (by omega)).trans aA
 have t1' := TE.ks ⟨t1, l, rfl, hl, ho⟩ ((((Ks.refl σ).push _).push _).trans (g2.ks (by rw [aC (by first | omega | (simp only [ah, au]; first | done | omega)), aC (by omega)]; exact h.ez)))
 refine bD (D8 a0 a1 a2 gk hl ho) ?_
 refine C.mono (Lh (lo := lo) (by omega) t1' (TE.lo ⟨t2, l2, rfl, hl2, ho2⟩ (fun j hj => by have := hj; simp only [ah] at this; omega))) ?_
 rintro _ σ3 ⟨⟨t3, l3, rfl, hl3, ho3⟩, k3⟩
 have tq := (k3.get σ.next (by omega)).trans gN
 have rU := (k3.get (σ.next + 1) (by omega)).trans gM
 refine XM a0 a1 a2 gk hl ho hl3 (cJ ho3 rU) ?_
 refine oW [(0, 0), (0, 4), (2, 0)] ?_ ?_
 ·(repeat (refine aO (bg rfl rfl rfl rfl rfl (kC a0 a1 a2 gk hl ho hl3 (cJ ho3 gN))) ?_)); exact bn
 refine fQ hl3 ?_
 exact ⟨TE.ks ⟨t3, l3, rfl, hl3, ho3⟩ ((Ks.refl σ3).set (.inr (by rw [rU])) _), (h2.kp k3).ow ((Ow.refl σ.next σ3).set (by omega) _) hlr hlb, (((g0 _ _).trans g2).kp k3).ow ((Ow.refl σ.next σ3).set (by omega) _)⟩
theorem vV {E : AW → Prop} (hE : Stable r E) {d : Int} {g : Nat} {fs cs : List Value} {m : SM Tr} (hsh : bQ m) (hf : Reads E 6 r b T d g (fs ++ cs) m) {ws : List ByteArray} (hw0 : ws.length ≤ 1000) {σ : AW} {s : Sy} (he : E σ) (h : lu σ r b T d s) {w c e z : Nat} (hw : σ.get w = ⟨1, e, z, ws.map Value.string⟩) (hwr : w ≠ r) (hwn : w < σ.next) :
  C Tryz.prog 42 [.pointer (some ⟨r, 0, none⟩), .func (.func g) ⟨fs⟩ ⟨cs⟩, .slice (some ⟨w, 0, none⟩) ws.length c] σ (Post 6 r b T d σ (fP m ws s)) := by
 have hlr := h.lr
 have hlb := h.lb
 refine Ld Tryz.func42 Tryz.ntmps42 Tryz.results42 fun A hz a0 a1 a2 => ?_
 refine dS a0 a1 a2 ?_
 refine aj (lF a0 a1 a2) ?_
 have g0 : ∀ B1 B2 : fZ, Gr r σ ((σ.push B1).push B2) := fun _ _ => ((Gr.refl r σ).push _).push _
 refine C.mono (hf _ _ (hE _ _ he (g0 _ _)) (h.kp (((Kp.refl σ).push _).push _))) ?_
 rintro _ σ2 ⟨⟨t2, l2, rfl, hl2, ho2⟩, h2, g2⟩
 have nM := g2.next
 simp only [ah] at nM
 have gN := (g2.get σ.next (by first | omega | (simp only [ah, au]; first | done | omega)) (by omega)).trans ((aC (by first | omega | (simp only [ah, au]; first | done | omega))).trans aA)
 have gM := (g2.get (σ.next + 1) (by first | omega | (simp only [ah, au]; first | done | omega)) (by omega)).trans aA
 have hw2 := ((g0 _ _).trans g2).get w hwn hwr |>.trans hw
 refine jy a0 a1 a2 hl2 ho2 ?_
 refine aj (NY a0 a1 a2 hl2 ho2) ?_
 refine C.mono (YH (fs := []) (cs := [.pointer (some ⟨σ.next, 0, none⟩)]) (E := fun τ => E τ ∧ τ.get σ.next = ⟨1, 64, 0, [.func (.func g) ⟨fs⟩ ⟨cs⟩]⟩ ∧ σ.next < τ.next ∧ σ.next ≠ r) (fun τ τ' he g => ⟨hE _ _ he.1 g, (g.get _ he.2.2.1 he.2.2.2).trans he.2.1, Nat.lt_of_lt_of_le he.2.2.1 g.next, he.2.2.2⟩) (more := fun p x => do let y ← m; pure (La p x y)) hw0 (fun _ _ => hsh.bind fun _ => .pure _) (fun τ s' lo v p x he h hlo hv _ => Lj hf _ τ s' lo v p x he hE h hlo hv) ⟨hE _ _ he ((g0 _ _).trans g2), gN, by omega, by omega⟩ h2 (lo := σ.next) (by omega) (TE.lo ⟨t2, l2, rfl, hl2, ho2⟩ (fun k hk => by have := hk; simp only [ah] at this; omega)) hw2 hwr (by omega)) ?_
 rintro _ σ3 ⟨⟨t3, l3, rfl, hl3, ho3⟩, h3, g3⟩
 have rU := (g3.get (σ.next + 1) (by omega) (by omega)).trans gM
 refine kR a0 a1 a2 hl3 ho3 rU ?_
 refine fQ hl3 ?_
 exact aX ((Ow.refl _ _).set (by omega) _) (((g0 _ _).trans g2).trans g3) h3 hlr hlb (TE.ks ⟨t3, l3, rfl, hl3, ho3⟩ ((Ks.refl σ3).set (.inr (by rw [rU])) _))
theorem agi {d : Int} {m : SM Tr} (hsh : bQ m) (hf : Reads (fun _ => True) 6 r b T d 43 [.pointer (some ⟨r, 0, none⟩)] m) : Reads (fun _ => True) 6 r b T d 20 [.pointer (some ⟨r, 0, none⟩)] (fP m [NT]) := by
 intro σ s he h
 have hlr := h.lr
 have hlb := h.lb
 refine pK Tryz.func20 Tryz.ntmps20 Tryz.results20 fun A hz a0 => ?_
 refine jR a0 ?_
 refine aj (aU a0) ?_
 refine C.mono (vV (fs := [.pointer (some ⟨r, 0, none⟩)]) (cs := []) cO hsh hf (ws := [NT]) (Nat.le_of_ble_eq_true rfl) trivial (h.kp (((Kp.refl σ).push _).push _)) (e := 9) (z := 1) (dD) (by first | omega | (simp only [ah, au]; first | done | omega)) (by first | omega | (simp only [ah, au]; first | done | omega))) ?_
 rintro _ σ2 ⟨⟨t2, l, rfl, hl, ho⟩, h2, g2⟩
 have nM := g2.next
 simp only [ah] at nM
 have gN := (g2.get σ.next (by first | omega | (simp only [ah, au]; first | done | omega)) (by omega)).trans ((aC (by first | omega | (simp only [ah, au]; first | done | omega))).trans aA)
 refine dV a0 hl ho gN ?_
 refine fQ hl ?_
 exact aX ((Ow.refl _ _).set (Nat.le_refl _) _) g2.unpush.unpush h2 hlr hlb ((TE.ks ⟨t2, l, rfl, hl, ho⟩ ((Ks.refl σ2).set (.inr (by rw [gN])) _)).lo (fun k hk => by have := hk; simp only [ah] at this; omega))
theorem ac3 {d : Int} {m : SM Tr} (hsh : bQ m) (hf : Reads (fun _ => True) 6 r b T d 88 [.pointer (some ⟨r, 0, none⟩)] m) : Reads (fun _ => True) 6 r b T d 43 [.pointer (some ⟨r, 0, none⟩)] (fP m [EN]) := by
 intro σ s he h
 have hlr := h.lr
 have hlb := h.lb
 refine pK Tryz.func43 Tryz.ntmps43 Tryz.results43 fun A hz a0 => ?_
 refine jR a0 ?_
 refine aj (aU a0) ?_
 refine C.mono (vV (fs := [.pointer (some ⟨r, 0, none⟩)]) (cs := []) cO hsh hf (ws := [EN]) (Nat.le_of_ble_eq_true rfl) trivial (h.kp (((Kp.refl σ).push _).push _)) (e := 9) (z := 1) (dD) (by first | omega | (simp only [ah, au]; first | done | omega)) (by first | omega | (simp only [ah, au]; first | done | omega))) ?_
 rintro _ σ2 ⟨⟨t2, l, rfl, hl, ho⟩, h2, g2⟩
 have nM := g2.next
 simp only [ah] at nM
 have gN := (g2.get σ.next (by first | omega | (simp only [ah, au]; first | done | omega)) (by omega)).trans ((aC (by first | omega | (simp only [ah, au]; first | done | omega))).trans aA)
 refine dV a0 hl ho gN ?_
 refine fQ hl ?_
 exact aX ((Ow.refl _ _).set (Nat.le_refl _) _) g2.unpush.unpush h2 hlr hlb ((TE.ks ⟨t2, l, rfl, hl, ho⟩ ((Ks.refl σ2).set (.inr (by rw [gN])) _)).lo (fun k hk => by have := hk; simp only [ah] at this; omega))
theorem ac4 {d : Int} {m : SM Tr} (hsh : bQ m) (hf : Reads (fun _ => True) 6 r b T d 181 [.pointer (some ⟨r, 0, none⟩)] m) : Reads (fun _ => True) 6 r b T d 160 [.pointer (some ⟨r, 0, none⟩)] (fP m [xA, jq, yX]) := by
 intro σ s he h
 have hlr := h.lr
 have hlb := h.lb
 refine pK Tryz.func160 Tryz.ntmps160 Tryz.results160 fun A hz a0 => ?_
 refine jR a0 ?_
 refine aj (aU a0) ?_
 refine C.mono (vV (fs := [.pointer (some ⟨r, 0, none⟩)]) (cs := []) cO hsh hf (ws := [xA, jq, yX]) (Nat.le_of_ble_eq_true rfl) trivial (h.kp (((Kp.refl σ).push _).push _)) (e := 9) (z := 1) (dD) (by first | omega | (simp only [ah, au]; first | done | omega)) (by first | omega | (simp only [ah, au]; first | done | omega))) ?_
 rintro _ σ2 ⟨⟨t2, l, rfl, hl, ho⟩, h2, g2⟩
 have nM := g2.next
 simp only [ah] at nM
 have gN := (g2.get σ.next (by first | omega | (simp only [ah, au]; first | done | omega)) (by omega)).trans ((aC (by first | omega | (simp only [ah, au]; first | done | omega))).trans aA)
 refine dV a0 hl ho gN ?_
 refine fQ hl ?_
 exact aX ((Ow.refl _ _).set (Nat.le_refl _) _) g2.unpush.unpush h2 hlr hlb ((TE.ks ⟨t2, l, rfl, hl, ho⟩ ((Ks.refl σ2).set (.inr (by rw [gN])) _)).lo (fun k hk => by have := hk; simp only [ah] at this; omega))
theorem Ro {d : Int} {m : SM Tr} (hsh : bQ m) (hf : Reads (fun _ => True) 6 r b T d 200 [.pointer (some ⟨r, 0, none⟩)] m) : Reads (fun _ => True) 6 r b T d 181 [.pointer (some ⟨r, 0, none⟩)] (fP m [kF, vN, ER]) := by
 intro σ s he h
 have hlr := h.lr
 have hlb := h.lb
 refine pK Tryz.func181 Tryz.ntmps181 Tryz.results181 fun A hz a0 => ?_
 refine jR a0 ?_
 refine aj (aU a0) ?_
 refine C.mono (vV (fs := [.pointer (some ⟨r, 0, none⟩)]) (cs := []) cO hsh hf (ws := [kF, vN, ER]) (Nat.le_of_ble_eq_true rfl) trivial (h.kp (((Kp.refl σ).push _).push _)) (e := 9) (z := 1) (dD) (by first | omega | (simp only [ah, au]; first | done | omega)) (by first | omega | (simp only [ah, au]; first | done | omega))) ?_
 rintro _ σ2 ⟨⟨t2, l, rfl, hl, ho⟩, h2, g2⟩
 have nM := g2.next
 simp only [ah] at nM
 have gN := (g2.get σ.next (by first | omega | (simp only [ah, au]; first | done | omega)) (by omega)).trans ((aC (by first | omega | (simp only [ah, au]; first | done | omega))).trans aA)
 refine dV a0 hl ho gN ?_
 refine fQ hl ?_
 exact aX ((Ow.refl _ _).set (Nat.le_refl _) _) g2.unpush.unpush h2 hlr hlb ((TE.ks ⟨t2, l, rfl, hl, ho⟩ ((Ks.refl σ2).set (.inr (by rw [gN])) _)).lo (fun k hk => by have := hk; simp only [ah] at this; omega))
structure JO (K : gG) (r b : Nat) (T : List Tk) (d : Int) : Prop where
 or : Reads (fun _ => True) 6 r b T d 217 [.pointer (some ⟨r, 0, none⟩)] K.or
 not : Reads (fun _ => True) 6 r b T d 39 [.pointer (some ⟨r, 0, none⟩), .func (.func 88) ⟨[.pointer (some ⟨r, 0, none⟩)]⟩ ⟨[]⟩] K.not
 unary : Reads (fun _ => True) 6 r b T d 39 [.pointer (some ⟨r, 0, none⟩), .func (.func 200) ⟨[.pointer (some ⟨r, 0, none⟩)]⟩ ⟨[]⟩] K.unary
 parts : Reads (fun _ => True) 10 r b T d 163 [.pointer (some ⟨r, 0, none⟩)] K.parts
 sh : YG K
theorem jK {α : Type} (x : ByteArray) (f g : SM α) (s : Sy) : (aB x >>= fun b => if b = true then f else g) s = if (aB x s).1 = true then f (aB x s).2 else g (aB x s).2 := by
 show (if (aB x s).1 = true then f else g) (aB x s).2 = _
 split <;> rfl
theorem ac5 {K : gG} {d : Int} (hK : JO K r b T d) (hc : Reads (fun _ => True) 6 r b T d 127 [.pointer (some ⟨r, 0, none⟩)] (qR K)) : Reads (fun _ => True) 6 r b T d 88 [.pointer (some ⟨r, 0, none⟩)] (notS K) := by
 intro σ s he h
 have hlr := h.lr
 have hlb := h.lb
 refine pK Tryz.func88 Tryz.ntmps88 Tryz.results88 fun A hz a0 => ?_
 refine jR a0 ?_
 refine aj (aU a0) ?_
 refine C.mono (gV (h.kp ((Kp.refl σ).push _)) iT) ?_
 rintro _ σ1 ⟨rfl, h1, g1⟩
 have wI := g1.next
 simp only [ah] at wI
 have nN := (g1.get σ.next (by first | omega | (simp only [ah, au]; first | done | omega)) (by omega)).trans aA
 have e : notS K s = if (aB iT s).1 = true then (kH 8 0 eB eB [(K.not (aB iT s).2).1] [], (K.not (aB iT s).2).2) else qR K (aB iT s).2 := by
  unfold notS
  rw [jK]
  rfl
 rw [e]
 cases ht : (aB iT s).1 with
 | true =>
  refine jR a0 ?_
  refine aj (aU a0) ?_
  refine C.mono (hK.not _ _ trivial h1) ?_
  rintro _ σ2 ⟨⟨t2, l, rfl, hl, ho⟩, h2, g2⟩
  have nM := g2.next
  have gN := (g2.get σ.next (by omega) (by omega)).trans nN
  refine dV a0 hl ho gN ?_
  refine D7 gN hl ?_
  exact aX (((Ow.refl _ _).push _).set (Nat.le_refl _) _) (g1.unpush.trans g2) h2 hlr hlb (iM (jJ (e := 42) (z := 1) (dD) (by decide) (by first | omega | (simp only [ah, au]; first | done | omega)) (by first | omega | (simp only [ah, au]; first | done | omega)) ((TE.ks ⟨t2, l, rfl, hl, ho⟩ (((Ks.refl σ2).push _).set (.inr (by rw [gN])) _)).lo (fun k hk => by have := hk; omega))) (aW _ _ _))
 | false =>
  refine jR a0 ?_
  refine aj (aU a0) ?_
  refine C.mono (hc _ _ trivial h1) ?_
  rintro _ σ2 ⟨⟨t2, l, rfl, hl, ho⟩, h2, g2⟩
  have nM := g2.next
  have gN := (g2.get σ.next (by omega) (by omega)).trans nN
  refine dV a0 hl ho gN ?_
  refine fQ hl ?_
  exact aX ((Ow.refl _ _).set (Nat.le_refl _) _) (g1.unpush.trans g2) h2 hlr hlb ((TE.ks ⟨t2, l, rfl, hl, ho⟩ ((Ks.refl σ2).set (.inr (by rw [gN])) _)).lo (fun k hk => by have := hk; omega))
theorem YO {K : gG} {d : Int} (hK : JO K r b T d) (hc : Reads (fun _ => True) 6 r b T d 211 [.pointer (some ⟨r, 0, none⟩)] (Hf K)) : Reads (fun _ => True) 6 r b T d 200 [.pointer (some ⟨r, 0, none⟩)] (yZ K) := by
 intro σ s he h
 have hlr := h.lr
 have hlb := h.lb
 refine pK Tryz.func200 Tryz.ntmps200 Tryz.results200 fun A hz a0 => ?_
 refine jR a0 ?_
 refine aj (aU a0) ?_
 refine C.mono (gV (h.kp ((Kp.refl σ).push _)) jq) ?_
 rintro _ σ1 ⟨rfl, h1, g1⟩
 have wI := g1.next
 simp only [ah] at wI
 have nN := (g1.get σ.next (by first | omega | (simp only [ah, au]; first | done | omega)) (by omega)).trans aA
 have e : yZ K s = if (aB jq s).1 = true then (kH 7 0 eB eB [(K.unary (aB jq s).2).1] [], (K.unary (aB jq s).2).2) else Hf K (aB jq s).2 := by
  unfold yZ
  rw [jK]
  rfl
 rw [e]
 cases ht : (aB jq s).1 with
 | true =>
  refine jR a0 ?_
  refine aj (aU a0) ?_
  refine C.mono (hK.unary _ _ trivial h1) ?_
  rintro _ σ2 ⟨⟨t2, l, rfl, hl, ho⟩, h2, g2⟩
  have nM := g2.next
  have gN := (g2.get σ.next (by omega) (by omega)).trans nN
  refine dV a0 hl ho gN ?_
  refine D7 gN hl ?_
  exact aX (((Ow.refl _ _).push _).set (Nat.le_refl _) _) (g1.unpush.trans g2) h2 hlr hlb (iM (jJ (e := 42) (z := 1) (dD) (by decide) (by first | omega | (simp only [ah, au]; first | done | omega)) (by first | omega | (simp only [ah, au]; first | done | omega)) ((TE.ks ⟨t2, l, rfl, hl, ho⟩ (((Ks.refl σ2).push _).set (.inr (by rw [gN])) _)).lo (fun k hk => by have := hk; omega))) (aW _ _ _))
 | false =>
  refine jR a0 ?_
  refine aj (aU a0) ?_
  refine C.mono (hc _ _ trivial h1) ?_
  rintro _ σ2 ⟨⟨t2, l, rfl, hl, ho⟩, h2, g2⟩
  have nM := g2.next
  have gN := (g2.get σ.next (by omega) (by omega)).trans nN
  refine dV a0 hl ho gN ?_
  refine fQ hl ?_
  exact aX ((Ow.refl _ _).set (Nat.le_refl _) _) (g1.unpush.trans g2) h2 hlr hlb ((TE.ks ⟨t2, l, rfl, hl, ho⟩ ((Ks.refl σ2).set (.inr (by rw [gN])) _)).lo (fun k hk => by have := hk; omega))
theorem Rq (σ : AW) (x : ByteArray) : C Tryz.prog 231 [.string x] σ fun v σ' => v = .bool (uU x) ∧ σ' = σ := by
 refine pK Tryz.func231 Tryz.ntmps231 Tryz.results231 fun A hz a0 => ?_
 have e : uU x = (decide (x = ⟨#[99, 111, 117, 110, 116]⟩) || decide (x = ⟨#[115, 117, 109]⟩) || decide (x = ⟨#[109, 105, 110]⟩) || decide (x = ⟨#[109, 97, 120]⟩)) := rfl
 rw [e]
 cases c1 : decide (x = ⟨#[99, 111, 117, 110, 116]⟩) <;> cases c2 : decide (x = ⟨#[115, 117, 109]⟩) <;> cases c3 : decide (x = ⟨#[109, 105, 110]⟩) <;> cases c4 : decide (x = ⟨#[109, 97, 120]⟩)
 all_goals
  refine jy a0 c1 c2 c3 c4 ?_
  refine dG ?_
  exact ⟨by first | rfl | trivial, by first | rfl | trivial⟩
def BO (K : gG) (name : ByteArray) : SM (List Tr) := do
 if name = qF then do
  if ← aB kF then pure [] else do
   let x ← K.or
   pure [x]
 else do
  let x ← K.or
  pure [x]
theorem YP (K : gG) (name : ByteArray) : qQ K name = bH (BO K name) := rfl
theorem Ll {K : gG} {d : Int} (hK : JO K r b T d) (name : ByteArray) (kn kr : Nat) : vU (fun σ => σ.get kn = ⟨1, 9, 0, [.string name]⟩ ∧ σ.get kr = ⟨1, 63, 0, [.pointer (some ⟨r, 0, none⟩)]⟩ ∧ kn < σ.next ∧ kr < σ.next ∧ kn ≠ r ∧ kr ≠ r) 6 r b T d 234 ([] ++ [.pointer (some ⟨kn, 0, none⟩), .pointer (some ⟨kr, 0, none⟩)]) (BO K name) := by
 intro σ s he h
 obtain ⟨gn, gr, l1, l2, n1, n2⟩ := he
 have hlr := h.lr
 have hlb := h.lb
 refine fG Tryz.func234 Tryz.ntmps234 Tryz.results234 fun A hz a0 a1 => ?_
 have fin : ∀ {σ1 : AW} {s1 : Sy}, Gr r σ σ1 → lu σ1 r b T d s1 → C Tryz.prog 217 [.pointer (some ⟨r, 0, none⟩)] σ1 (Post 6 r b T d σ1 (K.or s1)) := fun _ h1 => hK.or _ _ trivial h1
 by_cases hc : name = qF
 ·have c1 : decide (name = ⟨#[99, 111, 117, 110, 116]⟩) = true := by rw [hc]; rfl
  refine jy a0 a1 gn gr c1 ?_
  refine aj (NY a0 a1 gn gr c1) ?_
  refine C.mono (gV h kF) ?_
  rintro _ σ1 ⟨rfl, h1, g1⟩
  have wI := g1.next
  have gr1 := (g1.get kr l2 n2).trans gr
  have e : BO K name s = if (aB kF s).1 = true then ([], (aB kF s).2) else ([(K.or (aB kF s).2).1], (K.or (aB kF s).2).2) := by
   unfold BO
   rw [if_pos hc, jK]
   rfl
  rw [e]
  cases ht : (aB kF s).1 with
  | true =>
   refine dS a0 a1 gr1 ?_
   refine dG ?_
   exact ⟨aW _ _ _, h1, g1⟩
  | false =>
   refine dS a0 a1 gr1 ?_
   refine aj (lF a0 a1 gr1) ?_
   refine C.mono (hK.or _ _ trivial h1) ?_
   rintro _ σ2 ⟨⟨t2, l, rfl, hl, ho⟩, h2, g2⟩
   have nM := g2.next
   refine dS a0 hl ho ?_
   refine fQ hl ?_
   exact xY ((Ow.refl _ _).push _) (g1.trans g2) h2 hlr hlb (jJ (e := 42) (z := 1) aA (by decide) (Nat.lt_succ_self _) (by omega) ((TE.ks ⟨t2, l, rfl, hl, ho⟩ ((Ks.refl σ2).push _)).lo (fun k hk => by have := hk; omega)))
 ·have c1 : decide (name = ⟨#[99, 111, 117, 110, 116]⟩) = false := by simp only [decide_eq_false_iff_not]; exact hc
  refine jy a0 a1 gn gr c1 ?_
  refine aj (NY a0 a1 gn gr c1) ?_
  refine C.mono (hK.or _ _ trivial h) ?_
  rintro _ σ2 ⟨⟨t2, l, rfl, hl, ho⟩, h2, g2⟩
  have nM := g2.next
  have e : BO K name s = ([(K.or s).1], (K.or s).2) := by
   unfold BO
   rw [if_neg hc]
   rfl
  rw [e]
  refine dS a0 hl ho ?_
  refine fQ hl ?_
  exact xY (p := ([(K.or s).1], (K.or s).2)) ((Ow.refl _ _).push _) g2 h2 hlr hlb (jJ (e := 42) (z := 1) aA (by decide) (Nat.lt_succ_self _) (by omega) ((TE.ks ⟨t2, l, rfl, hl, ho⟩ ((Ks.refl σ2).push _)).lo (fun k hk => by have := hk; omega)))
theorem Oa {K : gG} {d : Int} (hK : JO K r b T d) (name : ByteArray) : vU (fun _ => True) 6 r b T d 232 [.pointer (some ⟨r, 0, none⟩), .string name] (qQ K name) := by
 intro σ s he h
 have hlr := h.lr
 have hlb := h.lb
 rw [YP]
 refine fG Tryz.func232 Tryz.ntmps232 Tryz.results232 fun A hz a0 a1 => ?_
 refine gQ a0 a1 ?_
 refine aj (bP a0 a1) ?_
 refine C.mono (YN (fs := []) (cs := [.pointer (some ⟨σ.next + 1, 0, none⟩), .pointer (some ⟨σ.next, 0, none⟩)]) (fun τ τ' he g => ⟨(g.get _ he.2.2.1 he.2.2.2.2.1).trans he.1, (g.get _ he.2.2.2.1 he.2.2.2.2.2).trans he.2.1, Nat.lt_of_lt_of_le he.2.2.1 g.next, Nat.lt_of_lt_of_le he.2.2.2.1 g.next, he.2.2.2.2⟩) (Ll hK name (σ.next + 1) σ.next) _ _ (by refine' ⟨?_, ?_, by first | omega | (simp only [ah, au]; first | done | omega), by first | omega | (simp only [ah, au]; first | done | omega), by omega, by omega⟩; any_goals (first | exact dD | fail)) (h.kp (((Kp.refl σ).push _).push _))) ?_
 rintro v2 σ2 ⟨t2, h2, g2⟩
 refine gQ a0 a1 ?_
 refine dG ?_
 exact ⟨t2.keep (fun _ _ _ _ => rfl) (Nat.le_refl _) (fun k hk _ => by have := hk; simp only [ah] at this; omega), h2, g2.unpush.unpush⟩
theorem tu {α : Type} (x : ByteArray) (f g : SM α) (s : Sy) : (oN x >>= fun b => if b = true then f else g) s = if eF x s = true then f s else g s := by
 show (if eF x s = true then f else g) s = _
 split <;> rfl
theorem Lm {K : gG} {d : Int} (hK : JO K r b T d) : Reads (fun _ => True) 6 r b T d 226 [.pointer (some ⟨r, 0, none⟩)] (rM K) := by
 intro σ s he h
 have hlr := h.lr
 have hlb := h.lb
 refine pK Tryz.func226 Tryz.ntmps226 Tryz.results226 fun A hz a0 => ?_
 refine jR a0 ?_
 refine aj (aU a0) ?_
 refine C.mono (zh (h.kp ((Kp.refl σ).push _)) eX) ?_
 rintro _ σ1 ⟨rfl, k1⟩
 have h1 := (h.kp ((Kp.refl σ).push _)).kp k1
 have wI := k1.next
 simp only [ah] at wI
 have nN := (k1.get σ.next (by first | omega | (simp only [ah, au]; first | done | omega))).trans aA
 have g1 := (k1.gr r).unpush
 have e : rM K s = if eF eX s = true then (kH 14 0 eB eB [] [(K.parts s).1], (K.parts s).2) else K.or s := by
  unfold rM
  rw [tu]
  rfl
 rw [e]
 cases ht : eF eX s with
 | true =>
  refine jR a0 ?_
  refine aj (aU a0) ?_
  refine C.mono (hK.parts _ _ trivial h1) ?_
  rintro _ σ2 ⟨⟨t2, l, rfl, hl, ho⟩, h2, g2⟩
  have nM := g2.next
  have gN := (g2.get σ.next (by omega) (by omega)).trans nN
  refine dV a0 hl ho gN ?_
  refine D7 gN hl ?_
  exact aX (((Ow.refl _ _).push _).set (Nat.le_refl _) _) (g1.trans g2) h2 hlr hlb (iM (aW _ _ _) (jJ (e := 61) (z := 1) (dD) (by decide) (by first | omega | (simp only [ah, au]; first | done | omega)) (by first | omega | (simp only [ah, au]; first | done | omega)) ((TE.ks ⟨t2, l, rfl, hl, ho⟩ (((Ks.refl σ2).push _).set (.inr (by rw [gN])) _)).lo (fun k hk => by have := hk; omega))))
 | false =>
  refine jR a0 ?_
  refine aj (aU a0) ?_
  refine C.mono (hK.or _ _ trivial h1) ?_
  rintro _ σ2 ⟨⟨t2, l, rfl, hl, ho⟩, h2, g2⟩
  have nM := g2.next
  have gN := (g2.get σ.next (by omega) (by omega)).trans nN
  refine dV a0 hl ho gN ?_
  refine fQ hl ?_
  exact aX ((Ow.refl _ _).set (Nat.le_refl _) _) (g1.trans g2) h2 hlr hlb ((TE.ks ⟨t2, l, rfl, hl, ho⟩ ((Ks.refl σ2).set (.inr (by rw [gN])) _)).lo (fun k hk => by have := hk; omega))
end
end Go.Proofs.YthogkmcahnkkoaaGreatDoor
