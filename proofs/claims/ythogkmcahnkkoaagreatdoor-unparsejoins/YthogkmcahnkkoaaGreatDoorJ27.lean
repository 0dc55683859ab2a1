/- The program's writer: items, keys, what is set together, tables. The program's writer: what is asked of what stands within. Which trees package unparse takes for right, in plain words; and trees of bounded size. What is known of a tree that is right. What package unparse asks of lists: whether every member is right. What package unparse asks of names, numbers, marks. -/
import Derived.Test.YthogkmcahnkkoaaGreatDoorJ26
namespace Go.Proofs.YthogkmcahnkkoaaGreatDoor
open Go.RowKit
set_option maxRecDepth 10000
set_option linter.unusedSimpArgs false
set_option linter.unusedVariables false
def IsE (p : Tr) : Prop := ∃ k n s t kids qs, p = kH k n s t kids qs
theorem IsE.sh {p : Tr} (h : IsE p) : ShT 6 p := by obtain ⟨_, _, _, _, _, _, rfl⟩ := h; exact shE
theorem qL {σ : AW} {D : Nat → Prop} {k n : Int} {s t : ByteArray} {kids qs : List Tr} {x : Value} (h : Rd σ D (kH k n s t kids qs) x) : ∃ vk vq, x = .agg ⟨[.int .i64 k, .int .i64 n, .string s, .string t, vk, vq]⟩ ∧ Rd σ D (sl 6 kids) vk ∧ Rd σ D (sl 10 qs) vq := by
 obtain ⟨_, rfl, _, _, rfl, rfl, _, _, rfl, rfl, _, _, rfl, rfl, _, _, rfl, rfl, vk, _, rfl, h1, vq, _, rfl, h2, rfl⟩ := jh.1 h
 exact ⟨_, _, rfl, h1, h2⟩
theorem yI {σ : AW} {D : Nat → Prop} {k n : Int} {s t : ByteArray} {kids qs : List Tr} {vk vq : Value} (h1 : Rd σ D (sl 6 kids) vk) (h2 : Rd σ D (sl 10 qs) vq) : Rd σ D (kH k n s t kids qs) (.agg ⟨[.int .i64 k, .int .i64 n, .string s, .string t, vk, vq]⟩) := (iM h1 h2).1
theorem OL {σ : AW} {D : Nat → Prop} {k n : Int} {s t : ByteArray} {kids qs : List Tr} {y x : Value} (h : Rd σ D (.agg ⟨um (kH k n s t kids qs) ++ [y]⟩) x) : ∃ vk vq v, x = .agg ⟨[.int .i64 k, .int .i64 n, .string s, .string t, vk, vq, v]⟩ ∧ Rd σ D (sl 6 kids) vk ∧ Rd σ D (sl 10 qs) vq ∧ Rd σ D y v := by
 obtain ⟨l, rfl, h0⟩ : ∃ l, x = .agg ⟨l⟩ ∧ nG σ D (um (kH k n s t kids qs) ++ [y]) l := jh.1 h
 change nG σ D [.int .i64 k, .int .i64 n, .string s, .string t, sl 6 kids, sl 10 qs, y] l at h0
 obtain ⟨_, _, rfl, rfl, _, _, rfl, rfl, _, _, rfl, rfl, _, _, rfl, rfl, vk, _, rfl, h1, vq, _, rfl, h2, v, _, rfl, h3, rfl⟩ := h0
 exact ⟨_, _, _, rfl, h1, h2, h3⟩
theorem Zg {b : Nat} {d i : Int} {p : Tr} {nm : ByteArray} {x : Value} {fi : Tr → WM} (hp : IsE p) (hn : nm.size ≤ 70000) (hin : oK b d i fi [p]) :
  Writes (aP b (withName p nm) x) b d i 196 [.pointer (some ⟨b, 0, none⟩), x] (aQ (fi p) (aK [mM, nm])) := by
 intro σ s t td tl hx h
 obtain ⟨k, n, s1, t1, kids, qs, rfl⟩ := hp
 have hlt := h.lt
 obtain ⟨vk, vq, v, rfl, r1, r2, r3⟩ := OL hx
 have hv := jQ.1 r3
 subst hv
 have o1 := ay r1
 have o2 := ay r2
 refine fG Tryz.func196 Tryz.ntmps196 Tryz.results196 fun A hz a0 a1 => ?_
 refine dV a0 a1 o1 o2 ?_
 refine aj (qx a0 a1 o1 o2) ?_
 obtain ⟨τ, hτ, kp, g0, nx⟩ : ∃ τ, τ = σ.push ⟨1, 87, 0, [.int .i64 k, .int .i64 n, .string s1, .string t1, vk, vq, .string nm]⟩ ∧ Kp σ τ ∧ τ.get σ.next = ⟨1, 87, 0, [.int .i64 k, .int .i64 n, .string s1, .string t1, vk, vq, .string nm]⟩ ∧ τ.next = σ.next + 1 := ⟨_, rfl, (Kp.refl σ).push _, aA, rfl⟩
 rw [← hτ]
 refine C.mono (hin _ (List.mem_cons_self ..) _ τ _ _ _ _ (aP.wk (yI r1 r2) (kp.wk b)) (h.kp kp)) ?_
 rintro _ σ1 h1
 have gN := (h1.2.get σ.next (by omega) (by omega) (by rw [g0]; show (87 : Nat) ≠ 5; decide)).trans g0
 refine dS a0 a1 gN ?_
 refine aj (lF a0 a1 gN) ?_
 refine C.mono (mg h1.1 _ _ [mM, nm] (show 2 ≤ 1000 by decide) (fun z hz => ?_)) ?_
 ·simp only [List.mem_cons, List.not_mem_nil, or_false] at hz
  rcases hz with rfl | rfl
  ·decide
  ·exact hn
 rintro _ σ2 h2
 refine iO ?_
 refine gI ?_
 exact (h1.trans h2).kp kp
theorem abI {b : Nat} {d i : Int} {p : Tr} {fl : Bool} {x : Value} {fi : Tr → WM} (hp : IsE p) (hin : oK b d i fi [p]) :
  Writes (aP b (uT p fl) x) b d i 199 [.pointer (some ⟨b, 0, none⟩), x] (aQ (fi p) (if fl then aK [BA] else dW)) := by
 intro σ s t td tl hx h
 obtain ⟨k, n, s1, t1, kids, qs, rfl⟩ := hp
 have hlt := h.lt
 obtain ⟨vk, vq, v, rfl, r1, r2, r3⟩ := OL hx
 have hv := sW.1 r3
 subst hv
 have o1 := ay r1
 have o2 := ay r2
 refine fG Tryz.func199 Tryz.ntmps199 Tryz.results199 fun A hz a0 a1 => ?_
 refine dV a0 a1 o1 o2 ?_
 refine aj (qx a0 a1 o1 o2) ?_
 obtain ⟨τ, hτ, kp, g0, nx⟩ : ∃ τ, τ = σ.push ⟨1, 89, 0, [.int .i64 k, .int .i64 n, .string s1, .string t1, vk, vq, .bool fl]⟩ ∧ Kp σ τ ∧ τ.get σ.next = ⟨1, 89, 0, [.int .i64 k, .int .i64 n, .string s1, .string t1, vk, vq, .bool fl]⟩ ∧ τ.next = σ.next + 1 := ⟨_, rfl, (Kp.refl σ).push _, aA, rfl⟩
 rw [← hτ]
 refine C.mono (hin _ (List.mem_cons_self ..) _ τ _ _ _ _ (aP.wk (yI r1 r2) (kp.wk b)) (h.kp kp)) ?_
 rintro _ σ1 h1
 have gN := (h1.2.get σ.next (by omega) (by omega) (by rw [g0]; show (89 : Nat) ≠ 5; decide)).trans g0
 cases fl with
 | true =>
  refine dS a0 a1 gN ?_
  refine aj (lF a0 a1 gN) ?_
  refine C.mono (cZ h1.1 _ _ BA (by decide)) ?_
  rintro _ σ2 h2
  refine iO ?_
  refine gI ?_
  exact (h1.trans h2).kp kp
 | false =>
  refine dS a0 a1 gN ?_
  refine gI ?_
  exact (h1.trans (Wrote.nil (v := .tuple #[]) h1.1)).kp kp
theorem Md {E : AW → Prop} {b : Nat} {d i : Int} {k : Int} : Writes E b d i 176 [.pointer (some ⟨b, 0, none⟩), .int .i64 k] (uZ k) := by
 intro σ s t td tl _ h
 refine fG Tryz.func176 Tryz.ntmps176 Tryz.results176 fun A hz a0 a1 => ?_
 unfold uZ
 by_cases e1 : k = 2
 ·have c1 : (k == 2) = true := by simp [e1]
  rw [if_pos e1]
  refine dS a0 a1 c1 ?_
  refine aj (bP a0 a1) ?_
  refine C.mono (cZ h _ _ sV (by decide)) ?_
  rintro _ σ1 h1
  refine iO ?_
  refine gI ?_
  exact h1
 have c1 : (k == 2) = false := by simp [e1]
 rw [if_neg e1]
 by_cases e2 : k = 3
 ·have c2 : (k == 3) = true := by simp [e2]
  rw [if_pos e2]
  refine dV a0 a1 c1 c2 ?_
  refine aj (bP a0 a1) ?_
  refine C.mono (mg h _ _ [sV, w_all] (show 2 ≤ 1000 by decide) (by decide)) ?_
  rintro _ σ1 h1
  refine iO ?_
  refine gI ?_
  exact h1
 have c2 : (k == 3) = false := by simp [e2]
 rw [if_neg e2]
 by_cases e3 : k = 4
 ·have c3 : (k == 4) = true := by simp [e3]
  rw [if_pos e3]
  refine jy a0 a1 c1 c2 c3 ?_
  refine aj (bP a0 a1) ?_
  refine C.mono (cZ h _ _ mJ (by decide)) ?_
  rintro _ σ1 h1
  refine iO ?_
  refine gI ?_
  exact h1
 have c3 : (k == 4) = false := by simp [e3]
 rw [if_neg e3]
 by_cases e4 : k = 5
 ·have c4 : (k == 5) = true := by simp [e4]
  rw [if_pos e4]
  refine kR a0 a1 c1 c2 c3 c4 ?_
  refine aj (bP a0 a1) ?_
  refine C.mono (cZ h _ _ iU (by decide)) ?_
  rintro _ σ1 h1
  refine iO ?_
  refine gI ?_
  exact h1
 have c4 : (k == 5) = false := by simp [e4]
 rw [if_neg e4]
 refine kR a0 a1 c1 c2 c3 c4 ?_
 refine gI ?_
 exact Wrote.nil h
theorem box1 {σ σ' : AW} {b e1 z1 : Nat} {c1 : List Value} (hb : b < σ.next) (k : Wk b (σ.push ⟨1, e1, z1, c1⟩) σ') (h1 : e1 ≠ 5) : σ'.get σ.next = ⟨1, e1, z1, c1⟩ ∧ σ.next + 1 ≤ σ'.next :=
 ⟨(k.get σ.next (Nat.lt_succ_self _) (by omega) (by rw [aA]; exact h1)).trans aA, k.next⟩
theorem iP {σ σ' : AW} {b e1 z1 e2 z2 : Nat} {c1 c2 : List Value} (hb : b < σ.next) (k : Wk b ((σ.push ⟨1, e1, z1, c1⟩).push ⟨1, e2, z2, c2⟩) σ') (h1 : e1 ≠ 5) (h2 : e2 ≠ 5) : σ'.get σ.next = ⟨1, e1, z1, c1⟩ ∧ σ'.get (σ.next + 1) = ⟨1, e2, z2, c2⟩ ∧ σ.next + 2 ≤ σ'.next := by
 have g1 : ((σ.push ⟨1, e1, z1, c1⟩).push ⟨1, e2, z2, c2⟩).get σ.next = ⟨1, e1, z1, c1⟩ := (aC (by rw [ah]; omega)).trans aA
 have g2 : ((σ.push ⟨1, e1, z1, c1⟩).push ⟨1, e2, z2, c2⟩).get (σ.next + 1) = ⟨1, e2, z2, c2⟩ := aA
 exact ⟨(k.get σ.next (by rw [ah, ah]; omega) (by omega) (by rw [g1]; exact h1)).trans g1, (k.get (σ.next + 1) (by rw [ah, ah]; omega) (by omega) (by rw [g2]; exact h2)).trans g2, k.next⟩
theorem jl {b n e : Nat} {σ : AW} {ps : List Tr} {v : Value} (h : aP b (sl n ps) v σ) (hsz : iW Tryz.prog e = some n) {i : Nat} {j : Int} (hj : j = (i : Int)) (hi : i < ps.length) (hs : ShT n ps[i]) :
  ∃ bb o q c cs l, v = .slice (some ⟨bb, o, none⟩) ps.length c ∧ (∀ τ, Wk b σ τ → ∀ q, rowOf τ ⟨bb, q, none⟩ = some cs) ∧ bU Tryz.prog e ⟨bb, o, none⟩ ps.length j = some (.pointer (some ⟨bb, q, none⟩)) ∧ (cs.drop q).take n = l ∧ aP b ps[i] (.agg ⟨l⟩) σ ∧ l.length = n ∧ l.all gu = true := by
 obtain ⟨bb, o, c, cs0, x, rfl, hrow, hel, htk, hx, hxl⟩ := zu h hsz hi
 obtain ⟨l, rfl, hl, ho⟩ := eG hs hx
 subst hj
 exact ⟨bb, o, o + i * n, c, cs0, l, rfl, hrow, hel, htk, hx, hl, ho⟩
theorem xJ (d : Nat) (m : Nat → WM) : wC d m = if (d : Int) = 40 then fun t => ([], t, true) else m (d + 1) := by
 unfold wC
 by_cases h : d = 40
 ·rw [if_pos h, if_pos (by omega)]
 ·rw [if_neg h, if_neg (by omega)]
def oL (b : Nat) (d i : Int) (g : Nat) (f : Tr → WM) (ps : List Tr) : Prop := ∀ p ∈ ps, ∀ x, Writes (aP b p x) b d i g [.pointer (some ⟨b, 0, none⟩), x] (f p)
theorem shQ {k : Int} {d : Bool} {n : Int} {items froms wh gr ha or kids : List Tr} : ShT 10 (DL k d n items froms wh gr ha or kids) := ⟨_, rfl, rfl, fun q hq => by
 simp only [List.mem_cons, List.not_mem_nil, or_false] at hq
 rcases hq with rfl | rfl | rfl | rfl | rfl | rfl | rfl | rfl | rfl | rfl
 ·exact .inr (.inl ⟨_, _, rfl⟩)
 ·exact .inl ⟨_, rfl⟩
 ·exact .inr (.inr (.inr ⟨_, _, rfl⟩))
 ·exact .inr (.inr (.inr ⟨_, _, rfl⟩))
 ·exact .inr (.inr (.inr ⟨_, _, rfl⟩))
 ·exact .inr (.inr (.inr ⟨_, _, rfl⟩))
 ·exact .inr (.inr (.inr ⟨_, _, rfl⟩))
 ·exact .inr (.inr (.inr ⟨_, _, rfl⟩))
 ·exact .inr (.inl ⟨_, _, rfl⟩)
 ·exact .inr (.inr (.inr ⟨_, _, rfl⟩))⟩
theorem shF {k : Int} {v : Bool} {t a : ByteArray} {q kids on : List Tr} : ShT 7 (DZ k v t a q kids on) := ⟨_, rfl, rfl, fun q hq => by
 simp only [List.mem_cons, List.not_mem_nil, or_false] at hq
 rcases hq with rfl | rfl | rfl | rfl | rfl | rfl | rfl
 ·exact .inr (.inl ⟨_, _, rfl⟩)
 ·exact .inr (.inr (.inl ⟨_, rfl⟩))
 ·exact .inl ⟨_, rfl⟩
 ·exact .inr (.inr (.inl ⟨_, rfl⟩))
 ·exact .inr (.inr (.inr ⟨_, _, rfl⟩))
 ·exact .inr (.inr (.inr ⟨_, _, rfl⟩))
 ·exact .inr (.inr (.inr ⟨_, _, rfl⟩))⟩
theorem Jw {σ : AW} {D : Nat → Prop} {k : Int} {d : Bool} {n : Int} {items froms wh gr ha or kids : List Tr} {x : Value} (h : Rd σ D (DL k d n items froms wh gr ha or kids) x) : ∃ v1 v2 v3 v4 v5 v6 v7, x = .agg ⟨[.int .i64 k, .bool d, v1, v2, v3, v4, v5, v6, .int .i64 n, v7]⟩ ∧ Rd σ D (sl 7 items) v1 ∧ Rd σ D (sl 7 froms) v2 ∧ Rd σ D (sl 6 wh) v3 ∧ Rd σ D (sl 6 gr) v4 ∧ Rd σ D (sl 6 ha) v5 ∧ Rd σ D (sl 7 or) v6 ∧ Rd σ D (sl 10 kids) v7 := by
 obtain ⟨_, rfl, _, _, rfl, rfl, _, _, rfl, rfl, v1, _, rfl, h1, v2, _, rfl, h2, v3, _, rfl, h3, v4, _, rfl, h4, v5, _, rfl, h5, v6, _, rfl, h6, _, _, rfl, rfl, v7, _, rfl, h7, rfl⟩ := jh.1 h
 exact ⟨_, _, _, _, _, _, _, rfl, h1, h2, h3, h4, h5, h6, h7⟩
theorem FD {σ : AW} {D : Nat → Prop} {k : Int} {v : Bool} {t a : ByteArray} {q kids on : List Tr} {x : Value} (h : Rd σ D (DZ k v t a q kids on) x) : ∃ v1 v2 v3, x = .agg ⟨[.int .i64 k, .string t, .bool v, .string a, v1, v2, v3]⟩ ∧ Rd σ D (sl 10 q) v1 ∧ Rd σ D (sl 7 kids) v2 ∧ Rd σ D (sl 6 on) v3 := by
 obtain ⟨_, rfl, _, _, rfl, rfl, _, _, rfl, rfl, _, _, rfl, rfl, _, _, rfl, rfl, v1, _, rfl, h1, v2, _, rfl, h2, v3, _, rfl, h3, rfl⟩ := jh.1 h
 exact ⟨_, _, _, rfl, h1, h2, h3⟩
end Go.Proofs.YthogkmcahnkkoaaGreatDoor
namespace Go.Proofs.YthogkmcahnkkoaaGreatDoor
set_option linter.unusedVariables false
structure Kd where
 e : Tr → Prop
 q : Tr → Prop
 f : Tr → Prop
def DR (n : Int) : Prop := -9223372036854775808 ≤ n ∧ n ≤ 9223372036854775807
structure Bd where
 b : Nat
 s : Nat
def LL (β : Bd) (K : Tr → Prop) (l : List Tr) : Prop := l.length ≤ β.b ∧ ∀ p ∈ l, K p
def SS (β : Bd) (s : ByteArray) : Prop := s.size ≤ β.s
def KN (β : Bd) (p : Tr) : Prop := ∃ s, p = .string s ∧ SS β s
def KE (β : Bd) (R : Kd) (p : Tr) : Prop := ∃ k n s t kids qs, p = kH k n s t kids qs ∧ DR k ∧ DR n ∧ SS β s ∧ SS β t ∧ LL β R.e kids ∧ LL β R.q qs
def KI (β : Bd) (K : Tr → Prop) (p : Tr) : Prop := ∃ x s, p = withName x s ∧ SS β s ∧ K x
def KK (K : Tr → Prop) (p : Tr) : Prop := ∃ x f, p = uT x f ∧ K x
def KQ (β : Bd) (R : Kd) (p : Tr) : Prop := ∃ k d n items froms wh gr ha or kids, p = DL k d n items froms wh gr ha or kids ∧ DR k ∧ DR n ∧ LL β (KI β R.e) items ∧ LL β R.f froms ∧ LL β R.e wh ∧ LL β R.e gr ∧ LL β R.e ha ∧ LL β (KK R.e) or ∧ LL β R.q kids
def KF (β : Bd) (R : Kd) (p : Tr) : Prop := ∃ k v t a q kids on, p = DZ k v t a q kids on ∧ DR k ∧ SS β t ∧ SS β a ∧ LL β R.q q ∧ LL β R.f kids ∧ LL β R.e on
def bT (β : Bd) : Nat → Kd
 | 0 => ⟨fun _ => False, fun _ => False, fun _ => False⟩
 | n + 1 => ⟨KE β (bT β n), KQ β (bT β n), KF β (bT β n)⟩
def KSt (β : Bd) (R : Kd) (St : Tr → Prop) (p : Tr) : Prop := ∃ k a t names es qs wh body other, p = mkS k a t names es qs wh body other ∧ DR k ∧ DR a ∧ SS β t ∧ LL β (KN β) names ∧ LL β R.e es ∧ LL β R.q qs ∧ LL β R.e wh ∧ LL β St body ∧ LL β St other
def vF (β : Bd) : Nat → Tr → Prop
 | 0 => fun _ => False
 | n + 1 => KSt β (bT β n) (vF β n)
theorem LL.mono {β : Bd} {K L : Tr → Prop} {l : List Tr} (h : LL β K l) (k : ∀ p, K p → L p) : LL β L l := ⟨h.1, fun p hp => k p (h.2 p hp)⟩
structure Wy (R T : Kd) : Prop where
 e : ∀ p, R.e p → T.e p
 q : ∀ p, R.q p → T.q p
 f : ∀ p, R.f p → T.f p
theorem Zh {β : Bd} {K L : Tr → Prop} (k : ∀ p, K p → L p) (p : Tr) : KI β K p → KI β L p := fun ⟨x, s, h1, h2, h3⟩ => ⟨x, s, h1, h2, k _ h3⟩
theorem Zi {K L : Tr → Prop} (k : ∀ p, K p → L p) (p : Tr) : KK K p → KK L p := fun ⟨x, s, h1, h3⟩ => ⟨x, s, h1, k _ h3⟩
theorem Zj {β : Bd} {R T : Kd} (h : Wy R T) : Wy ⟨KE β R, KQ β R, KF β R⟩ ⟨KE β T, KQ β T, KF β T⟩ where
 e := fun p ⟨k, n, s, t, kids, qs, h0, h1, h2, h3, h4, h5, h6⟩ => ⟨k, n, s, t, kids, qs, h0, h1, h2, h3, h4, h5.mono h.e, h6.mono h.q⟩
 q := fun p ⟨k, d, n, items, froms, wh, gr, ha, or, kids, h0, h1, h2, h3, h4, h5, h6, h7, h8, h9⟩ => ⟨k, d, n, items, froms, wh, gr, ha, or, kids, h0, h1, h2, h3.mono (Zh h.e), h4.mono h.f, h5.mono h.e, h6.mono h.e, h7.mono h.e, h8.mono (Zi h.e), h9.mono h.q⟩
 f := fun p ⟨k, v, t, a, q, kids, on, h0, h1, h2, h3, h4, h5, h6⟩ => ⟨k, v, t, a, q, kids, on, h0, h1, h2, h3, h4.mono h.q, h5.mono h.f, h6.mono h.e⟩
theorem Qr (β : Bd) (n : Nat) : Wy (bT β n) (bT β (n + 1)) := by
 induction n with
 | zero => exact ⟨fun _ h => h.elim, fun _ h => h.elim, fun _ h => h.elim⟩
 | succ n ih => exact Zj ih
theorem Me {β : Bd} {m n : Nat} (h : m ≤ n) : Wy (bT β m) (bT β n) := by
 induction h with
 | refl => exact ⟨fun _ h => h, fun _ h => h, fun _ h => h⟩
 | step _ ih => exact ⟨fun p h => (Qr _ _).e p (ih.e p h), fun p h => (Qr _ _).q p (ih.q p h), fun p h => (Qr _ _).f p (ih.f p h)⟩
theorem WA {β : Bd} {R T : Kd} (h : Wy R T) {A B : Tr → Prop} (k : ∀ p, A p → B p) (p : Tr) : KSt β R A p → KSt β T B p :=
 fun ⟨a1, a2, a3, a4, a5, a6, a7, a8, a9, h0, h1, h2, h3, h4, h5, h6, h7, h8, h9⟩ => ⟨a1, a2, a3, a4, a5, a6, a7, a8, a9, h0, h1, h2, h3, h4, h5.mono h.e, h6.mono h.q, h7.mono h.e, h8.mono k, h9.mono k⟩
theorem adH (β : Bd) (n : Nat) : ∀ p, vF β n p → vF β (n + 1) p := by
 induction n with
 | zero => exact fun _ h => h.elim
 | succ n ih => exact WA (Qr β n) ih
theorem MB {β : Bd} {m n : Nat} (h : m ≤ n) (p : Tr) (hp : vF β m p) : vF β n p := by
 induction h with
 | refl => exact hp
 | step _ ih => exact adH _ _ p ih
def b0 : Bd := ⟨1000, 1200⟩
structure Rt where
 e : Tr → Bool
 q : Tr → Bool
 f : Tr → Bool
def abJ (l : List Tk) : Tk := l.headD aa5
def gq (s : ByteArray) : Bool := decide ((dw s).2.2 = 0) && ((abJ (dw s).1).1 == 1) && decide ((abJ (dw s).1).2.1 = s) && !qg s
def MC (n : Int) : Bool := decide (0 ≤ n) && decide (n ≤ 999999999999999999)
def AA (n : Int) : Bool := n == 0 || n == 1
def FH (s : ByteArray) : List ByteArray → Bool
 | [] => false
 | x :: l => decide (s = x) || FH s l
def wJ (s : ByteArray) : Bool := FH s [NT, EN, uS, Gj, Gl, Gm, Gn, Gp, xA, jq, yX, kF, vN, ER]
def MF (s : ByteArray) : Bool := FH s [qF, P6, P7, P8]
def Ce (s : ByteArray) (kids : List Tr) : Nat := if s = qF ∧ kids.length = 0 then 0 else 1
section
variable (T : ByteArray → Bool) (R : Rt)
def jL (ok : Bool) (n : Int) (s t : ByteArray) (nk nq : Nat) (kids qs : List Tr) : Bool :=
 ok && n == 0 && decide (s = eB) && decide (t = eB) && kids.length == nk && qs.length == nq && kids.all R.e && qs.all R.q
def FI (k n : Int) (s t : ByteArray) (kids qs : List Tr) : Bool :=
 if k = 1 then jL R true n s t 0 0 kids qs
 else if k = 2 then jL R (AA n) 0 s t 0 0 kids qs
 else if k = 3 then jL R (MC n) 0 s t 0 0 kids qs
 else if k = 4 then jL R (T s) n eB t 0 0 kids qs
 else if k = 5 then jL R ((decide (t = eB) || gq t) && gq s) n eB eB 0 0 kids qs
 else if k = 6 then jL R (gq s) n eB t 0 0 kids qs
 else if k = 13 then jL R (AA n) 0 s t 1 1 kids qs
 else if k = 9 then jL R (AA n) 0 s t 1 0 kids qs
 else if k = 7 ∨ k = 8 then jL R true n s t 1 0 kids qs
 else if k = 10 then jL R (wJ s) n eB t 2 0 kids qs
 else if k = 11 then jL R true n s t 3 0 kids qs
 else if k = 12 ∨ k = 14 then jL R true n s t 0 1 kids qs
 else if k = 15 then jL R (MF s) n eB t (Ce s kids) 0 kids qs
 else false
def wE (p : Tr) : Bool := gq (fM (cellV p 6)) && R.e (Dp p)
def MG (p : Tr) : Bool := R.e (Dp p)
def kS (n : Nat) (l : List Nat) : Bool := l.all fun x => decide (x ≤ n)
def dY (n : Int) (items froms wh gr ha or kids : List Tr) : Bool :=
 kids.length == 0 && decide (0 < items.length) && kS 1 [froms.length, wh.length, ha.length] && (ha.length == 0 || decide (0 < gr.length)) && (n == -1 || MC n) &&
  items.all (wE R) && froms.all R.f && ([wh, gr, ha].all fun l => l.all R.e) && or.all (MG R)
def rX (k : Int) (d : Bool) (n : Int) (items froms wh gr ha or kids : List Tr) : Bool :=
 if k = 1 then dY R n items froms wh gr ha or kids
 else if k = 2 ∨ k = 3 ∨ k = 4 ∨ k = 5 then kids.length == 2 && n == -1 && !d && kS 0 [items.length, froms.length, wh.length, gr.length, ha.length, or.length] && kids.all R.q
 else false
def wu (p : Tr) : Bool := uY (cellV p 0) == 1 || uY (cellV p 0) == 2
def yJ (k : Int) (v : Bool) (t a : ByteArray) (q kids on : List Tr) : Bool :=
 if k = 1 then gq t && gq a && kS 0 [q.length, kids.length, on.length]
 else if k = 2 then decide (t = eB) && !v && gq a && kS 0 [kids.length, on.length] && q.length == 1 && q.all R.q
 else if k = 3 ∨ k = 4 then decide (t = eB) && !v && decide (a = eB) && q.length == 0 && on.length == 1 && kids.length == 2 && wu (kids.getD 1 zE) && kids.all R.f && ([on].all fun l => l.all R.e)
 else false
def xK (k : Int) (names es wh body other : List Tr) : Option (List Nat) :=
 if k = 1 then some [0, 1, 1, 0, 0, 0, 0]
 else if k = 17 then some [0, 1, 0, 0, 0, 0, 0]
 else if k = 2 then some [0, 0, 1, 0, 0, body.length, other.length]
 else if k = 3 then some [0, 0, 1, 0, 0, body.length, 0]
 else if k = 4 then some [0, max 1 names.length, 0, 1, 0, body.length, 0]
 else if k = 10 then some [0, 0, 0, 0, 0, body.length, other.length]
 else if k = 5 then some [1, 0, 1, 0, 0, 0, 0]
 else if k = 6 then some [1, 0, max 1 es.length, 0, 0, 0, 0]
 else if k = 7 then some [1, 0, 0, 1, 0, 0, 0]
 else if k = 8 then some [1, max 1 names.length, max 1 names.length, 0, min 1 wh.length, 0, 0]
 else if k = 9 then some [1, 0, 0, 0, min 1 wh.length, 0, 0]
 else if k = 12 then some [1, 0, es.length, 0, 0, 0, 0]
 else if k = 11 ∨ k = 13 ∨ k = 14 ∨ k = 15 ∨ k = 16 then some [0, 0, 0, 0, 0, 0, 0]
 else none
def uy (t : ByteArray) (names es qs wh body other : List Tr) : List Nat := [if t = eB then 0 else 1, names.length, es.length, qs.length, wh.length, body.length, other.length]
def oP (St : Tr → Bool) (k : Int) (t : ByteArray) (names es qs wh body other : List Tr) : Bool :=
 decide (xK k names es wh body other = some (uy t names es qs wh body other)) && (decide (t = eB) || gq t) && names.all (fun p => gq (fM p)) && ([es, wh].all fun l => l.all R.e) && qs.all R.q && body.all St && other.all St
end
def eP (T : ByteArray → Bool) : Nat → Rt
 | 0 => ⟨fun _ => false, fun _ => false, fun _ => false⟩
 | n + 1 =>
  {e := fun x => FI T (eP T n) (uY (cellV x 0)) (uY (cellV x 1)) (fM (cellV x 2)) (fM (cellV x 3)) (gU (cellV x 4)) (gU (cellV x 5))
   q := fun x => rX (eP T n) (uY (cellV x 0)) (LV (cellV x 1)) (uY (cellV x 8)) (gU (cellV x 2)) (gU (cellV x 3)) (gU (cellV x 4)) (gU (cellV x 5)) (gU (cellV x 6)) (gU (cellV x 7)) (gU (cellV x 9))
   f := fun x => yJ (eP T n) (uY (cellV x 0)) (LV (cellV x 2)) (fM (cellV x 1)) (fM (cellV x 3)) (gU (cellV x 4)) (gU (cellV x 5)) (gU (cellV x 6)) }
def SK (T : ByteArray → Bool) : Nat → Tr → Bool
 | 0 => fun _ => false
 | n + 1 => fun x => oP (eP T n) (SK T n) (uY (cellV x 0)) (fM (cellV x 2)) (gU (cellV x 3)) (gU (cellV x 4)) (gU (cellV x 5)) (gU (cellV x 6)) (gU (cellV x 7)) (gU (cellV x 8))
theorem SL {R : Rt} {ok : Bool} {n : Int} {s t : ByteArray} {nk nq : Nat} {kids qs : List Tr} (h : jL R ok n s t nk nq kids qs = true) : ok = true ∧ kids.length = nk ∧ qs.length = nq ∧ (∀ p ∈ kids, R.e p = true) ∧ ∀ p ∈ qs, R.q p = true := by
 unfold jL at h
 simp only [Bool.and_eq_true, beq_iff_eq, List.all_eq_true] at h
 obtain ⟨⟨⟨⟨⟨⟨⟨h1, _⟩, _⟩, _⟩, h2⟩, h3⟩, h4⟩, h5⟩ := h
 exact ⟨h1, h2, h3, h4, h5⟩
structure aaA (R : Rt) (k n : Int) (s t : ByteArray) (kids qs : List Tr) : Prop where
 hkids : ∀ p ∈ kids, R.e p = true
 yK : ∀ p ∈ qs, R.q p = true
 lo : 1 ≤ k
 hi : k ≤ 15
 one : k = 7 ∨ k = 8 ∨ k = 9 ∨ k = 13 → kids.length = 1
 two : k = 10 → kids.length = 2
 three : k = 11 → kids.length = 3
 query : k = 12 ∨ k = 13 ∨ k = 14 → qs.length = 1
theorem jZ {R : Rt} {ok : Bool} {k n n' : Int} {s t s' t' : ByteArray} {nk nq : Nat} {kids qs : List Tr} (h : jL R ok n' s' t' nk nq kids qs = true) (lo : 1 ≤ k) (hi : k ≤ 15) (h1 : k = 7 ∨ k = 8 ∨ k = 9 ∨ k = 13 → nk = 1) (h2 : k = 10 → nk = 2) (h3 : k = 11 → nk = 3) (h4 : k = 12 ∨ k = 13 ∨ k = 14 → nq = 1) : aaA R k n s t kids qs := by
 obtain ⟨_, e1, e2, e3, e4⟩ := SL h
 exact ⟨e3, e4, lo, hi, fun h => e1.trans (h1 h), fun h => e1.trans (h2 h), fun h => e1.trans (h3 h), fun h => e2.trans (h4 h)⟩
theorem OM {T : ByteArray → Bool} {R : Rt} {k n : Int} {s t : ByteArray} {kids qs : List Tr} (h : FI T R k n s t kids qs = true) : aaA R k n s t kids qs := by
 unfold FI at h
 by_cases k1 : k = 1
 ·rw [if_pos k1] at h; exact jZ h (by omega) (by omega) (fun h => by omega) (fun h => by omega) (fun h => by omega) (fun h => by omega)
 rw [if_neg k1] at h
 by_cases k2 : k = 2
 ·rw [if_pos k2] at h; exact jZ h (by omega) (by omega) (fun h => by omega) (fun h => by omega) (fun h => by omega) (fun h => by omega)
 rw [if_neg k2] at h
 by_cases k3 : k = 3
 ·rw [if_pos k3] at h; exact jZ h (by omega) (by omega) (fun h => by omega) (fun h => by omega) (fun h => by omega) (fun h => by omega)
 rw [if_neg k3] at h
 by_cases k4 : k = 4
 ·rw [if_pos k4] at h; exact jZ h (by omega) (by omega) (fun h => by omega) (fun h => by omega) (fun h => by omega) (fun h => by omega)
 rw [if_neg k4] at h
 by_cases k5 : k = 5
 ·rw [if_pos k5] at h; exact jZ h (by omega) (by omega) (fun h => by omega) (fun h => by omega) (fun h => by omega) (fun h => by omega)
 rw [if_neg k5] at h
 by_cases k6 : k = 6
 ·rw [if_pos k6] at h; exact jZ h (by omega) (by omega) (fun h => by omega) (fun h => by omega) (fun h => by omega) (fun h => by omega)
 rw [if_neg k6] at h
 by_cases k13 : k = 13
 ·rw [if_pos k13] at h; exact jZ h (by omega) (by omega) (fun h => by omega) (fun h => by omega) (fun h => by omega) (fun h => by omega)
 rw [if_neg k13] at h
 by_cases k9 : k = 9
 ·rw [if_pos k9] at h; exact jZ h (by omega) (by omega) (fun h => by omega) (fun h => by omega) (fun h => by omega) (fun h => by omega)
 rw [if_neg k9] at h
 by_cases k7 : k = 7 ∨ k = 8
 ·rw [if_pos k7] at h; exact jZ h (by omega) (by omega) (fun h => by omega) (fun h => by omega) (fun h => by omega) (fun h => by omega)
 rw [if_neg k7] at h
 by_cases k10 : k = 10
 ·rw [if_pos k10] at h; exact jZ h (by omega) (by omega) (fun h => by omega) (fun h => by omega) (fun h => by omega) (fun h => by omega)
 rw [if_neg k10] at h
 by_cases k11 : k = 11
 ·rw [if_pos k11] at h; exact jZ h (by omega) (by omega) (fun h => by omega) (fun h => by omega) (fun h => by omega) (fun h => by omega)
 rw [if_neg k11] at h
 by_cases k12 : k = 12 ∨ k = 14
 ·rw [if_pos k12] at h; exact jZ h (by omega) (by omega) (fun h => by omega) (fun h => by omega) (fun h => by omega) (fun h => by omega)
 rw [if_neg k12] at h
 by_cases k15 : k = 15
 ·rw [if_pos k15] at h; exact jZ h (by omega) (by omega) (fun h => by omega) (fun h => by omega) (fun h => by omega) (fun h => by omega)
 rw [if_neg k15] at h
 cases h
structure adI (R : Rt) (n : Int) (items froms wh gr ha or kids : List Tr) : Prop where
 agy : ∀ p ∈ items, R.e (Dp p) = true
 agz : ∀ p ∈ froms, R.f p = true
 hwh : ∀ p ∈ wh, R.e p = true
 hgr : ∀ p ∈ gr, R.e p = true
 hha : ∀ p ∈ ha, R.e p = true
 hor : ∀ p ∈ or, R.e (Dp p) = true
theorem Jy {R : Rt} {n : Int} {items froms wh gr ha or kids : List Tr} (h : dY R n items froms wh gr ha or kids = true) : adI R n items froms wh gr ha or kids := by
 unfold dY at h
 simp only [Bool.and_eq_true, List.all_eq_true, List.mem_cons, List.not_mem_nil, or_false, forall_eq_or_imp, forall_eq, wE, MG] at h
 obtain ⟨⟨⟨⟨_, h1⟩, h2⟩, h3, h4, h5⟩, h6⟩ := h
 exact ⟨fun p hp => (h1 p hp).2, h2, h3, h4, h5, h6⟩
theorem Dv {R : Rt} {k : Int} {d : Bool} {n : Int} {items froms wh gr ha or kids : List Tr} (h : rX R k d n items froms wh gr ha or kids = true) : (k = 1 ∧ adI R n items froms wh gr ha or kids) ∨ (k ≠ 1 ∧ kids.length = 2 ∧ ∀ p ∈ kids, R.q p = true) := by
 unfold rX at h
 split at h
 ·rename_i hk
  exact .inl ⟨hk, Jy h⟩
 ·rename_i hk
  split at h
  ·simp only [Bool.and_eq_true, List.all_eq_true, beq_iff_eq] at h
   exact .inr ⟨hk, h.1.1.1.1, h.2⟩
  ·cases h
structure adJ (R : Rt) (k : Int) (q kids on : List Tr) : Prop where
 yK : ∀ p ∈ q, R.q p = true
 hkids : ∀ p ∈ kids, R.f p = true
 hon : ∀ p ∈ on, R.e p = true
 lo : 1 ≤ k
 hi : k ≤ 4
 query : k = 2 → q.length = 1
 two : k = 3 ∨ k = 4 → kids.length = 2
theorem OO {R : Rt} {k : Int} {v : Bool} {t a : ByteArray} {q kids on : List Tr} (h : yJ R k v t a q kids on = true) : adJ R k q kids on := by
 have nil : ∀ {l : List Tr} {n : Nat}, l.length ≤ n → n = 0 → ∀ (P : Tr → Prop), ∀ p ∈ l, P p := fun {l n} h h0 P p hp => by
  cases l with
  | nil => exact absurd hp (by simp)
  | cons x l => simp only [List.length_cons] at h; omega
 unfold yJ at h
 split at h
 ·simp only [Bool.and_eq_true, kS, List.all_eq_true, List.mem_cons, List.not_mem_nil, or_false, forall_eq_or_imp, forall_eq, decide_eq_true_eq] at h
  obtain ⟨_, h1, h2, h3⟩ := h
  refine ⟨nil h1 rfl _, nil h2 rfl _, nil h3 rfl _, by omega, by omega, fun e => by omega, fun e => by omega⟩
 ·split at h
  ·simp only [Bool.and_eq_true, kS, List.all_eq_true, List.mem_cons, List.not_mem_nil, or_false, forall_eq_or_imp, forall_eq, decide_eq_true_eq, beq_iff_eq] at h
   obtain ⟨⟨⟨_, h2, h3⟩, h4⟩, h5⟩ := h
   exact ⟨h5, nil h2 rfl _, nil h3 rfl _, by omega, by omega, fun _ => h4, fun e => by omega⟩
  ·split at h
   ·simp only [Bool.and_eq_true, List.all_eq_true, List.mem_cons, List.not_mem_nil, or_false, forall_eq, beq_iff_eq] at h
    obtain ⟨⟨⟨⟨⟨⟨_, h0⟩, h1⟩, h2⟩, _⟩, h4⟩, h5⟩ := h
    exact ⟨nil (Nat.le_of_eq h0) rfl _, h4, h5, by omega, by omega, fun e => by omega, fun _ => h2⟩
   ·cases h
structure adK (R : Rt) (St : Tr → Bool) (k : Int) (names es qs wh body other : List Tr) : Prop where
 hes : ∀ p ∈ es, R.e p = true
 yK : ∀ p ∈ qs, R.q p = true
 hwh : ∀ p ∈ wh, R.e p = true
 hbody : ∀ p ∈ body, St p = true
 hother : ∀ p ∈ other, St p = true
 lo : 1 ≤ k
 hi : k ≤ 17
 query : k = 4 ∨ k = 7 → qs.length = 1
 pair : k = 1 ∨ k = 8 → names.length = es.length
theorem OQ {R : Rt} {St : Tr → Bool} {k : Int} {t : ByteArray} {names es qs wh body other : List Tr} (h : oP R St k t names es qs wh body other = true) : adK R St k names es qs wh body other := by
 unfold oP at h
 simp only [Bool.and_eq_true, List.all_eq_true, List.mem_cons, List.not_mem_nil, or_false, forall_eq_or_imp, forall_eq, decide_eq_true_eq] at h
 obtain ⟨⟨⟨⟨⟨⟨h0, _⟩, _⟩, h1, h2⟩, h3⟩, h4⟩, h5⟩ := h
 have hw : 1 ≤ k ∧ k ≤ 17 ∧ (k = 4 ∨ k = 7 → qs.length = 1) ∧ (k = 1 ∨ k = 8 → names.length = es.length) := by
  unfold xK uy at h0
  by_cases k1 : k = 1
  ·rw [if_pos k1] at h0; simp only [Option.some.injEq, List.cons.injEq] at h0; refine ⟨by omega, by omega, fun h => ?_, fun h => ?_⟩ <;> omega
  rw [if_neg k1] at h0
  by_cases k17 : k = 17
  ·rw [if_pos k17] at h0; simp only [Option.some.injEq, List.cons.injEq] at h0; refine ⟨by omega, by omega, fun h => ?_, fun h => ?_⟩ <;> omega
  rw [if_neg k17] at h0
  by_cases k2 : k = 2
  ·rw [if_pos k2] at h0; simp only [Option.some.injEq, List.cons.injEq] at h0; refine ⟨by omega, by omega, fun h => ?_, fun h => ?_⟩ <;> omega
  rw [if_neg k2] at h0
  by_cases k3 : k = 3
  ·rw [if_pos k3] at h0; simp only [Option.some.injEq, List.cons.injEq] at h0; refine ⟨by omega, by omega, fun h => ?_, fun h => ?_⟩ <;> omega
  rw [if_neg k3] at h0
  by_cases k4 : k = 4
  ·rw [if_pos k4] at h0; simp only [Option.some.injEq, List.cons.injEq] at h0; refine ⟨by omega, by omega, fun h => ?_, fun h => ?_⟩ <;> omega
  rw [if_neg k4] at h0
  by_cases k10 : k = 10
  ·rw [if_pos k10] at h0; simp only [Option.some.injEq, List.cons.injEq] at h0; refine ⟨by omega, by omega, fun h => ?_, fun h => ?_⟩ <;> omega
  rw [if_neg k10] at h0
  by_cases k5 : k = 5
  ·rw [if_pos k5] at h0; simp only [Option.some.injEq, List.cons.injEq] at h0; refine ⟨by omega, by omega, fun h => ?_, fun h => ?_⟩ <;> omega
  rw [if_neg k5] at h0
  by_cases k6 : k = 6
  ·rw [if_pos k6] at h0; simp only [Option.some.injEq, List.cons.injEq] at h0; refine ⟨by omega, by omega, fun h => ?_, fun h => ?_⟩ <;> omega
  rw [if_neg k6] at h0
  by_cases k7 : k = 7
  ·rw [if_pos k7] at h0; simp only [Option.some.injEq, List.cons.injEq] at h0; refine ⟨by omega, by omega, fun h => ?_, fun h => ?_⟩ <;> omega
  rw [if_neg k7] at h0
  by_cases k8 : k = 8
  ·rw [if_pos k8] at h0; simp only [Option.some.injEq, List.cons.injEq] at h0; refine ⟨by omega, by omega, fun h => ?_, fun h => ?_⟩ <;> omega
  rw [if_neg k8] at h0
  by_cases k9 : k = 9
  ·rw [if_pos k9] at h0; simp only [Option.some.injEq, List.cons.injEq] at h0; refine ⟨by omega, by omega, fun h => ?_, fun h => ?_⟩ <;> omega
  rw [if_neg k9] at h0
  by_cases k12 : k = 12
  ·rw [if_pos k12] at h0; simp only [Option.some.injEq, List.cons.injEq] at h0; refine ⟨by omega, by omega, fun h => ?_, fun h => ?_⟩ <;> omega
  rw [if_neg k12] at h0
  by_cases k11 : k = 11 ∨ k = 13 ∨ k = 14 ∨ k = 15 ∨ k = 16
  ·rw [if_pos k11] at h0; simp only [Option.some.injEq, List.cons.injEq] at h0; refine ⟨by omega, by omega, fun h => ?_, fun h => ?_⟩ <;> omega
  rw [if_neg k11] at h0
  cases h0
 exact ⟨h1, h3, h2, h4, h5, hw.1, hw.2.1, hw.2.2.1, hw.2.2.2⟩
end Go.Proofs.YthogkmcahnkkoaaGreatDoor
namespace Go.Proofs.YthogkmcahnkkoaaGreatDoor
open Go.RowKit
set_option maxRecDepth 10000
set_option linter.unusedSimpArgs false
set_option linter.unusedVariables false
def bV (E : AW → Prop) (g : Nat) (xs : List Value) (r : Bool) : Prop := ∀ σ, E σ → C Tryz.prog g xs σ fun v σ' => v = .bool r ∧ Kp σ σ'
theorem bV.weak {E F : AW → Prop} {g : Nat} {xs : List Value} {r : Bool} (h : bV F g xs r) (k : ∀ σ, E σ → F σ) : bV E g xs r := fun σ he => h σ (k σ he)
def bW (p v : Value) (σ : AW) : Prop := Rd σ (fun _ => True) p v
theorem bW.kp {p v : Value} {σ σ' : AW} (h : bW p v σ) (k : Kp σ σ') : bW p v σ' := Rd.keep (fun j _ hj _ => k.get j hj) k.next (fun _ _ _ => trivial) h
theorem qo {P : Program} {σ : AW} {n e : Nat} {ps : List Value} {v : Value} (h : bW (sl n ps) v σ) (hsz : iW P e = some n) {i : Nat} (hi : i < ps.length) :
  ∃ bb o c cs x, v = .slice (some ⟨bb, o, none⟩) ps.length c ∧ (∀ τ, Kp σ τ → ∀ q, rowOf τ ⟨bb, q, none⟩ = some cs) ∧ bU P e ⟨bb, o, none⟩ ps.length (i : Int) = some (.pointer (some ⟨bb, o + i * n, none⟩)) ∧ (cs.drop (o + i * n)).take n = aF x ∧ bW ps[i] x σ ∧ (aF x).length = n := by
 obtain ⟨l, h1, hs⟩ := oO.1 h
 have hl := h1.length
 rcases hs with ⟨rfl, _⟩ | ⟨bb, o, c, k, e', z, cs, rfl, hb, hk, hz, hlt, hD, hcs, hx⟩
 ·simp at hl; omega
 ·have hi' : i < l.length := by omega
  refine ⟨bb, o, c, cs, l[i], by rw [hl], fun τ kp q => ?_, by rw [vP hsz hi, je], ?_, h1.at hi hi', hx _ (List.getElem_mem hi')⟩
  ·have hg := (kp.get bb hlt).trans hb
   rcases hk with rfl | rfl | rfl
   ·exact G9 hg
   ·exact KD hg
   ·exact UZ hg
  ·have := Jq hx hi'
   rw [← hcs, List.drop_take, List.drop_drop, List.take_take] at this
   have hle : (i + 1) * n ≤ l.length * n := Nat.mul_le_mul_right n hi'
   rw [Nat.add_mul, Nat.one_mul] at hle
   rw [Nat.min_eq_left (by omega)] at this
   exact this
theorem kG {n e : Nat} {σ : AW} {ps : List Tr} {v : Value} (h : bW (sl n ps) v σ) (hsz : iW Tryz.prog e = some n) {i : Nat} {j : Int} (hj : j = (i : Int)) (hi : i < ps.length) (hs : ShT n ps[i]) :
  ∃ bb o q c cs l, v = .slice (some ⟨bb, o, none⟩) ps.length c ∧ (∀ τ, Kp σ τ → ∀ q, rowOf τ ⟨bb, q, none⟩ = some cs) ∧ bU Tryz.prog e ⟨bb, o, none⟩ ps.length j = some (.pointer (some ⟨bb, q, none⟩)) ∧ (cs.drop q).take n = l ∧ bW ps[i] (.agg ⟨l⟩) σ ∧ l.length = n ∧ l.all gu = true := by
 obtain ⟨bb, o, c, cs0, x, rfl, hrow, hel, htk, hx, hxl⟩ := qo h hsz hi
 obtain ⟨l, rfl, hl, ho⟩ := eG hs hx
 subst hj
 exact ⟨bb, o, o + i * n, c, cs0, l, rfl, hrow, hel, htk, hx, hl, ho⟩
theorem oz {ps : List Tr} (R : Tr → Bool) {j : Nat} (h : j < ps.length) (ha : (ps.take j).all R = true) (hr : R ps[j] = true) : (ps.take (j + 1)).all R = true := by
 rw [List.take_add_one, List.getElem?_eq_getElem h, List.all_append, ha]
 simp [hr]
theorem qM {ps : List Tr} (R : Tr → Bool) {j : Nat} (h : j < ps.length) (hr : R ps[j] = false) : ps.all R = false := by
 by_cases c : ps.all R = true
 ·rw [List.all_eq_true] at c
  have := c _ (List.getElem_mem h)
  rw [hr] at this
  cases this
 ·exact Bool.eq_false_iff.2 c
theorem MH {ps : List Tr} {R : Tr → Bool} {v : Value} {g : Nat} {fs cs : List Value} (hlen : ps.length ≤ 4611686018427387904) (hs : ∀ p ∈ ps, ShT 6 p) (hf : ∀ p ∈ ps, ∀ x, bV (bW p x) g (fs ++ [x] ++ cs) (R p)) :
  bV (bW (sl 6 ps) v) 90 [v, .func (.func g) ⟨fs⟩ ⟨cs⟩] (ps.all R) := by
 intro σ hv
 have l1 : ∀ τ, fF Tryz.prog τ 39 v = some (.int .i64 ps.length) := fun τ => by obtain ⟨a, c, rfl⟩ := aG hv; exact Df τ a _ c
 refine fG Tryz.func90 Tryz.ntmps90 Tryz.results90 fun A hz a0 a1 => ?_
 refine dS a0 a1 l1 ?_
 refine dB (dI (fun m B σ1 => ∃ j, j ≤ ps.length ∧ m = ps.length - j ∧ B.size = 18 ∧ B.get 1 = some (.func (.func g) ⟨fs⟩ ⟨cs⟩) ∧ B.get 7 = some v ∧ B.get 8 = some (.int .i64 (ps.length : Int)) ∧ B.get 9 = some (.int .i64 (j : Int)) ∧ Kp σ σ1 ∧ (ps.take j).all R = true) ?_ (m := ps.length) (by refine' ⟨0, Nat.zero_le _, rfl, ?_, ?_, ?_, ?_, ?_, Kp.refl σ, rfl⟩; any_goals (first | exact aU a1 | fail)))
 rintro m B σ1 ⟨j, hj, rfl, hz, b1, b7, b8, b9, k1, hall⟩
 by_cases hlt : j < ps.length
 ·have c1 : decide ((j : Int) < (ps.length : Int)) = true := by simp [hlt]
  have hv1 := bW.kp hv k1
  obtain ⟨bb, o, c, cs0, x, rfl, hrow, hel, htk, hx, hxl⟩ := qo hv1 oM hlt
  have hp := List.getElem_mem hlt
  have hr1 := hrow _ (Kp.refl σ1)
  have hadd : aT .add (.int .i64 (j : Int)) (.int .i64 1) = some (.int .i64 ((j + 1 : Nat) : Int)) := by rw [aH (by omega) (by omega)]; rfl
  obtain ⟨l, rfl, hl, ho⟩ := eG (hs _ hp) hx
  simp only [aF] at htk hxl
  refine iC hr1 b1 b7 b8 b9 c1 hel htk (cJ hl ho) ?_
  refine aj (aU b1) ?_
  refine C.mono (hf _ hp _ _ (bW.kp hx (((Kp.refl σ1).push _).set (Nat.le_refl _) _))) ?_
  rintro _ σ2 ⟨rfl, k2⟩
  cases hR : R ps[j] with
  | true =>
   refine jy b1 b7 b8 b9 hadd ?_
   exact (by refine' ⟨ps.length - (j + 1), by omega, j + 1, hlt, rfl, ?_, ?_, ?_, ?_, ?_, k1.trans (((((Kp.refl σ1).push _).set (Nat.le_refl _) _)).trans k2), oz R hlt hall hR⟩; any_goals (first | exact lF b1 b7 b8 | fail))
  | false =>
   refine dV b1 b7 b8 b9 ?_
   refine dG ?_
   exact ⟨by rw [qM R hlt hR], k1.trans (((((Kp.refl σ1).push _).set (Nat.le_refl _) _)).trans k2)⟩
 ·have c1 : decide ((j : Int) < (ps.length : Int)) = false := by simp [hlt]
  rw [List.take_of_length_le (by omega)] at hall
  refine jy b1 b7 b8 b9 c1 ?_
  refine iH ?_; simp only [Then, Out, iy, reduceIte, Nat.reduceEqDiff]
  refine iO ?_
  refine dG ?_
  exact ⟨by rw [hall], k1⟩
theorem ql {ps : List Tr} {R : Tr → Bool} {v : Value} {g : Nat} {fs cs : List Value} (hlen : ps.length ≤ 4611686018427387904) (hs : ∀ p ∈ ps, ShT 10 p) (hf : ∀ p ∈ ps, ∀ x, bV (bW p x) g (fs ++ [x] ++ cs) (R p)) :
  bV (bW (sl 10 ps) v) 52 [v, .func (.func g) ⟨fs⟩ ⟨cs⟩] (ps.all R) := by
 intro σ hv
 have l1 : ∀ τ, fF Tryz.prog τ 40 v = some (.int .i64 ps.length) := fun τ => by obtain ⟨a, c, rfl⟩ := aG hv; exact He τ a _ c
 refine fG Tryz.func52 Tryz.ntmps52 Tryz.results52 fun A hz a0 a1 => ?_
 refine dS a0 a1 l1 ?_
 refine dB (dI (fun m B σ1 => ∃ j, j ≤ ps.length ∧ m = ps.length - j ∧ B.size = 18 ∧ B.get 1 = some (.func (.func g) ⟨fs⟩ ⟨cs⟩) ∧ B.get 7 = some v ∧ B.get 8 = some (.int .i64 (ps.length : Int)) ∧ B.get 9 = some (.int .i64 (j : Int)) ∧ Kp σ σ1 ∧ (ps.take j).all R = true) ?_ (m := ps.length) (by refine' ⟨0, Nat.zero_le _, rfl, ?_, ?_, ?_, ?_, ?_, Kp.refl σ, rfl⟩; any_goals (first | exact aU a1 | fail)))
 rintro m B σ1 ⟨j, hj, rfl, hz, b1, b7, b8, b9, k1, hall⟩
 by_cases hlt : j < ps.length
 ·have c1 : decide ((j : Int) < (ps.length : Int)) = true := by simp [hlt]
  have hv1 := bW.kp hv k1
  obtain ⟨bb, o, c, cs0, x, rfl, hrow, hel, htk, hx, hxl⟩ := qo hv1 rE hlt
  have hp := List.getElem_mem hlt
  have hr1 := hrow _ (Kp.refl σ1)
  have hadd : aT .add (.int .i64 (j : Int)) (.int .i64 1) = some (.int .i64 ((j + 1 : Nat) : Int)) := by rw [aH (by omega) (by omega)]; rfl
  obtain ⟨l, rfl, hl, ho⟩ := eG (hs _ hp) hx
  simp only [aF] at htk hxl
  refine iC hr1 b1 b7 b8 b9 c1 hel htk (cJ hl ho) ?_
  refine aj (aU b1) ?_
  refine C.mono (hf _ hp _ _ (bW.kp hx (((Kp.refl σ1).push _).set (Nat.le_refl _) _))) ?_
  rintro _ σ2 ⟨rfl, k2⟩
  cases hR : R ps[j] with
  | true =>
   refine jy b1 b7 b8 b9 hadd ?_
   exact (by refine' ⟨ps.length - (j + 1), by omega, j + 1, hlt, rfl, ?_, ?_, ?_, ?_, ?_, k1.trans (((((Kp.refl σ1).push _).set (Nat.le_refl _) _)).trans k2), oz R hlt hall hR⟩; any_goals (first | exact lF b1 b7 b8 | fail))
  | false =>
   refine dV b1 b7 b8 b9 ?_
   refine dG ?_
   exact ⟨by rw [qM R hlt hR], k1.trans (((((Kp.refl σ1).push _).set (Nat.le_refl _) _)).trans k2)⟩
 ·have c1 : decide ((j : Int) < (ps.length : Int)) = false := by simp [hlt]
  rw [List.take_of_length_le (by omega)] at hall
  refine jy b1 b7 b8 b9 c1 ?_
  refine iH ?_; simp only [Then, Out, iy, reduceIte, Nat.reduceEqDiff]
  refine iO ?_
  refine dG ?_
  exact ⟨by rw [hall], k1⟩
theorem MI {ps : List Tr} {R : Tr → Bool} {v : Value} {g : Nat} {fs cs : List Value} (hlen : ps.length ≤ 4611686018427387904) (hs : ∀ p ∈ ps, ∃ s, p = .string s) (hf : ∀ p ∈ ps, ∀ x, bV (bW p x) g (fs ++ [x] ++ cs) (R p)) :
  bV (bW (sl 1 ps) v) 68 [v, .func (.func g) ⟨fs⟩ ⟨cs⟩] (ps.all R) := by
 intro σ hv
 have l1 : ∀ τ, fF Tryz.prog τ 38 v = some (.int .i64 ps.length) := fun τ => by obtain ⟨a, c, rfl⟩ := aG hv; exact KL τ a _ c
 refine fG Tryz.func68 Tryz.ntmps68 Tryz.results68 fun A hz a0 a1 => ?_
 refine dS a0 a1 l1 ?_
 refine dB (dI (fun m B σ1 => ∃ j, j ≤ ps.length ∧ m = ps.length - j ∧ B.size = 18 ∧ B.get 1 = some (.func (.func g) ⟨fs⟩ ⟨cs⟩) ∧ B.get 7 = some v ∧ B.get 8 = some (.int .i64 (ps.length : Int)) ∧ B.get 9 = some (.int .i64 (j : Int)) ∧ Kp σ σ1 ∧ (ps.take j).all R = true) ?_ (m := ps.length) (by refine' ⟨0, Nat.zero_le _, rfl, ?_, ?_, ?_, ?_, ?_, Kp.refl σ, rfl⟩; any_goals (first | exact aU a1 | fail)))
 rintro m B σ1 ⟨j, hj, rfl, hz, b1, b7, b8, b9, k1, hall⟩
 by_cases hlt : j < ps.length
 ·have c1 : decide ((j : Int) < (ps.length : Int)) = true := by simp [hlt]
  have hv1 := bW.kp hv k1
  obtain ⟨bb, o, c, cs0, x, rfl, hrow, hel, htk, hx, hxl⟩ := qo hv1 Bq hlt
  have hp := List.getElem_mem hlt
  have hr1 := hrow _ (Kp.refl σ1)
  have hadd : aT .add (.int .i64 (j : Int)) (.int .i64 1) = some (.int .i64 ((j + 1 : Nat) : Int)) := by rw [aH (by omega) (by omega)]; rfl
  obtain ⟨y, hy⟩ := hs _ hp
  have hx0 : x = .string y := by rw [hy] at hx; exact jQ.1 hx
  subst hx0
  simp only [aF] at htk
  have hcs : cs0[o + j]? = some (.string y) := by
   have : ((cs0.drop (o + j * 1)).take 1)[0]? = some (.string y) := by rw [htk]; rfl
   simpa [List.getElem?_take, List.getElem?_drop] using this
  rw [Nat.mul_one] at hel
  refine aa9 hr1 b1 b7 b8 b9 c1 hel hcs ?_
  refine aj (aU b1) ?_
  refine C.mono (hf _ hp _ σ1 hx) ?_
  rintro _ σ2 ⟨rfl, k2⟩
  cases hR : R ps[j] with
  | true =>
   refine jy b1 b7 b8 b9 hadd ?_
   exact (by refine' ⟨ps.length - (j + 1), by omega, j + 1, hlt, rfl, ?_, ?_, ?_, ?_, ?_, k1.trans k2, oz R hlt hall hR⟩; any_goals (first | exact lF b1 b7 b8 | fail))
  | false =>
   refine dV b1 b7 b8 b9 ?_
   refine dG ?_
   exact ⟨by rw [qM R hlt hR], k1.trans k2⟩
 ·have c1 : decide ((j : Int) < (ps.length : Int)) = false := by simp [hlt]
  rw [List.take_of_length_le (by omega)] at hall
  refine jy b1 b7 b8 b9 c1 ?_
  refine iH ?_; simp only [Then, Out, iy, reduceIte, Nat.reduceEqDiff]
  refine iO ?_
  refine dG ?_
  exact ⟨by rw [hall], k1⟩
theorem pU (s : ByteArray) (hs : s.size ≤ 1000000) : bV (fun _ => True) 47 [.string s] (gq s) := by
 intro σ _
 refine pK Tryz.func47 Tryz.ntmps47 Tryz.results47 fun A hz a0 => ?_
 refine jR a0 ?_
 refine aj (aU a0) ?_
 refine C.mono (VO σ s hs) ?_
 rintro _ _ (⟨h0, rfl, rfl⟩ | ⟨h0, rfl, rfl⟩)
 ·have c0 : ((dw s).2.2 == 0) = false := by simp [h0]
  refine gQ a0 c0 ?_
  refine dG ?_
  exact ⟨by simp [gq, h0], Kp.refl _⟩
 ·have kp : Kp σ (σ.push ⟨2, 100, 4, jS (dw s).1⟩) := (Kp.refl σ).push _
  obtain ⟨tk, rest, hl⟩ : ∃ tk rest, (dw s).1 = tk :: rest := by
   obtain ⟨⟨T, e, hT⟩, _⟩ := zo s h0
   cases T with
   | nil => exact ⟨_, _, hT⟩
   | cons a T => exact ⟨_, _, hT⟩
  have c0 : ((dw s).2.2 == 0) = true := by simp [h0]
  have he : bU Tryz.prog 100 ⟨σ.next, 0, none⟩ (dw s).1.length (0 : Int) = some (.pointer (some ⟨σ.next, 0, none⟩)) :=
   (vP (P := Tryz.prog) (a := ⟨σ.next, 0, none⟩) ug (j := 0) (len := (dw s).1.length) (by rw [hl]; exact Nat.succ_pos _)).trans rfl
  have hrow : ∀ q, rowOf (σ.push ⟨2, 100, 4, jS (dw s).1⟩) ⟨σ.next, q, none⟩ = some (.int .i64 tk.1 :: .string tk.2.1 :: .int .i64 tk.2.2.1 :: .int .i64 tk.2.2.2 :: jS rest) := fun q => KD (by rw [aA, hl]; rfl)
  have e0 : abJ (dw s).1 = tk := by rw [hl]; rfl
  cases h1 : (tk.1 == 1) with
  | false =>
   refine agh hrow a0 c0 he h1 ?_
   refine dG ?_
   exact ⟨by simp [gq, h0, e0, h1], kp⟩
  | true =>
   cases h2 : decide (tk.2.1 = s) with
   | false =>
    refine acZ hrow a0 c0 he h1 h2 ?_
    refine dG ?_
    exact ⟨by simp [gq, h0, e0, h1, h2], kp⟩
   | true =>
    refine acZ hrow a0 c0 he h1 h2 ?_
    refine aj (aU a0) ?_
    refine C.mono (Ot _ s) ?_
    rintro _ _ ⟨rfl, rfl⟩
    refine iO ?_
    refine dG ?_
    exact ⟨by simp [gq, h0, e0, h1, h2], kp⟩
theorem Jz (n : Int) : bV (fun _ => True) 44 [.int .i64 n] (AA n) := by
 intro σ _
 refine pK Tryz.func44 Tryz.ntmps44 Tryz.results44 fun A hz a0 => ?_
 cases h1 : (n == 0) with
 | true =>
  refine gQ a0 h1 ?_
  refine dG ?_
  exact ⟨by simp [AA, h1], Kp.refl σ⟩
 | false =>
  refine gQ a0 h1 ?_
  refine dG ?_
  exact ⟨by simp [AA, h1], Kp.refl σ⟩
theorem OT (n : Int) : bV (fun _ => True) 45 [.int .i64 n] (MC n) := by
 intro σ _
 refine pK Tryz.func45 Tryz.ntmps45 Tryz.results45 fun A hz a0 => ?_
 cases h1 : decide (0 ≤ n) with
 | true =>
  refine gQ a0 h1 ?_
  refine dG ?_
  exact ⟨by simp [MC, h1], Kp.refl σ⟩
 | false =>
  refine gQ a0 h1 ?_
  refine dG ?_
  exact ⟨by simp [MC, h1], Kp.refl σ⟩
end Go.Proofs.YthogkmcahnkkoaaGreatDoor
