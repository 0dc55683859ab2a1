/- A text in brackets: its tokens, between brackets. A text behind another, a newline between: its tokens behind the other's. Two scripts of statements alone, one behind the other. Places of statements: no further than the text goes. Slices that are appended to slices; statements whose places are greater. A Builder at the head of a block of the reckoner's: copyCheck, WriteString, String, Len. -/
import Derived.Test.YthogkmcahnkkoaaGreatDoorJ23
import Derived.Test.YthogkmcahnkkoaaGreatDoorJ21
import Derived.Test.YthogkmcahnkkoaaGreatDoorJ22
namespace Go.Proofs.YthogkmcahnkkoaaGreatDoor
def Sub {α : Type} (m : SM α) : Prop := ∀ σ, ∀ t ∈ (m σ).2.left, t ∈ σ.left
theorem Sub.bind {α β : Type} {m : SM α} {k : α → SM β} (h : Sub m) (hk : ∀ a, Sub (k a)) : Sub (m >>= k) := fun σ t ht => h σ t (hk _ _ t ht)
theorem Sub.pure {α : Type} (a : α) : Sub (Pure.pure a : SM α) := fun _ _ h => h
theorem Sub.head : Sub wB := fun _ _ h => h
theorem Sub.sees (x : ByteArray) : Sub (oN x) := fun _ _ h => h
theorem Sub.refuse (e : Int) : Sub (bK e) := by
 intro σ
 unfold bK
 simp only
 split
 ·exact fun t ht => List.mem_of_mem_drop ht
 ·exact fun _ h => h
theorem Sub.take (x : ByteArray) : Sub (aB x) := by
 intro σ
 unfold aB
 split
 ·exact fun t ht => List.mem_of_mem_tail ht
 ·exact fun _ h => h
theorem Sub.takeKind (k : Int) : Sub (aV k) := by
 intro σ
 unfold aV
 split
 ·exact fun t ht => List.mem_of_mem_tail ht
 ·exact fun _ h => h
theorem Sub.takeAny (l : List ByteArray) : Sub (aI l) := by
 induction l with
 | nil => exact fun _ _ h => h
 | cons x l ih =>
  intro σ
  unfold aI
  split
  ·exact fun t ht => List.mem_of_mem_tail ht
  ·exact ih σ
theorem Sub.ite {α : Type} {c : Prop} [Decidable c] {m n : SM α} (h : Sub m) (h' : Sub n) : Sub (if c then m else n) := by
 split
 ·exact h
 ·exact h'
theorem Sub.want (x : ByteArray) : Sub (dA x) := (Sub.take x).bind fun _ => .ite (.pure _) (.refuse _)
theorem Sub.name : Sub bZ := Sub.head.bind fun _ => .ite ((Sub.refuse _).bind fun _ => .pure _) ((Sub.takeKind _).bind fun _ => .ite (.pure _) ((Sub.refuse _).bind fun _ => .pure _))
theorem Sub.number : Sub lK := Sub.head.bind fun _ => (Sub.takeKind _).bind fun _ => .ite (.pure _) ((Sub.refuse _).bind fun _ => .pure _)
theorem Sub.loop {α : Type} {s : α → SM (Option α)} (h : ∀ a, Sub (s a)) : ∀ (f : Nat) (x : α), Sub (loopS s f x)
 | 0, x => .pure x
 | f + 1, x => (h x).bind fun o => by
  cases o with
  | none => exact .pure x
  | some y => exact Sub.loop h f y
theorem Sub.while {α : Type} {s : α → SM (Option α)} (h : ∀ a, Sub (s a)) (x : α) : Sub (rJ s x) := fun σ => Sub.loop h σ.left.length x σ
theorem Sub.fromLeft {m : Tr → ByteArray → SM Tr} (h : ∀ a b, Sub (m a b)) (l : List ByteArray) (x : Tr) : Sub (dL m l x) :=
 Sub.while (fun a => (Sub.takeAny l).bind fun o => by
  cases o with
  | none => exact .pure _
  | some y => exact (h a y).bind fun _ => .pure _) x
theorem Sub.each {α : Type} {r : SM α} (h : Sub r) (x : ByteArray) (l : List α) : Sub (Di x r l) :=
 Sub.while (fun _ => (Sub.take x).bind fun _ => .ite (h.bind fun _ => .pure _) (.pure _)) l
theorem Sub.list {α : Type} {r : SM α} (h : Sub r) (x : ByteArray) : Sub (jW x r) := h.bind fun _ => h.each x _
theorem Sub.behind {α : Type} {r : SM α} (h : Sub r) (x : ByteArray) : Sub (fJ x r) := (Sub.take x).bind fun _ => .ite (h.bind fun _ => .pure _) (.pure _)
theorem Sub.inBrackets {α : Type} {r : SM α} (h : Sub r) : Sub (bH r) := (Sub.want _).bind fun _ => h.bind fun _ => (Sub.want _).bind fun _ => .pure _
theorem Sub.listInBrackets {α : Type} {r : SM α} (h : Sub r) : Sub (jF r) := ((Sub.sees _).bind fun _ => .ite (.pure _) (h.list _)).inBrackets
structure adF (K : gG) : Prop where
 or : Sub K.or
 not : Sub K.not
 unary : Sub K.unary
 parts : Sub K.parts
 block : Sub K.block
section
variable {K : gG} (h : adF K)
include h
omit h in
theorem Sub.operands {r : SM Tr} (hr : Sub r) (l : List ByteArray) : Sub (fP r l) := hr.bind fun _ => .fromLeft (fun _ _ => hr.bind fun _ => .pure _) _ _
end
theorem Sub.tooDeep {α : Type} (z : α) : Sub (Go.Proofs.YthogkmcahnkkoaaGreatDoor.tooDeep z) := (Sub.refuse 9).bind fun _ => .pure z
def plS (B : Int) : Nat → Tr → Prop
 | 0, _ => False
 | n + 1, x => ∃ k a s nm es qs wh b c, x = mkS k a s nm es qs wh b c ∧ 0 ≤ a ∧ a ≤ B ∧ (∀ y ∈ b, plS B n y) ∧ ∀ y ∈ c, plS B n y
def Yp {α : Type} (B : Int) (m : SM α) (P : α → Prop) : Prop := ∀ σ, (∀ t ∈ σ.left, 0 ≤ t.2.2.2 ∧ t.2.2.2 ≤ B) → P (m σ).1
section
variable {B : Int}
theorem Yp.bind {α β : Type} {P : α → Prop} {Q : β → Prop} {m : SM α} {k : α → SM β} (h : Yp B m P) (hs : Sub m) (hk : ∀ a, P a → Yp B (k a) Q) : Yp B (m >>= k) Q := fun σ hσ => hk _ (h σ hσ) _ (fun t ht => hσ t (hs σ t ht))
theorem Yp.any {α β : Type} {Q : β → Prop} {m : SM α} {k : α → SM β} (hs : Sub m) (hk : ∀ a, Yp B (k a) Q) : Yp B (m >>= k) Q := fun σ hσ => hk _ _ (fun t ht => hσ t (hs σ t ht))
theorem Yp.pure {α : Type} {P : α → Prop} {a : α} (h : P a) : Yp B (Pure.pure a : SM α) P := fun _ _ => h
theorem Yp.ite {α : Type} {P : α → Prop} {c : Prop} [Decidable c] {m n : SM α} (h : Yp B m P) (h' : Yp B n P) : Yp B (if c then m else n) P := by
 split
 ·exact h
 ·exact h'
theorem Yp.loop {α : Type} {P : α → Prop} {s : α → SM (Option α)} (hs : ∀ a, Sub (s a)) (h : ∀ a, P a → Yp B (s a) (fun o => ∀ b, o = some b → P b)) : ∀ (f : Nat) (x : α), P x → Yp B (loopS s f x) P
 | 0, x, hx => .pure hx
 | f + 1, x, hx => (h x hx).bind (hs x) fun o ho => by
  cases o with
  | none => exact .pure hx
  | some y => exact Yp.loop hs h f y (ho y rfl)
variable {K : gG} (h : adF K)
include h
variable {n : Nat} (hB : Yp B K.block fun l => ∀ y ∈ l, plS B n y)
include hB
end
end Go.Proofs.YthogkmcahnkkoaaGreatDoor
namespace Go.Proofs.YthogkmcahnkkoaaGreatDoor
open Go.RowKit
set_option maxRecDepth 10000
set_option linter.unusedSimpArgs false
set_option linter.unusedVariables false
def aax (σ : AW) (N : Nat) (D : Nat → Prop) (e n : Nat) (v : Value) (vs ps : List Value) : Prop := (vs = [] ∧ ps = [] ∧ v = .slice none 0 0) ∨ ∃ B c k z, v = .slice (some ⟨B, 0, none⟩) vs.length c ∧ σ.get B = ⟨k, e, z, vs.flatMap aF⟩ ∧ ((k = 1 ∧ c = 2 * vs.length ∧ z = 1) ∨ (k = 2 ∧ c = 1 ∧ z = n)) ∧ N ≤ B ∧ B < σ.next ∧ nG σ (fun j => D j ∨ (N ≤ j ∧ j ≠ B)) ps vs ∧ ∀ v ∈ vs, Sh n v
theorem aax.rd {σ : AW} {N e n : Nat} {D : Nat → Prop} {v : Value} {vs ps : List Value} (h : aax σ N D e n v vs ps) (hn : n ≠ 0) : Rd σ (fun k => D k ∨ N ≤ k) (sl n ps) v := by
 rcases h with ⟨rfl, rfl, rfl⟩ | ⟨B, c, k, z, rfl, h2, h3, h4, h5, h6, h7⟩
 ·exact aW _ _ _
 refine oO.2 ⟨vs, h6.keep (fun _ _ _ _ => rfl) (Nat.le_refl _) (fun k hk _ => hk.imp id (·.1)), .inr ⟨B, 0, c, k, e, z, _, rfl, h2, h3.imp (·.1) (.inl ·.1), ?_, h5, .inr h4, ?_, fun u hu => (h7 u hu).len⟩⟩
 ·rcases h3 with ⟨_, _, rfl⟩ | ⟨_, _, rfl⟩
  ·decide
  ·exact hn
 ·rw [List.drop_zero, List.take_of_length_le (by rw [Ag h7]; exact Nat.le_refl _)]
theorem VY {P : Program} {σ : AW} {D : Nat → Prop} {n t e : Nat} {v : Value} {ps : List Value} (hu : P.underlying t = some (.slice e)) (h : Rd σ D (sl n ps) v) (ho : ∀ p ∈ ps, ∀ x, Rd σ D p x → (aF x).all gu = true) :
  ∃ vs, yQ P σ n t v = some (ps.length, vs.flatMap aF) ∧ nG σ D ps vs ∧ (∀ u ∈ vs, (aF u).length = n) ∧ (vs.flatMap aF).all gu = true ∧ (vs.flatMap aF).length = ps.length * n := by
 obtain ⟨vs, h1, hs⟩ := oO.1 h
 have hlen := h1.length
 have hone : (vs.flatMap aF).all gu = true := by
  clear hs hlen h
  induction ps generalizing vs with
  | nil => rw [h1]; rfl
  | cons p ps ih =>
   obtain ⟨x, l', rfl, h2, h3⟩ := h1
   rw [List.flatMap_cons, List.all_append, ho p (List.mem_cons_self ..) x h2, ih (fun q hq => ho q (List.mem_cons_of_mem _ hq)) l' h3]
   rfl
 rcases hs with ⟨rfl, a, c, rfl⟩ | ⟨b, o, c, k, e', z, cs, rfl, hb, hk, hz, hlt, hD, hcs, hx⟩
 ·refine ⟨[], ?_, h1, fun u hu => absurd hu (by simp), rfl, ?_⟩
  ·rw [← hlen]
   cases a with
   | none => simp only [yQ, hu]; rfl
   | some a =>
    simp only [yQ, hu]
    cases rowOf σ a with
    | none => rfl
    | some cs => simp
  ·rw [← hlen]
   simp
 ·have hfl : (vs.flatMap aF).length = vs.length * n := by
   clear hcs h1 hone hlen h
   induction vs with
   | nil => simp
   | cons u vs ih => rw [List.flatMap_cons, List.length_append, hx u (List.mem_cons_self ..), ih (fun w hw => hx w (List.mem_cons_of_mem _ hw)), List.length_cons, Nat.add_mul, Nat.one_mul, Nat.add_comm]
  have hrow : rowOf σ ⟨b, o, none⟩ = some cs := by
   rcases hk with rfl | rfl | rfl
   ·exact G9 hb
   ·exact KD hb
   ·exact UZ hb
  refine ⟨vs, ?_, h1, hx, hone, by rw [hfl, hlen]⟩
  rw [hlen] at hcs hfl
  simp only [yQ, hu, hrow, hlen, hcs, hfl, hone, and_self, if_true]
def Dst (σ : AW) (e n : Nat) (v : Value) (B len : Nat) (cells : List Value) : Prop := ∃ c, v = .slice (some ⟨B, 0, none⟩) len c ∧ cells.length = len * n ∧ B < σ.next ∧ ((len = 0 ∧ c = 0 ∧ σ.get B = ⟨1, e, 1, cells⟩) ∨ (c = 1 ∧ σ.get B = ⟨2, e, n, cells⟩))
theorem Qp {P : Program} {σ : AW} {t e n PO m B len : Nat} {zv v x : Value} {news cells : List Value} (hu : P.underlying t = some (.slice e)) (AZ : (P.info? e).map (fun i => (i.zero, i.size, i.bytes)) = some (some zv, n, PO)) (hz : (aF zv).length = n) (hn : 0 < n)
  (hd : Dst σ e n v B len cells) (hsrc : yQ P σ n t x = some (m, news)) (hm : news.length = m * n) (hb : (2 * (len + m) + 768) * PO ≤ 281474976710656) (hlen : len + m ≤ 1000000000) :
  ∃ v' B' σ', ig P σ t t v x = some (v', σ') ∧ Dst σ' e n v' B' (len + m) (cells ++ news) ∧ (B' = B ∨ σ.next ≤ B') ∧ σ.next ≤ σ'.next ∧ ∀ j, j < σ.next → j ≠ B → σ'.get j = σ.get j := by
 cases hi : P.info? e with
 | none => rw [hi] at AZ; cases AZ
 | some i =>
  rw [hi] at AZ
  simp only [Option.map_some, Option.some.injEq, Prod.mk.injEq] at AZ
  obtain ⟨h1, h2, h3⟩ := AZ
  have hgr : ∀ (τ : AW) (cs : List Value) (k : Nat), 0 < k → k = len + m → sS τ e i k cs = some (.slice (some ⟨τ.next, 0, none⟩) k 1, τ.push ⟨2, e, n, cs⟩) := fun τ cs k hk he => by
   subst he
   simp only [sS, h1, h2, h3, hz]
   rw [if_pos ⟨trivial, hk, hb, hlen⟩]
  obtain ⟨c, rfl, hcl, hB, hd⟩ := hd
  rcases hd with ⟨rfl, rfl, hg⟩ | ⟨rfl, hg⟩
  ·have hce : cells = [] := List.eq_nil_of_length_eq_zero (by rw [hcl, Nat.zero_mul])
   subst hce
   by_cases h0 : m = 0
   ·subst h0
    have hne : news = [] := List.eq_nil_of_length_eq_zero (by rw [hm, Nat.zero_mul])
    subst hne
    refine ⟨.slice (some ⟨B, 0, none⟩) 0 0, B, σ.set B ⟨1, e, 1, []⟩, ?_, ⟨0, rfl, by simp, hB, .inl ⟨rfl, rfl, bF⟩⟩, .inl rfl, Nat.le_refl _, fun j _ hj => bG hj⟩
    simp only [ig, hu, hi, h2, hsrc, rowOf, hg]
    simp
   ·refine ⟨_, σ.next, _, ?_, ⟨1, rfl, by rw [List.nil_append, hm, Nat.zero_add], Nat.lt_succ_self _, .inr ⟨rfl, aA⟩⟩, .inr (Nat.le_refl _), Nat.le_succ _, fun j hj _ => aC (by omega)⟩
    simp only [ig, hu, hi, h2, hsrc, rowOf, hg]
    simp only [show (0 % 2 = 0) from rfl, if_true, show ¬ (0 + m ≤ 0 / 2) by omega, if_false, Nat.zero_mul, List.take_zero, List.length_nil, List.nil_append]
    rw [hgr _ _ _ (by omega) rfl]
  ·by_cases h0 : m = 0
   ·subst h0
    have hne : news = [] := List.eq_nil_of_length_eq_zero (by rw [hm, Nat.zero_mul])
    subst hne
    refine ⟨.slice (some ⟨B, 0, none⟩) len 1, B, σ, ?_, ⟨1, rfl, by simp [hcl], hB, .inr ⟨rfl, by rw [List.append_nil]; exact hg⟩⟩, .inl rfl, Nat.le_refl _, fun j _ hj => rfl⟩
    simp only [ig, hu, hi, h2, hsrc, rowOf, hg, hcl]
    simp only [show ¬ (1 % 2 = 0) by decide, if_false, show (1 = 1 ∧ 0 = 0 ∧ True ∧ 0 < n) from ⟨rfl, rfl, trivial, hn⟩, and_self, if_true]
   ·have hnx : (σ.set B eu).next = σ.next := rfl
    refine ⟨_, σ.next, _, ?_, ⟨1, rfl, by rw [List.length_append, hcl, hm, Nat.add_mul], by rw [ah, hnx]; exact Nat.lt_succ_self _, .inr ⟨rfl, Ja hnx.symm⟩⟩, .inr (Nat.le_refl _), by rw [ah, hnx]; exact Nat.le_succ _, fun j hj hjB => (aC (by rw [hnx]; omega)).trans (bG hjB)⟩
    simp only [ig, hu, hi, h2, hsrc, rowOf, hg, hcl]
    simp only [show ¬ (1 % 2 = 0) by decide, if_false, show (1 = 1 ∧ 0 = 0 ∧ True ∧ 0 < n) from ⟨rfl, rfl, trivial, hn⟩, and_self, if_true, h0]
    rw [hgr _ _ _ (by omega) rfl]
    rfl
theorem Dst.rd {σ : AW} {D : Nat → Prop} {e n B len : Nat} {v : Value} {cells : List Value} {vs ps : List Value} (h : Dst σ e n v B len cells) (hn : n ≠ 0) (hc : cells = vs.flatMap aF) (hl : vs.length = len) (hr : nG σ D ps vs) (hx : ∀ u ∈ vs, (aF u).length = n) (hD : D B) : Rd σ D (sl n ps) v := by
 obtain ⟨c, rfl, hcl, hB, hd⟩ := h
 refine oO.2 ⟨vs, hr, .inr ?_⟩
 rcases hd with ⟨h0, rfl, hg⟩ | ⟨rfl, hg⟩
 ·exact ⟨B, 0, 0, 1, e, 1, cells, by rw [hl], hg, .inl rfl, by decide, hB, hD, by rw [hl, List.drop_zero, List.take_of_length_le (Nat.le_of_eq hcl), hc], hx⟩
 ·exact ⟨B, 0, 1, 2, e, n, cells, by rw [hl], hg, .inr (.inl rfl), hn, hB, hD, by rw [hl, List.drop_zero, List.take_of_length_le (Nat.le_of_eq hcl), hc], hx⟩
theorem SB {ρ : Rn} {σ : AW} {w w' : World} (h : Rel ρ σ w) {k : Nat} (hk : σ.live k) (hw : ∀ i, i ≠ (ρ k).1 → w'.heap[i]? = w.heap[i]?) (hsz : w'.heap.size = w.heap.size)
  (ho : w'.os = w.os) (ht : w'.tape = w.tape) (hu : w'.output = w.output) : Step ρ σ w ρ (σ.set k eu) w' := by
 have hg : ∀ j, (σ.set k eu).get j = if j = k then eu else σ.get j := fun j => AW.get_set ..
 have hl : ∀ j, (σ.set k eu).live j → σ.live j ∧ j ≠ k := fun j hj => by
  unfold AW.live at *; rw [hg] at hj
  by_cases e : j = k
  ·rw [if_pos e] at hj; exact absurd rfl hj.1.1
  ·rw [if_neg e] at hj; exact ⟨hj, e⟩
 have hd : ∀ j, σ.dom j → (σ.set k eu).dom j := fun j hj => ⟨hj.1, by
  rw [hg]
  by_cases e : j = k
  ·rw [if_pos e]; decide
  ·rw [if_neg e]; exact hj.2⟩
 have h5 : ∀ j, ((σ.set k eu).get j).kind = 5 → (σ.set k eu).get j = σ.get j := fun j hj => by
  rw [hg] at hj ⊢
  by_cases e : j = k
  ·rw [if_pos e] at hj; cases hj
  ·rw [if_neg e]
 refine ⟨⟨fun j hj => ?_, fun j hj => h.lt j (hl j hj).1, fun i j hi hj => h.inj i j (hl i hi).1 (hl j hj).1, fun j hj v hv => ?_, fun j hj => ?_, h.glob.next (Nat.le_of_eq hsz.symm) (fun j hj => .inr ⟨j, (hl j hj).1, rfl⟩) (fun i hi hn => hw i (fun e => hn k hk e.symm)), h.ro.next (fun j hj => h.ro.1 j (hl j hj).1) h5 (fun _ _ => rfl) hd (Nat.le_refl _) (Nat.le_of_eq hsz.symm) (fun j hj => .inr ⟨j, (hl j hj).1, rfl⟩) (fun i hi hn => hw i (fun e => hn k hk e.symm))⟩, fun _ _ => rfl, Nat.le_refl _, fun j hj => ?_, fun j hj => .inr ⟨j, (hl j hj).1, rfl⟩, fun i hi hn => hw i (fun e => hn k hk e.symm), ho, ht, hu, Nat.le_of_eq hsz.symm, h5⟩
 ·obtain ⟨h1, h2⟩ := hl j hj
  rw [hg, if_neg h2]
  exact (h.blk j h1).keep (hw _ (fun e2 => h2 (h.inj j k h1 hk e2))) (h.sc j h1) (fun _ _ => rfl)
 ·obtain ⟨h1, h2⟩ := hl j hj
  rw [hg, if_neg h2] at hv
  exact (h.sc j h1 v hv).mono hd
 ·rw [hg]
  by_cases e : j = k
  ·rw [if_pos e]; rfl
  ·rw [if_neg e]; exact h.fit j hj
 ·rw [hg]
  by_cases e : j = k
  ·subst e; rw [if_pos rfl]; exact ⟨fun x => absurd x (by simp [eu]), fun x => absurd x hk.2⟩
  ·rw [if_neg e]
def Au (B : fZ) : Prop := B.elem ≠ 5 ∨ ∃ c ∈ B.cells, ∀ m, c ≠ .int .u8 m
theorem not_safe {s : ByteArray} : ¬ Au ⟨2, 5, 1, byteCells s⟩ := by
 rintro (h | ⟨c, hc, hn⟩)
 ·exact h rfl
 ·unfold byteCells at hc
  obtain ⟨x, _, e⟩ := List.mem_map.1 hc
  exact hn _ e.symm
def Bl (σ : AW) (b E : Nat) (rest : List Value) (s : ByteArray) : Prop := b < σ.next ∧ ∃ a v, σ.get b = ⟨1, E, 0, a :: v :: rest⟩ ∧ (a = .pointer none ∨ a = .pointer (some ⟨b, 0, none⟩)) ∧
 ((s.size = 0 ∧ v = .slice none 0 0) ∨ ∃ g, s.size ≠ 0 ∧ g ≠ b ∧ g < σ.next ∧ v = .slice (some ⟨g, 0, none⟩) s.size 1 ∧ σ.get g = ⟨2, 5, 1, byteCells s⟩)
theorem Js {ρ : Rn} {σ : AW} {w : World} (hR : Rel ρ σ w) {b E z : Nat} {cs : List Value} (h : σ.get b = ⟨1, E, z, cs⟩) : σ.live b ∧ (ρ b).3 = 0 ∧ w.heap[(ρ b).1]? = some (.cells (cs.map (ren ρ)).toArray E (0, 0)) := by
 have hl : σ.live b := by unfold AW.live; rw [h]; exact ⟨⟨(by simp), (by simp)⟩, (by simp)⟩
 refine ⟨hl, hR.ro.1 b hl, ?_⟩
 have := hR.blk b hl
 rw [h] at this
 exact this
theorem Y6 {σ : AW} {b E : Nat} {a : Value} {cs : List Value} (h : σ.get b = ⟨1, E, 0, a :: cs⟩) (hb : b < σ.next) (ha : a = .pointer none ∨ a = .pointer (some ⟨b, 0, none⟩)) (hl : liesAt Tryz.prog Tryz.prog.depth E ((cs.length + 1) / Tryz.prog.cellsOf E) 0 71 1 = true) :
  C Tryz.prog 165 [.pointer (some ⟨b, 0, none⟩)] σ fun v σ' => v = .tuple #[] ∧ σ' = σ.set b ⟨1, E, 0, .pointer (some ⟨b, 0, none⟩) :: cs⟩ := by
 refine ⟨_, _, ⟨fun args w => enters Tryz.func165 rfl rfl args w, fun ρ w hR _ => ?_⟩, rfl, rfl⟩
 obtain ⟨hlv, hsh, hw⟩ := Js hR h
 have hab : jd ρ ⟨b, 0, none⟩ = ⟨(ρ b).1, 0, none⟩ := by rw [jd]; simp [hsh]
 have hargs : ([Value.pointer (some ⟨b, 0, none⟩)].map (ren ρ)).toArray = #[.pointer (some ⟨(ρ b).1, 0, none⟩)] := by
  rw [List.map_cons, List.map_nil, dO, hab]
 rw [hargs]
 have hsc : ∀ v ∈ (.pointer (some ⟨b, 0, none⟩) :: cs : List Value), Sc σ.dom v := fun v hv => by
  rcases List.mem_cons.1 hv with rfl | hv
  ·exact Iw ⟨hb, hlv.2⟩
  ·exact hR.sc b hlv v (by rw [h]; exact List.mem_cons_of_mem _ hv)
 have hend : ∀ w', w' = w.setCell ⟨(ρ b).1, 0, none⟩ (.pointer (some ⟨(ρ b).1, 0, none⟩)) → Step ρ σ w ρ (σ.set b ⟨1, E, 0, .pointer (some ⟨b, 0, none⟩) :: cs⟩) w' := fun w' e => by
  subst e
  refine zJ hR hlv (by simp) (by simp) hsc (fun i hi => ?_) (by simp [World.setCell]) ?_ rfl rfl rfl
  ·simp [World.setCell, Array.getElem?_modify, Ne.symm hi]
  ·show (World.setCell _ _ _).heap[(ρ b).1]? = _
   simp [World.setCell, Array.getElem?_modify, hw, dO, hab]
 rcases ha with rfl | rfl
 ·refine Calls.mono (LK (ρ b).1 E (cs.length + 1) w (by rw [Lib.cell_of_heap hw]; rfl) (by simp [World.shape?, hw]) (Nat.succ_pos _) hl (Lib.frozen_of_heap hw 0)) ?_
  rintro e w' ⟨rfl, e⟩
  exact ⟨ρ, by simp [dU], hend w' e, pY fun v hv => by cases hv⟩
 ·have hc : w.cell? ⟨(ρ b).1, 0, none⟩ = some (.pointer (some ⟨(ρ b).1, 0, none⟩)) := by
   rw [Lib.cell_of_heap hw, List.map_cons, dO, hab]; rfl
  refine Calls.mono (Ou (ρ b).1 w hc) ?_
  rintro e w' ⟨rfl, rfl⟩
  refine ⟨ρ, by simp [dU], zJ hR hlv (by simp) (by simp) hsc (fun _ _ => rfl) rfl ?_ rfl rfl rfl, pY fun v hv => by cases hv⟩
  exact hw
theorem LU {ρ : Rn} {σ : AW} {w : World} (hR : Rel ρ σ w) {g : Nat} (hg : σ.live g) (o n : Nat) : Step ρ σ w ρ (σ.set g eu) (w.drew.freeze ⟨(ρ g).1, o, none⟩ n) := by
 refine SB hR hg (fun i hi => ?_) ?_ ?_ ?_ ?_
 ·unfold World.freeze
  split
  ·rfl
  ·show (w.heap.modify (ρ g).1 _)[i]? = w.heap[i]?
   rw [Array.getElem?_modify, if_neg (Ne.symm hi)]
 ·unfold World.freeze
  split
  ·rfl
  ·show (w.heap.modify (ρ g).1 _).size = w.heap.size
   rw [Array.size_modify]
 all_goals (unfold World.freeze; split <;> rfl)
theorem string_c {σ : AW} {b E : Nat} {rest : List Value} {s : ByteArray} (h : Bl σ b E rest s) (hs : s.size ≤ maxLen) :
  C Tryz.prog 26 [.pointer (some ⟨b, 0, none⟩)] σ fun v σ' => v = .string s ∧ σ'.next = σ.next ∧ ∀ k, Au (σ.get k) → σ'.get k = σ.get k := by
 obtain ⟨hb, a, v, hget, ha, ⟨h0, rfl⟩ | ⟨g, h0, hne, hlt, rfl, hg⟩⟩ := h
 ·refine ⟨.string s, σ, ⟨fun args w => enters Tryz.func26 rfl rfl args w, fun ρ w hR _ => ?_⟩, rfl, rfl, fun _ _ => rfl⟩
  obtain ⟨hlv, hsh, hw⟩ := Js hR hget
  have hab : jd ρ ⟨b, 0, none⟩ = ⟨(ρ b).1, 0, none⟩ := by rw [jd]; simp [hsh]
  have hargs : ([Value.pointer (some ⟨b, 0, none⟩)].map (ren ρ)).toArray = #[.pointer (some ⟨(ρ b).1, 0, none⟩)] := by rw [List.map_cons, List.map_nil, dO, hab]
  rw [hargs]
  have es : s = ⟨#[]⟩ := by
   obtain ⟨⟨l⟩⟩ := s
   have : l.length = 0 := h0
   rw [List.eq_nil_of_length_eq_zero this]
  refine Calls.mono (LP (ρ b).1 w (by rw [Lib.cell_of_heap hw]; simp [qV])) ?_
  rintro e w' ⟨rfl, rfl⟩
  exact ⟨ρ, by rw [es, yN], Step.drew hR, (kW rfl).sc _⟩
 ·refine ⟨.string s, σ.set g eu, ⟨fun args w => enters Tryz.func26 rfl rfl args w, fun ρ w hR _ => ?_⟩, rfl, rfl, fun k hk => bG (fun e => not_safe (s := s) (by rw [e, hg] at hk; exact hk))⟩
  obtain ⟨hlv, hsh, hw⟩ := Js hR hget
  have Y7 : σ.live g := by unfold AW.live; rw [hg]; exact ⟨⟨(by simp), (by simp)⟩, (by simp)⟩
  have hg2 := hR.blk g Y7
  have hgs := hR.ro.1 g Y7
  rw [hg] at hg2
  obtain ⟨more, hg3, hg4⟩ := hg2
  have hab : jd ρ ⟨b, 0, none⟩ = ⟨(ρ b).1, 0, none⟩ := by rw [jd]; simp [hsh]
  have hgb : jd ρ ⟨g, 0, none⟩ = ⟨(ρ g).1, 0, none⟩ := by rw [jd]; simp [hgs]
  have hargs : ([Value.pointer (some ⟨b, 0, none⟩)].map (ren ρ)).toArray = #[.pointer (some ⟨(ρ b).1, 0, none⟩)] := by rw [List.map_cons, List.map_nil, dO, hab]
  rw [hargs]
  have el : s.data.toList.length = s.size := by simp
  have eb : (byteCells s).map (ren ρ) = byteCells s := Ei (List.all_eq_true.2 (vI s)) ρ
  have ebl : (byteCells s).length = s.size := by simp [byteCells]
  simp only [eb, ebl] at hg3 hg4
  refine Calls.mono (LM (ρ b).1 (ρ g).1 (ρ g).2 s.data.toList _ w (fun e => h0 (by rw [← el, e]; rfl)) ?_ hg3 (by rw [el]; omega) (by rw [el]; exact hs) ?_ ?_) ?_
  ·rw [Lib.cell_of_heap hw, el]
   simp [aZ, hgb, oH]
  ·rw [List.size_toArray, List.length_append, ebl]
   omega
  ·rw [el, List.take_append_of_le_length (by rw [ebl]; exact Nat.le_refl _), List.take_of_length_le (by rw [ebl]; exact Nat.le_refl _)]
   rfl
  ·rintro e w' ⟨rfl, rfl⟩
   exact ⟨ρ, by rw [yN], LU hR Y7 0 _, (kW rfl).sc _⟩
end Go.Proofs.YthogkmcahnkkoaaGreatDoor
