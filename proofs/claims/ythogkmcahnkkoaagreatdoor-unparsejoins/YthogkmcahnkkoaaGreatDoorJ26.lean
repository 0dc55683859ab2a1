/- The program's writer: what stands one deeper. The program's writer: queries that stand one deeper, in brackets. The program's writer: tokens, columns. The program's writer: operands. The program's writer: what the library does; lines; what is read stays. The program's writer: lists. The program's writer: lists of items, of keys. The program's writer: what expressions stand in. -/
import Derived.Test.YthogkmcahnkkoaaGreatDoorJ25
import Derived.Lib.LaidTab
namespace Go.Proofs.YthogkmcahnkkoaaGreatDoor
open Go.RowKit
set_option maxRecDepth 10000
set_option linter.unusedSimpArgs false
set_option linter.unusedVariables false
theorem dR {b N e1 z1 e2 z2 : Nat} {c1 c2 : List Value} {E : AW → Prop} (hE : dX b E) (hb : b < N) (h1 : e1 ≠ 5) (h2 : e2 ≠ 5) : dX b fun σ => E σ ∧ σ.get N = ⟨1, e1, z1, c1⟩ ∧ σ.get (N + 1) = ⟨1, e2, z2, c2⟩ ∧ N + 2 ≤ σ.next :=
 fun σ σ' ⟨h, g1, g2, hn⟩ k => ⟨hE _ _ h k, (k.get N (by omega) (by omega) (by rw [g1]; exact h1)).trans g1, (k.get (N + 1) (by omega) (by omega) (by rw [g2]; exact h2)).trans g2, Nat.le_trans hn k.next⟩
theorem Wj {E : AW → Prop} {b : Nat} (hE : dX b E) {d i : Int} (h0 : 0 ≤ d) (hd : d ≤ 40) {l : List Value} (hl : l.length = 6) (ho : l.all gu = true) {m : WM} (hf : d < 40 → Writes E b (d + 1) i 23 [.pointer (some ⟨b, 0, none⟩), .agg ⟨l⟩] m) :
  Writes E b d i 101 [.pointer (some ⟨b, 0, none⟩), .agg ⟨l⟩] (if d = 40 then fun t => ([], t, true) else m) := by
 intro σ s t td tl he h
 have hlt := h.lt
 refine fG Tryz.func101 Tryz.ntmps101 Tryz.results101 fun A hz a0 a1 => ?_
 refine dV a0 a1 hl ho ?_
 refine aj (qx a0 a1 hl ho) ?_
 have hE2 : dX b fun σ' => E σ' ∧ σ'.get σ.next = ⟨1, 48, 0, [.pointer (some ⟨b, 0, none⟩)]⟩ ∧ σ'.get (σ.next + 1) = ⟨1, 42, 0, l⟩ ∧ σ.next + 2 ≤ σ'.next := dR hE hlt (by decide) (by decide)
 refine C.mono (qU (fs := []) hE2 h0 hd (m := m) (fun hd4 => ?_) _ s t td tl ⟨hE _ _ he ((Wk.push σ _).trans (Wk.push _ _)), (aC (by rw [ah]; omega)).trans aA, aA, Nat.le_refl _⟩ ((h.push _).push _)) ?_
 ·intro σ1 s1 t1 Uf tl1 ⟨he1, gN, gM, hn⟩ h1
  refine fG Tryz.func141 Tryz.ntmps141 Tryz.results141 fun A hz a0 a1 => ?_
  refine kR a0 a1 gN gM hl ho ?_
  refine aj (D8 a0 a1 gN gM hl ho) ?_
  refine C.mono (hf hd4 σ1 _ _ _ _ he1 h1) ?_
  rintro _ σ2 h2
  refine gQ a0 a1 ?_
  refine gI ?_
  exact h2
 ·rintro _ σ2 h2
  refine gQ a0 a1 ?_
  refine gI ?_
  exact ⟨h2.1, ((Wk.push σ _).trans (Wk.push _ _)).trans h2.2⟩
theorem SG {E : AW → Prop} {b : Nat} (hE : dX b E) {d i : Int} (h0 : 0 ≤ d) (hd : d ≤ 40) {l : List Value} (hl : l.length = 10) (ho : l.all gu = true) {m : WM} (hf : d < 40 → Writes E b (d + 1) i 143 [.pointer (some ⟨b, 0, none⟩), .agg ⟨l⟩] m) :
  Writes E b d i 103 [.pointer (some ⟨b, 0, none⟩), .agg ⟨l⟩] (if d = 40 then fun t => ([], t, true) else m) := by
 intro σ s t td tl he h
 have hlt := h.lt
 refine fG Tryz.func103 Tryz.ntmps103 Tryz.results103 fun A hz a0 a1 => ?_
 refine dV a0 a1 hl ho ?_
 refine aj (qx a0 a1 hl ho) ?_
 have hE2 : dX b fun σ' => E σ' ∧ σ'.get σ.next = ⟨1, 48, 0, [.pointer (some ⟨b, 0, none⟩)]⟩ ∧ σ'.get (σ.next + 1) = ⟨1, 61, 0, l⟩ ∧ σ.next + 2 ≤ σ'.next := dR hE hlt (by decide) (by decide)
 refine C.mono (qU (fs := []) hE2 h0 hd (m := m) (fun hd4 => ?_) _ s t td tl ⟨hE _ _ he ((Wk.push σ _).trans (Wk.push _ _)), (aC (by rw [ah]; omega)).trans aA, aA, Nat.le_refl _⟩ ((h.push _).push _)) ?_
 ·intro σ1 s1 t1 Uf tl1 ⟨he1, gN, gM, hn⟩ h1
  refine fG Tryz.func142 Tryz.ntmps142 Tryz.results142 fun A hz a0 a1 => ?_
  refine kR a0 a1 gN gM hl ho ?_
  refine aj (D8 a0 a1 gN gM hl ho) ?_
  refine C.mono (hf hd4 σ1 _ _ _ _ he1 h1) ?_
  rintro _ σ2 h2
  refine gQ a0 a1 ?_
  refine gI ?_
  exact h2
 ·rintro _ σ2 h2
  refine gQ a0 a1 ?_
  refine gI ?_
  exact ⟨h2.1, ((Wk.push σ _).trans (Wk.push _ _)).trans h2.2⟩
theorem abG {E : AW → Prop} {b : Nat} (hE : dX b E) {d i : Int} {l : List Value} (hl : l.length = 10) (ho : l.all gu = true) {m : WM} (hf : Writes E b d i 103 [.pointer (some ⟨b, 0, none⟩), .agg ⟨l⟩] m) :
  Writes E b d i 63 [.pointer (some ⟨b, 0, none⟩), .agg ⟨l⟩] (brW m) := by
 intro σ s t td tl he h
 have hlt := h.lt
 refine fG Tryz.func63 Tryz.ntmps63 Tryz.results63 fun A hz a0 a1 => ?_
 refine dV a0 a1 hl ho ?_
 refine aj (qx a0 a1 hl ho) ?_
 have hE2 : dX b fun σ' => E σ' ∧ σ'.get σ.next = ⟨1, 48, 0, [.pointer (some ⟨b, 0, none⟩)]⟩ ∧ σ'.get (σ.next + 1) = ⟨1, 61, 0, l⟩ ∧ σ.next + 2 ≤ σ'.next := dR hE hlt (by decide) (by decide)
 refine C.mono (Du (fs := []) hE2 (m := m) ?_ _ s t td tl ⟨hE _ _ he ((Wk.push σ _).trans (Wk.push _ _)), (aC (by rw [ah]; omega)).trans aA, aA, Nat.le_refl _⟩ ((h.push _).push _)) ?_
 ·intro σ1 s1 t1 Uf tl1 ⟨he1, gN, gM, hn⟩ h1
  refine fG Tryz.func102 Tryz.ntmps102 Tryz.results102 fun A hz a0 a1 => ?_
  refine kR a0 a1 gN gM hl ho ?_
  refine aj (D8 a0 a1 gN gM hl ho) ?_
  refine C.mono (hf σ1 _ _ _ _ he1 h1) ?_
  rintro _ σ2 h2
  refine gQ a0 a1 ?_
  refine gI ?_
  exact h2
 ·rintro _ σ2 h2
  refine gQ a0 a1 ?_
  refine gI ?_
  exact ⟨h2.1, ((Wk.push σ _).trans (Wk.push _ _)).trans h2.2⟩
theorem Ib (ws : List ByteArray) (t : Bool) : (aK ws t).2.2 = false := by
 induction ws generalizing t with
 | nil => rfl
 | cons x l ih =>
  show (false || (aK l (qI x)).2.2) = false
  rw [ih]; rfl
theorem mg {σ : AW} {b : Nat} {s : ByteArray} {d i : Int} {t td tl : Bool} (h : Dt σ b s d i t td tl) (z c : Nat) (ws : List ByteArray) (hl : ws.length ≤ 1000) (hx : ∀ x ∈ ws, x.size ≤ 70000) :
  C Tryz.prog 54 [.pointer (some ⟨b, 0, none⟩), .slice (some ⟨σ.next, 0, none⟩) ws.length c] (σ.push ⟨1, 9, z, ws.map Value.string⟩) (Wrote b d i σ s t td tl (aK ws)) := by
 have hlt := h.lt
 refine C.mono (Wh (ws := ws) (h.push _) aA (by decide) (by omega) (Nat.lt_succ_self _) hl hx) ?_
 rintro v σ' ⟨h1, k1⟩
 refine ⟨?_, (Wk.push σ _).trans k1⟩
 rw [Ib, Bool.or_false]
 exact h1
theorem Ic {E : AW → Prop} {b : Nat} {d i : Int} {x y : ByteArray} (hx : x.size ≤ 70000) (hy : y.size ≤ 70000) {v0 v1 v4 v5 : Value} (o0 : gu v0 = true) (o1 : gu v1 = true) (o4 : gu v4 = true) (o5 : gu v5 = true) :
  Writes E b d i 58 [.pointer (some ⟨b, 0, none⟩), .agg ⟨[v0, v1, .string y, .string x, v4, v5]⟩] (qJ x y) := by
 intro σ s t td tl he h
 have hlt := h.lt
 refine fG Tryz.func58 Tryz.ntmps58 Tryz.results58 fun A hz a0 a1 => ?_
 by_cases hc : x = eB
 ·have c1 : decide (x = (⟨#[]⟩ : ByteArray)) = true := decide_eq_true hc
  have e : qJ x y = aQ dW (aK [y]) := by unfold qJ; rw [if_pos hc]
  rw [e, qK]
  refine nH a0 a1 c1 o0 o1 o4 o5 ?_
  refine aj (bP a0 a1) ?_
  refine C.mono (mg (h.push _) _ _ [y] (show 1 ≤ 1000 by decide) (fun z hz => by rw [List.mem_singleton.1 hz]; exact hy)) ?_
  rintro _ σ1 h1
  refine gQ a0 a1 ?_
  refine gI ?_
  exact ⟨h1.1, (Wk.push σ _).trans h1.2⟩
 ·have c1 : decide (x = (⟨#[]⟩ : ByteArray)) = false := decide_eq_false hc
  have e : qJ x y = aQ (aK [x, mP]) (aK [y]) := by unfold qJ; rw [if_neg hc]
  rw [e]
  refine nH a0 a1 c1 o0 o1 o4 o5 ?_
  refine aj (bP a0 a1) ?_
  refine C.mono (mg (h.push _) _ _ [x, mP] (show 2 ≤ 1000 by decide) (fun z hz => ?_)) ?_
  ·simp only [List.mem_cons, List.not_mem_nil, or_false] at hz
   rcases hz with rfl | rfl
   ·exact hx
   ·decide
  rintro _ σ1 h1
  have gN : σ1.get σ.next = ⟨1, 42, 0, [v0, v1, .string y, .string x, v4, v5]⟩ := (h1.2.get σ.next (Nat.lt_succ_self _) (by omega) (by rw [aA]; show (42 : Nat) ≠ 5; decide)).trans aA
  refine nH a0 a1 gN o0 o1 o4 o5 ?_
  refine aj (bP a0 a1) ?_
  refine C.mono (mg h1.1 _ _ [y] (show 1 ≤ 1000 by decide) (fun z hz => by rw [List.mem_singleton.1 hz]; exact hy)) ?_
  rintro _ σ2 h2
  refine gQ a0 a1 ?_
  refine gI ?_
  have h3 := h1.trans h2
  exact ⟨h3.1, (Wk.push σ _).trans h3.2⟩
theorem OH {E : AW → Prop} {b : Nat} (hE : dX b E) {d i k : Int} {v1 v2 v3 v4 v5 : Value} (o1 : gu v1 = true) (o2 : gu v2 = true) (o3 : gu v3 = true) (o4 : gu v4 = true) (o5 : gu v5 = true) {mi me : WM}
  (hin : Writes E b d i 101 [.pointer (some ⟨b, 0, none⟩), .agg ⟨[.int .i64 k, v1, v2, v3, v4, v5]⟩] mi) (hex : Writes E b d i 23 [.pointer (some ⟨b, 0, none⟩), .agg ⟨[.int .i64 k, v1, v2, v3, v4, v5]⟩] me) :
  Writes E b d i 105 [.pointer (some ⟨b, 0, none⟩), .agg ⟨[.int .i64 k, v1, v2, v3, v4, v5]⟩] (if abB k then brW mi else me) := by
 intro σ s t td tl he h
 have hlt := h.lt
 have hE2 : dX b fun σ' => E σ' ∧ σ'.get σ.next = ⟨1, 48, 0, [.pointer (some ⟨b, 0, none⟩)]⟩ ∧ σ'.get (σ.next + 1) = ⟨1, 42, 0, [.int .i64 k, v1, v2, v3, v4, v5]⟩ ∧ σ.next + 2 ≤ σ'.next := dR hE hlt (by decide) (by decide)
 have hE0 := (⟨hE _ _ he ((Wk.push σ _).trans (Wk.push _ _)), (aC (by rw [ah]; omega)).trans aA, aA, Nat.le_refl _⟩ : E ((σ.push ⟨1, 48, 0, [.pointer (some ⟨b, 0, none⟩)]⟩).push ⟨1, 42, 0, [.int .i64 k, v1, v2, v3, v4, v5]⟩) ∧ ((σ.push ⟨1, 48, 0, [.pointer (some ⟨b, 0, none⟩)]⟩).push ⟨1, 42, 0, [.int .i64 k, v1, v2, v3, v4, v5]⟩).get σ.next = ⟨1, 48, 0, [.pointer (some ⟨b, 0, none⟩)]⟩ ∧ ((σ.push ⟨1, 48, 0, [.pointer (some ⟨b, 0, none⟩)]⟩).push ⟨1, 42, 0, [.int .i64 k, v1, v2, v3, v4, v5]⟩).get (σ.next + 1) = ⟨1, 42, 0, [.int .i64 k, v1, v2, v3, v4, v5]⟩ ∧ σ.next + 2 ≤ ((σ.push ⟨1, 48, 0, [.pointer (some ⟨b, 0, none⟩)]⟩).push ⟨1, 42, 0, [.int .i64 k, v1, v2, v3, v4, v5]⟩).next)
 have hcl : Writes (fun σ' => E σ' ∧ σ'.get σ.next = ⟨1, 48, 0, [.pointer (some ⟨b, 0, none⟩)]⟩ ∧ σ'.get (σ.next + 1) = ⟨1, 42, 0, [.int .i64 k, v1, v2, v3, v4, v5]⟩ ∧ σ.next + 2 ≤ σ'.next) b d i 144 ([] ++ [.pointer (some ⟨σ.next, 0, none⟩), .pointer (some ⟨σ.next + 1, 0, none⟩)]) mi := by
  intro σ1 s1 t1 Uf tl1 ⟨he1, gN, gM, hn⟩ h1
  refine fG Tryz.func144 Tryz.ntmps144 Tryz.results144 fun A hz a0 a1 => ?_
  refine aY a0 a1 gN gM o1 o2 o3 (cJ o4 o5) ?_
  refine aj (kC a0 a1 gN gM o1 o2 o3 (cJ o4 o5)) ?_
  refine C.mono (hin σ1 _ _ _ _ he1 h1) ?_
  rintro _ σ2 h2
  refine gQ a0 a1 ?_
  refine gI ?_
  exact h2
 refine fG Tryz.func105 Tryz.ntmps105 Tryz.results105 fun A hz a0 a1 => ?_
 unfold abB
 generalize c0 : (k == 10) = b0
 generalize c1 : (k == 7) = b1
 generalize c2 : (k == 8) = b2
 generalize c3 : (k == 9) = b3
 generalize c4 : (k == 13) = b4
 cases b0 with
 | true =>
  refine aY a0 a1 c0 o1 o2 o3 o4 o5 ?_
  refine aj (bP a0 a1) ?_
  refine C.mono (Du (fs := []) hE2 hcl _ s t td tl hE0 ((h.push _).push _)) ?_
  rintro _ σ2 h2
  refine gQ a0 a1 ?_
  refine gI ?_
  exact ⟨h2.1, ((Wk.push σ _).trans (Wk.push _ _)).trans h2.2⟩
 | false =>
  cases b1 with
  | true =>
   refine aY a0 a1 c0 c1 o1 o2 o3 (cJ o4 o5) ?_
   refine aj (bP a0 a1) ?_
   refine C.mono (Du (fs := []) hE2 hcl _ s t td tl hE0 ((h.push _).push _)) ?_
   rintro _ σ2 h2
   refine gQ a0 a1 ?_
   refine gI ?_
   exact ⟨h2.1, ((Wk.push σ _).trans (Wk.push _ _)).trans h2.2⟩
  | false =>
   cases b2 with
   | true =>
    refine aY a0 a1 c0 c1 c2 o1 o2 (cJ o3 (cJ o4 o5)) ?_
    refine aj (bP a0 a1) ?_
    refine C.mono (Du (fs := []) hE2 hcl _ s t td tl hE0 ((h.push _).push _)) ?_
    rintro _ σ2 h2
    refine gQ a0 a1 ?_
    refine gI ?_
    exact ⟨h2.1, ((Wk.push σ _).trans (Wk.push _ _)).trans h2.2⟩
   | false =>
    cases b3 with
    | true =>
     refine aY a0 a1 c0 c1 c2 c3 o1 (cJ o2 (cJ o3 (cJ o4 o5))) ?_
     refine aj (bP a0 a1) ?_
     refine C.mono (Du (fs := []) hE2 hcl _ s t td tl hE0 ((h.push _).push _)) ?_
     rintro _ σ2 h2
     refine gQ a0 a1 ?_
     refine gI ?_
     exact ⟨h2.1, ((Wk.push σ _).trans (Wk.push _ _)).trans h2.2⟩
    | false =>
     cases b4 with
     | true =>
      refine aY a0 a1 c0 c1 c2 c3 c4 (cJ o1 (cJ o2 (cJ o3 (cJ o4 o5)))) ?_
      refine aj (bP a0 a1) ?_
      refine C.mono (Du (fs := []) hE2 hcl _ s t td tl hE0 ((h.push _).push _)) ?_
      rintro _ σ2 h2
      refine gQ a0 a1 ?_
      refine gI ?_
      exact ⟨h2.1, ((Wk.push σ _).trans (Wk.push _ _)).trans h2.2⟩
     | false =>
      refine aY a0 a1 c0 c1 c2 c3 c4 (cJ o1 (cJ o2 (cJ o3 (cJ o4 o5)))) ?_
      refine aj (bP a0 a1) ?_
      refine C.mono (hex _ s t td tl hE0.1 ((h.push _).push _)) ?_
      rintro _ σ2 h2
      refine gQ a0 a1 ?_
      refine gI ?_
      exact ⟨h2.1, ((Wk.push σ _).trans (Wk.push _ _)).trans h2.2⟩
theorem L6 {σ : AW} {g : Nat} {fn : Func} {xs : List Value} {r : Value} (hf : Tryz.prog.funcs[g]? = some fn) (hN : (fn.name == "runtime.NumGoroutine") = false) (hb : fn.body.isSome = true) (hr : ni r = true) (hx : ∀ ρ, xs.map (ren ρ) = xs)
  (h : ∀ ρ w, Rel ρ σ w → Calls Tryz.prog g xs.toArray w fun e w' => e = .returned r ∧ Below w.heap.size w w') : C Tryz.prog g xs σ fun v σ' => v = r ∧ σ' = σ := by
 refine ⟨_, _, ⟨fun args w => enters hf hN hb args w, fun ρ w hR _ => ?_⟩, rfl, rfl⟩
 rw [hx]
 refine Calls.mono (h ρ w hR) ?_
 rintro e w' ⟨rfl, hb⟩
 exact ⟨ρ, by rw [gJ hr ρ], yU hR hb, (gJ hr).sc _⟩
theorem Wn {σ : AW} (n : Nat) (hn : n ≤ 1000000) : C Tryz.prog 108 [.string ⟨#[32, 32]⟩, .int .i64 (n : Int)] σ fun v σ' => v = .string (OB n) ∧ σ' = σ :=
 L6 Tryz.func108 rfl rfl rfl (fun _ => rfl) (fun ρ w _ => Tryz.strings_Repeat ⟨#[32, 32]⟩ n w (by omega) (by show 2 * n ≤ _; omega))
theorem Wp {σ : AW} (b : Bool) : C Tryz.prog 55 [.bool b] σ fun v σ' => v = .string (if b then rH else nZ) ∧ σ' = σ :=
 L6 Tryz.func55 rfl rfl rfl (fun _ => rfl) (fun ρ w _ => by
  refine (Tryz.strconv_FormatBool b w).mono ?_
  rintro e w' ⟨rfl, rfl⟩
  exact ⟨by cases b <;> rfl, Below.refl _ _⟩)
theorem abH {ρ : Rn} {σ : AW} {w : World} (hR : Rel ρ σ w) : Lib.TabIs Tryz.prog w "internal/strconv.uint64pow10" .u64 Lib.pow10Tab := by
 obtain ⟨_, _, h⟩ := hR.glob (0, some (Lib.pow10Tab.map fun z => .int .u64 z)) (by
  unfold globs; repeat (first | exact List.mem_cons_self .. | apply List.mem_cons_of_mem))
 obtain ⟨t, f, h⟩ := h
 have hg : Tryz.prog.globalNamed "internal/strconv.uint64pow10" = some 0 := by kernel_rfl
 unfold Lib.TabIs World.var?
 rw [hg]
 simp only [Option.bind_some, h]
theorem Wq {σ : AW} (n : Int) (h0 : -9223372036854775808 ≤ n) (h1 : n ≤ 9223372036854775807) : C Tryz.prog 56 [.int .i64 n] σ fun v σ' => v = .string (Gw n) ∧ σ' = σ :=
 L6 Tryz.func56 rfl rfl rfl (fun _ => rfl) (fun ρ w hR => by
  refine (Tryz.strconv_Itoa n h0 h1 w (abH hR)).mono ?_
  rintro e w' ⟨rfl, k, os, rfl⟩
  exact ⟨rfl, below_regrown w (w.drawn + k) os⟩)
theorem Ie {n : Int} (h0 : -9223372036854775808 ≤ n) (h1 : n ≤ 9223372036854775807) : (Gw n).size ≤ 21 := by
 have := Lib.itoa_length_le n h0 h1
 simpa [Gw, ByteArray.size] using this
theorem SH {σ : AW} (s : ByteArray) (hs : s.size ≤ 20000) : C Tryz.prog 57 [.string s, .string ⟨#[39]⟩, .string ⟨#[39, 39]⟩] σ fun v σ' => v = .string ⟨(Lib.replaceAll s.data.toList [39] [39, 39]).toArray⟩ ∧ σ' = σ :=
 L6 Tryz.func57 rfl rfl rfl (fun _ => rfl) (fun ρ w hR => by
  obtain ⟨m, hm⟩ := Fj hR
  exact Tryz.strings_ReplaceAll s ⟨#[39]⟩ ⟨#[39, 39]⟩ m w (by omega) hm (by decide) (by
   have := Lib.countB_le ⟨#[39]⟩ (by decide) _ s (Nat.le_refl _)
   show _ + _ * 2 ≤ _
   omega))
theorem SI (n : Nat) : (OB n).size = n * 2 := by
 have := Lib.repeatL_length [32, 32] n
 simpa [OB, ByteArray.size] using this
theorem x9 {E : AW → Prop} {b : Nat} (hE : dX b E) {d : Int} {i : Nat} (hi : i ≤ 30000) {g : Nat} {fs cs : List Value} {m : WM} (hf : Writes E b d i g (fs ++ cs) m) :
  Writes E b d i 69 [.pointer (some ⟨b, 0, none⟩), .func (.func g) ⟨fs⟩ ⟨cs⟩] (qy i m) := by
 intro σ s t td tl he h
 obtain ⟨a, v, g1, st⟩ := h.open
 refine fG Tryz.func69 Tryz.ntmps69 Tryz.results69 fun A hz a0 a1 => ?_
 refine dS a0 a1 g1 ?_
 refine aj (lF a0 a1 g1) ?_
 refine C.mono (Wn i (by omega)) ?_
 rintro _ _ ⟨rfl, rfl⟩
 refine gQ a0 a1 ?_
 refine aj (bP a0 a1) ?_
 refine C.mono (HY h (by rw [SI]; omega)) ?_
 rintro _ σ1 ⟨h1, k1⟩
 refine gQ a0 a1 ?_
 refine aj (bP a0 a1) ?_
 refine C.mono (Wi (E := fun _ => True) σ1 _ _ _ _ trivial h1) ?_
 rintro _ σ2 h2
 refine gQ a0 a1 ?_
 refine aj (bP a0 a1) ?_
 refine C.mono (hf σ2 _ _ _ _ (hE _ _ he (k1.trans h2.2)) h2.1) ?_
 rintro v3 σ3 h3
 refine gQ a0 a1 ?_
 refine aj (bP a0 a1) ?_
 refine C.mono (HY (x := VZ) h3.1 (by decide)) ?_
 rintro _ σ4 ⟨h4, k4⟩
 refine gQ a0 a1 ?_
 refine gI ?_
 refine ⟨?_, ((k1.trans h2.2).trans h3.2).trans k4⟩
 simp only [OA, kD, Bool.or_false] at h4
 have e : qy i m t = (OB i :: (m true).1 ++ [VZ], (m true).2) := rfl
 rw [e]
 simp only [List.cons_append]
 rw [show OB i :: ((m true).1 ++ [VZ]) = [OB i] ++ ((m true).1 ++ [VZ]) from rfl, Ea, Ea]
 exact h4
def DW (b : Nat) (σ : AW) (k : Nat) : Prop := k ≠ b ∧ Au (σ.get k)
def aP (b : Nat) (p v : Value) (σ : AW) : Prop := Rd σ (DW b σ) p v
theorem aP.wk {b : Nat} {p v : Value} {σ σ' : AW} (h : aP b p v σ) (k : Wk b σ σ') : aP b p v σ' :=
 Rd.keep (fun j hD hj _ => k.get' j hj hD.1 hD.2) k.next (fun j hD hj => ⟨hD.1, by rw [k.get' j hj hD.1 hD.2]; exact hD.2⟩) h
theorem fU {b : Nat} {p v : Value} : dX b (aP b p v) := fun _ _ h k => h.wk k
theorem ou {b : Nat} : dX b fun _ => True := fun _ _ _ _ => trivial
theorem zu {b : Nat} {P : Program} {σ : AW} {n e : Nat} {ps : List Value} {v : Value} (h : aP b (sl n ps) v σ) (hsz : iW P e = some n) {i : Nat} (hi : i < ps.length) :
  ∃ bb o c cs x, v = .slice (some ⟨bb, o, none⟩) ps.length c ∧ (∀ τ, Wk b σ τ → ∀ q, rowOf τ ⟨bb, q, none⟩ = some cs) ∧ bU P e ⟨bb, o, none⟩ ps.length (i : Int) = some (.pointer (some ⟨bb, o + i * n, none⟩)) ∧ (cs.drop (o + i * n)).take n = aF x ∧ aP b ps[i] x σ ∧ (aF x).length = n := by
 obtain ⟨l, h1, hs⟩ := oO.1 h
 have hl := h1.length
 rcases hs with ⟨rfl, _⟩ | ⟨bb, o, c, k, e', z, cs, rfl, hb, hk, hz, hlt, hD, hcs, hx⟩
 ·simp at hl; omega
 ·have hi' : i < l.length := by omega
  refine ⟨bb, o, c, cs, l[i], by rw [hl], fun τ kp q => ?_, by rw [vP hsz hi, je], ?_, h1.at hi hi', hx _ (List.getElem_mem hi')⟩
  ·have hg := (kp.get' bb hlt hD.1 hD.2).trans hb
   rcases hk with rfl | rfl | rfl
   ·exact G9 hg
   ·exact KD hg
   ·exact UZ hg
  ·have := Jq hx hi'
   rw [← hcs, List.drop_take, List.drop_drop, List.take_take] at this
   have hle : (i + 1) * n ≤ l.length * n := Nat.mul_le_mul_right n hi'
   rw [Nat.add_mul, Nat.one_mul] at hle
   rw [Nat.min_eq_left (by omega)] at this
   exact this
theorem Dt.kp {σ σ' : AW} {b : Nat} {s : ByteArray} {d i : Int} {t td tl : Bool} (h : Dt σ b s d i t td tl) (k : Kp σ σ') : Dt σ' b s d i t td tl := by
 obtain ⟨⟨hb, a, v, hget, ha, hv⟩, hf⟩ := h
 exact ⟨⟨Nat.lt_of_lt_of_le hb k.next, a, v, (k.get b hb).trans hget, ha, hv.imp id fun ⟨g, h1, h2, h4, h5, h6⟩ => ⟨g, h1, h2, Nat.lt_of_lt_of_le h4 k.next, h5, (k.get g h4).trans h6⟩⟩, hf⟩
theorem Kp.wk {σ σ' : AW} (k : Kp σ σ') (b : Nat) : Wk b σ σ' := ⟨k.next, fun j h1 _ _ => k.get j h1⟩
theorem Wrote.kp {b : Nat} {d i : Int} {σ σ0 σ' : AW} {s : ByteArray} {t td tl : Bool} {m : WM} {v : Value} (k : Kp σ σ0) (h : Wrote b d i σ0 s t td tl m v σ') : Wrote b d i σ s t td tl m v σ' := ⟨h.1, (k.wk b).trans h.2⟩
theorem Wrote.nil {b : Nat} {d i : Int} {σ : AW} {s : ByteArray} {t td tl : Bool} {v : Value} (h : Dt σ b s d i t td tl) : Wrote b d i σ s t td tl dW v σ := ⟨by simpa [dW, kD] using h, Wk.refl _ _⟩
theorem Wrote.val {b : Nat} {d i : Int} {σ σ' : AW} {s : ByteArray} {t td tl : Bool} {m : WM} {v v' : Value} (h : Wrote b d i σ s t td tl m v σ') : Wrote b d i σ s t td tl m v' σ' := h
theorem jv (m : WM) : aQ m dW = m := by
 funext t
 simp [aQ, dW]
theorem L8 (m : WM) : dh [m] = m := jv m
theorem Ig {l : List WM} (h : l ≠ []) (m : WM) : dh (l ++ [m]) = aQ (dh l) (aQ (aK [dJ]) m) := by
 cases l with
 | nil => exact absurd rfl h
 | cons k l =>
  show aQ k (fK ((l ++ [m]).map fun k => aQ (aK [dJ]) k)) = aQ (aQ k (fK (l.map _))) _
  rw [List.map_append, Az, seq_assoc]
  show aQ k (aQ _ (aQ (aQ (aK [dJ]) m) dW)) = _
  rw [jv]
theorem nI {ps : List Tr} (fm : Tr → WM) {j : Nat} (h : j < ps.length) : dh ((ps.take (j + 1)).map fm) = if j = 0 then fm ps[j] else aQ (dh ((ps.take j).map fm)) (aQ (aK [dJ]) (fm ps[j])) := by
 have e : ps.take (j + 1) = ps.take j ++ [ps[j]] := by rw [List.take_add_one, List.getElem?_eq_getElem h]; rfl
 rw [e, List.map_append]
 split
 ·rename_i h0
  subst h0
  rw [List.take_zero]
  exact L8 _
 ·rename_i h0
  refine Ig (fun e => ?_) _
  have := congrArg List.length e
  rw [List.length_map, List.length_take] at this
  simp only [List.length_nil] at this
  omega
def partT (q : Value) : Prop := (∃ b, q = .bool b) ∨ (∃ k n, q = .int k n) ∨ (∃ s, q = .string s) ∨ ∃ n l, q = sl n l
def ShT (n : Nat) (p : Tr) : Prop := ∃ l, p = .agg ⟨l⟩ ∧ l.length = n ∧ ∀ q ∈ l, partT q
theorem Ws {σ : AW} {D : Nat → Prop} {q v : Value} (h : partT q) (hr : Rd σ D q v) : gu v = true := by
 rcases h with ⟨b, rfl⟩ | ⟨k, n, rfl⟩ | ⟨s, rfl⟩ | ⟨n, l, rfl⟩
 ·rw [sW.1 hr]; rfl
 ·rw [BJ.1 hr]; rfl
 ·rw [jQ.1 hr]; rfl
 ·exact ay hr
theorem Ih {σ : AW} {D : Nat → Prop} : ∀ {l : List Tr} {vs : List Value}, (∀ q ∈ l, partT q) → nG σ D l vs → vs.all gu = true
 | [], _, _, h => by rw [h]; rfl
 | q :: l, _, hp, ⟨v, vs, e, h1, h2⟩ => by
  rw [e, List.all_cons, Ws (hp q (List.mem_cons_self ..)) h1, Ih (fun r hr => hp r (List.mem_cons_of_mem _ hr)) h2]
  rfl
theorem eG {σ : AW} {D : Nat → Prop} {n : Nat} {p x : Value} (h : ShT n p) (hr : Rd σ D p x) : Sh n x := by
 obtain ⟨l, rfl, hl, hp⟩ := h
 obtain ⟨vs, rfl, h1⟩ := jh.1 hr
 exact ⟨vs, rfl, h1.length.trans hl, Ih hp h1⟩
theorem shE {k n : Int} {s t : ByteArray} {kids qs : List Tr} : ShT 6 (kH k n s t kids qs) := ⟨_, rfl, rfl, fun q hq => by
 simp only [List.mem_cons, List.not_mem_nil, or_false] at hq
 rcases hq with rfl | rfl | rfl | rfl | rfl | rfl
 ·exact .inr (.inl ⟨_, _, rfl⟩)
 ·exact .inr (.inl ⟨_, _, rfl⟩)
 ·exact .inr (.inr (.inl ⟨_, rfl⟩))
 ·exact .inr (.inr (.inl ⟨_, rfl⟩))
 ·exact .inr (.inr (.inr ⟨_, _, rfl⟩))
 ·exact .inr (.inr (.inr ⟨_, _, rfl⟩))⟩
theorem Zd {n : Nat} {x : Tr} (h : ShT n x) (s : ByteArray) : ShT (n + 1) (withName x s) := by
 obtain ⟨l, rfl, hl, hp⟩ := h
 refine ⟨_, rfl, by show (l ++ [_]).length = _; rw [List.length_append, hl]; rfl, fun q hq => (List.mem_append.1 hq).elim (hp q) fun h => ?_⟩
 rw [List.mem_singleton.1 h]
 exact .inr (.inr (.inl ⟨_, rfl⟩))
theorem Ze {n : Nat} {x : Tr} (h : ShT n x) (b : Bool) : ShT (n + 1) (uT x b) := by
 obtain ⟨l, rfl, hl, hp⟩ := h
 refine ⟨_, rfl, by show (l ++ [_]).length = _; rw [List.length_append, hl]; rfl, fun q hq => (List.mem_append.1 hq).elim (hp q) fun h => ?_⟩
 rw [List.mem_singleton.1 h]
 exact .inl ⟨_, rfl⟩
theorem Wu {E : AW → Prop} {b : Nat} (hE : dX b E) {d i : Int} {ps : List Tr} {fm : Tr → WM} {v : Value} {g : Nat} {fs cs : List Value} (hlen : ps.length ≤ 1000000) (hs : ∀ p ∈ ps, ∃ s, p = .string s) (hf : ∀ p ∈ ps, ∀ x, Writes (fun σ => E σ ∧ aP b p x σ) b d i g (fs ++ [x] ++ cs) (fm p)) :
  Writes (fun σ => E σ ∧ aP b (sl 1 ps) v σ) b d i 179 [.pointer (some ⟨b, 0, none⟩), v, .func (.func g) ⟨fs⟩ ⟨cs⟩] (dh (ps.map fm)) := by
 intro σ s t td tl ⟨he, hv⟩ h
 have l1 : ∀ τ, fF Tryz.prog τ 38 v = some (.int .i64 ps.length) := fun τ => by obtain ⟨a, c, rfl⟩ := aG hv; exact KL τ a _ c
 refine Ld Tryz.func179 Tryz.ntmps179 Tryz.results179 fun A hz a0 a1 a2 => ?_
 refine dV a0 a1 a2 l1 ?_
 refine dB (dI (fun m B σ1 => ∃ j, j ≤ ps.length ∧ m = ps.length - j ∧ B.size = 24 ∧ B.get 0 = some (.pointer (some ⟨b, 0, none⟩)) ∧ B.get 2 = some (.func (.func g) ⟨fs⟩ ⟨cs⟩) ∧ B.get 8 = some v ∧ B.get 9 = some (.int .i64 (ps.length : Int)) ∧ B.get 10 = some (.int .i64 (j : Int)) ∧ Wrote b d i σ s t td tl (dh ((ps.take j).map fm)) (.bool true) σ1) ?_ (m := ps.length) (by refine' ⟨0, Nat.zero_le _, rfl, ?_, ?_, ?_, ?_, ?_, ?_, Wrote.nil h⟩; any_goals (first | exact bP a0 a2 | fail)))
 rintro m B σ1 ⟨j, hj, rfl, hz, b0, b2, b8, b9, b10, h1⟩
 by_cases hlt : j < ps.length
 ·have c1 : decide ((j : Int) < (ps.length : Int)) = true := by simp [hlt]
  have hv1 := aP.wk hv h1.2
  obtain ⟨bb, o, c, cs0, x, rfl, hrow, hel, htk, hx, hxl⟩ := zu hv1 Bq hlt
  have hp := List.getElem_mem hlt
  have hr1 := hrow _ (Wk.refl b σ1)
  have hblt := h1.1.lt
  obtain ⟨y, hy⟩ := hs _ hp
  have hx0 : x = .string y := by rw [hy] at hx; exact jQ.1 hx
  subst hx0
  simp only [aF] at htk
  have hcs : cs0[o + j]? = some (.string y) := by
   have : ((cs0.drop (o + j * 1)).take 1)[0]? = some (.string y) := by rw [htk]; rfl
   simpa [List.getElem?_take, List.getElem?_drop] using this
  rw [Nat.mul_one] at hel
  have hadd : aT .add (.int .i64 (j : Int)) (.int .i64 1) = some (.int .i64 ((j + 1 : Nat) : Int)) := by rw [aH (by omega) (by omega)]; rfl
  by_cases h0 : j = 0
  ·have c2 : decide ((0 : Int) < (j : Int)) = false := by simp [h0]
   refine iC hr1 b0 b2 b8 b9 b10 c1 hel (cJ hcs c2) ?_
   refine aj (bP b0 b2) ?_
   have kp := Kp.refl σ1
   refine C.mono (hf _ hp _ _ _ _ _ _ ⟨hE _ _ he (h1.2.trans (kp.wk b)), aP.wk hx (kp.wk b)⟩ (h1.1.kp kp)) ?_
   rintro _ σ3 h3
   refine kR b0 b2 b8 b9 b10 hadd ?_
   refine ⟨ps.length - (j + 1), by omega, j + 1, hlt, rfl, (dD), (aU b0), (aU b2), (aU b8), (aU b9), (dD), ?_⟩
   rw [nI fm hlt, if_pos h0]
   have e1 : dh ((ps.take j).map fm) = dW := by rw [h0]; rfl
   rw [e1] at h1 h3
   have := h1.trans (h3.kp kp)
   rw [qK] at this
   exact this
  ·have c2 : decide ((0 : Int) < (j : Int)) = true := by simp; omega
   refine iC hr1 b0 b2 b8 b9 b10 c1 hel (cJ hcs c2) ?_
   refine aj (bP b0 b2) ?_
   have kp := Kp.refl σ1
   refine C.mono (cZ (h1.1.kp kp) _ _ dJ (by decide)) ?_
   rintro _ σ2 h2
   refine jy b0 b2 b8 b9 b10 ?_
   refine aj (bP b0 b2) ?_
   have k2 := (kp.wk b).trans h2.2
   refine C.mono (hf _ hp _ _ _ _ _ _ ⟨hE _ _ he (h1.2.trans k2), aP.wk hx k2⟩ h2.1) ?_
   rintro _ σ3 h3
   refine kR b0 b2 b8 b9 b10 hadd ?_
   refine ⟨ps.length - (j + 1), by omega, j + 1, hlt, rfl, (dD), (aU b0), (aU b2), (aU b8), (aU b9), (dD), ?_⟩
   rw [nI fm hlt, if_neg h0]
   exact h1.trans ((h2.trans h3).kp kp)
 ·have c1 : decide ((j : Int) < (ps.length : Int)) = false := by simp [hlt]
  have ej : ps.take j = ps := List.take_of_length_le (by omega)
  rw [ej] at h1
  refine kR b0 b2 b8 b9 b10 c1 ?_
  refine iH ?_; simp only [Then, Out, iy, reduceIte, Nat.reduceEqDiff]
  refine kR b0 b2 b8 b9 b10 c1 ?_
  refine gI ?_
  exact h1
theorem FC {E : AW → Prop} {b : Nat} (hE : dX b E) {d i : Int} {ps : List Tr} {fm : Tr → WM} {v : Value} {g : Nat} {fs cs : List Value} (hlen : ps.length ≤ 1000000) (hs : ∀ p ∈ ps, ShT 6 p) (hf : ∀ p ∈ ps, ∀ x, Writes (fun σ => E σ ∧ aP b p x σ) b d i g (fs ++ [x] ++ cs) (fm p)) :
  Writes (fun σ => E σ ∧ aP b (sl 6 ps) v σ) b d i 152 [.pointer (some ⟨b, 0, none⟩), v, .func (.func g) ⟨fs⟩ ⟨cs⟩] (dh (ps.map fm)) := by
 intro σ s t td tl ⟨he, hv⟩ h
 have l1 : ∀ τ, fF Tryz.prog τ 39 v = some (.int .i64 ps.length) := fun τ => by obtain ⟨a, c, rfl⟩ := aG hv; exact Df τ a _ c
 refine Ld Tryz.func152 Tryz.ntmps152 Tryz.results152 fun A hz a0 a1 a2 => ?_
 refine dV a0 a1 a2 l1 ?_
 refine dB (dI (fun m B σ1 => ∃ j, j ≤ ps.length ∧ m = ps.length - j ∧ B.size = 24 ∧ B.get 0 = some (.pointer (some ⟨b, 0, none⟩)) ∧ B.get 2 = some (.func (.func g) ⟨fs⟩ ⟨cs⟩) ∧ B.get 8 = some v ∧ B.get 9 = some (.int .i64 (ps.length : Int)) ∧ B.get 10 = some (.int .i64 (j : Int)) ∧ Wrote b d i σ s t td tl (dh ((ps.take j).map fm)) (.bool true) σ1) ?_ (m := ps.length) (by refine' ⟨0, Nat.zero_le _, rfl, ?_, ?_, ?_, ?_, ?_, ?_, Wrote.nil h⟩; any_goals (first | exact bP a0 a2 | fail)))
 rintro m B σ1 ⟨j, hj, rfl, hz, b0, b2, b8, b9, b10, h1⟩
 by_cases hlt : j < ps.length
 ·have c1 : decide ((j : Int) < (ps.length : Int)) = true := by simp [hlt]
  have hv1 := aP.wk hv h1.2
  obtain ⟨bb, o, c, cs0, x, rfl, hrow, hel, htk, hx, hxl⟩ := zu hv1 oM hlt
  have hp := List.getElem_mem hlt
  have hr1 := hrow _ (Wk.refl b σ1)
  have hblt := h1.1.lt
  obtain ⟨l, rfl, hl, ho⟩ := eG (hs _ hp) hx
  simp only [aF] at htk hxl
  have hadd : aT .add (.int .i64 (j : Int)) (.int .i64 1) = some (.int .i64 ((j + 1 : Nat) : Int)) := by rw [aH (by omega) (by omega)]; rfl
  by_cases h0 : j = 0
  ·have c2 : decide ((0 : Int) < (j : Int)) = false := by simp [h0]
   refine iC hr1 b0 b2 b8 b9 b10 c1 hel (cJ htk (cJ hl (cJ ho c2))) ?_
   refine aj (bP b0 b2) ?_
   have kp : Kp σ1 ((σ1.push ⟨1, 42, 0, [.int .i64 0, .int .i64 0, .string ⟨#[]⟩, .string ⟨#[]⟩, .slice none 0 0, .slice none 0 0]⟩).set σ1.next ⟨1, 42, 0, l⟩) := ((Kp.refl σ1).push _).set (Nat.le_refl _) _
   refine C.mono (hf _ hp _ _ _ _ _ _ ⟨hE _ _ he (h1.2.trans (kp.wk b)), aP.wk hx (kp.wk b)⟩ (h1.1.kp kp)) ?_
   rintro _ σ3 h3
   refine kR b0 b2 b8 b9 b10 hadd ?_
   refine ⟨ps.length - (j + 1), by omega, j + 1, hlt, rfl, (dD), (aU b0), (aU b2), (aU b8), (aU b9), (dD), ?_⟩
   rw [nI fm hlt, if_pos h0]
   have e1 : dh ((ps.take j).map fm) = dW := by rw [h0]; rfl
   rw [e1] at h1 h3
   have := h1.trans (h3.kp kp)
   rw [qK] at this
   exact this
  ·have c2 : decide ((0 : Int) < (j : Int)) = true := by simp; omega
   refine iC hr1 b0 b2 b8 b9 b10 c1 hel (cJ htk (cJ hl (cJ ho c2))) ?_
   refine aj (bP b0 b2) ?_
   have kp : Kp σ1 ((σ1.push ⟨1, 42, 0, [.int .i64 0, .int .i64 0, .string ⟨#[]⟩, .string ⟨#[]⟩, .slice none 0 0, .slice none 0 0]⟩).set σ1.next ⟨1, 42, 0, l⟩) := ((Kp.refl σ1).push _).set (Nat.le_refl _) _
   refine C.mono (cZ (h1.1.kp kp) _ _ dJ (by decide)) ?_
   rintro _ σ2 h2
   have gN : σ2.get σ1.next = ⟨1, 42, 0, l⟩ := (h2.2.get σ1.next (Nat.lt_succ_self _) (by omega) (by rw [bF]; show (42 : Nat) ≠ 5; decide)).trans bF
   refine aY b0 b2 b8 b9 b10 gN hl ho ?_
   refine aj (bP b0 b2) ?_
   have k2 := (kp.wk b).trans h2.2
   refine C.mono (hf _ hp _ _ _ _ _ _ ⟨hE _ _ he (h1.2.trans k2), aP.wk hx k2⟩ h2.1) ?_
   rintro _ σ3 h3
   refine kR b0 b2 b8 b9 b10 hadd ?_
   refine ⟨ps.length - (j + 1), by omega, j + 1, hlt, rfl, (dD), (aU b0), (aU b2), (aU b8), (aU b9), (dD), ?_⟩
   rw [nI fm hlt, if_neg h0]
   exact h1.trans ((h2.trans h3).kp kp)
 ·have c1 : decide ((j : Int) < (ps.length : Int)) = false := by simp [hlt]
  have ej : ps.take j = ps := List.take_of_length_le (by omega)
  rw [ej] at h1
  refine kR b0 b2 b8 b9 b10 c1 ?_
  refine iH ?_; simp only [Then, Out, iy, reduceIte, Nat.reduceEqDiff]
  refine kR b0 b2 b8 b9 b10 c1 ?_
  refine gI ?_
  exact h1
theorem Wv {E : AW → Prop} {b : Nat} (hE : dX b E) {d i : Int} {ps : List Tr} {fm : Tr → WM} {v : Value} {g : Nat} {fs cs : List Value} (hlen : ps.length ≤ 1000000) (hs : ∀ p ∈ ps, ShT 7 p) (hf : ∀ p ∈ ps, ∀ x, Writes (fun σ => E σ ∧ aP b p x σ) b d i g (fs ++ [x] ++ cs) (fm p)) :
  Writes (fun σ => E σ ∧ aP b (sl 7 ps) v σ) b d i 195 [.pointer (some ⟨b, 0, none⟩), v, .func (.func g) ⟨fs⟩ ⟨cs⟩] (dh (ps.map fm)) := by
 intro σ s t td tl ⟨he, hv⟩ h
 have l1 : ∀ τ, fF Tryz.prog τ 57 v = some (.int .i64 ps.length) := fun τ => by obtain ⟨a, c, rfl⟩ := aG hv; exact U2 τ a _ c
 refine Ld Tryz.func195 Tryz.ntmps195 Tryz.results195 fun A hz a0 a1 a2 => ?_
 refine dV a0 a1 a2 l1 ?_
 refine dB (dI (fun m B σ1 => ∃ j, j ≤ ps.length ∧ m = ps.length - j ∧ B.size = 24 ∧ B.get 0 = some (.pointer (some ⟨b, 0, none⟩)) ∧ B.get 2 = some (.func (.func g) ⟨fs⟩ ⟨cs⟩) ∧ B.get 8 = some v ∧ B.get 9 = some (.int .i64 (ps.length : Int)) ∧ B.get 10 = some (.int .i64 (j : Int)) ∧ Wrote b d i σ s t td tl (dh ((ps.take j).map fm)) (.bool true) σ1) ?_ (m := ps.length) (by refine' ⟨0, Nat.zero_le _, rfl, ?_, ?_, ?_, ?_, ?_, ?_, Wrote.nil h⟩; any_goals (first | exact bP a0 a2 | fail)))
 rintro m B σ1 ⟨j, hj, rfl, hz, b0, b2, b8, b9, b10, h1⟩
 by_cases hlt : j < ps.length
 ·have c1 : decide ((j : Int) < (ps.length : Int)) = true := by simp [hlt]
  have hv1 := aP.wk hv h1.2
  obtain ⟨bb, o, c, cs0, x, rfl, hrow, hel, htk, hx, hxl⟩ := zu hv1 PY hlt
  have hp := List.getElem_mem hlt
  have hr1 := hrow _ (Wk.refl b σ1)
  have hblt := h1.1.lt
  obtain ⟨l, rfl, hl, ho⟩ := eG (hs _ hp) hx
  simp only [aF] at htk hxl
  have hadd : aT .add (.int .i64 (j : Int)) (.int .i64 1) = some (.int .i64 ((j + 1 : Nat) : Int)) := by rw [aH (by omega) (by omega)]; rfl
  by_cases h0 : j = 0
  ·have c2 : decide ((0 : Int) < (j : Int)) = false := by simp [h0]
   refine iC hr1 b0 b2 b8 b9 b10 c1 hel (cJ htk (cJ hl (cJ ho c2))) ?_
   refine aj (bP b0 b2) ?_
   have kp : Kp σ1 ((σ1.push ⟨1, 87, 0, [.int .i64 0, .int .i64 0, .string ⟨#[]⟩, .string ⟨#[]⟩, .slice none 0 0, .slice none 0 0, .string ⟨#[]⟩]⟩).set σ1.next ⟨1, 87, 0, l⟩) := ((Kp.refl σ1).push _).set (Nat.le_refl _) _
   refine C.mono (hf _ hp _ _ _ _ _ _ ⟨hE _ _ he (h1.2.trans (kp.wk b)), aP.wk hx (kp.wk b)⟩ (h1.1.kp kp)) ?_
   rintro _ σ3 h3
   refine kR b0 b2 b8 b9 b10 hadd ?_
   refine ⟨ps.length - (j + 1), by omega, j + 1, hlt, rfl, (dD), (aU b0), (aU b2), (aU b8), (aU b9), (dD), ?_⟩
   rw [nI fm hlt, if_pos h0]
   have e1 : dh ((ps.take j).map fm) = dW := by rw [h0]; rfl
   rw [e1] at h1 h3
   have := h1.trans (h3.kp kp)
   rw [qK] at this
   exact this
  ·have c2 : decide ((0 : Int) < (j : Int)) = true := by simp; omega
   refine iC hr1 b0 b2 b8 b9 b10 c1 hel (cJ htk (cJ hl (cJ ho c2))) ?_
   refine aj (bP b0 b2) ?_
   have kp : Kp σ1 ((σ1.push ⟨1, 87, 0, [.int .i64 0, .int .i64 0, .string ⟨#[]⟩, .string ⟨#[]⟩, .slice none 0 0, .slice none 0 0, .string ⟨#[]⟩]⟩).set σ1.next ⟨1, 87, 0, l⟩) := ((Kp.refl σ1).push _).set (Nat.le_refl _) _
   refine C.mono (cZ (h1.1.kp kp) _ _ dJ (by decide)) ?_
   rintro _ σ2 h2
   have gN : σ2.get σ1.next = ⟨1, 87, 0, l⟩ := (h2.2.get σ1.next (Nat.lt_succ_self _) (by omega) (by rw [bF]; show (87 : Nat) ≠ 5; decide)).trans bF
   refine aY b0 b2 b8 b9 b10 gN hl ho ?_
   refine aj (bP b0 b2) ?_
   have k2 := (kp.wk b).trans h2.2
   refine C.mono (hf _ hp _ _ _ _ _ _ ⟨hE _ _ he (h1.2.trans k2), aP.wk hx k2⟩ h2.1) ?_
   rintro _ σ3 h3
   refine kR b0 b2 b8 b9 b10 hadd ?_
   refine ⟨ps.length - (j + 1), by omega, j + 1, hlt, rfl, (dD), (aU b0), (aU b2), (aU b8), (aU b9), (dD), ?_⟩
   rw [nI fm hlt, if_neg h0]
   exact h1.trans ((h2.trans h3).kp kp)
 ·have c1 : decide ((j : Int) < (ps.length : Int)) = false := by simp [hlt]
  have ej : ps.take j = ps := List.take_of_length_le (by omega)
  rw [ej] at h1
  refine kR b0 b2 b8 b9 b10 c1 ?_
  refine iH ?_; simp only [Then, Out, iy, reduceIte, Nat.reduceEqDiff]
  refine kR b0 b2 b8 b9 b10 c1 ?_
  refine gI ?_
  exact h1
theorem Wx {E : AW → Prop} {b : Nat} (hE : dX b E) {d i : Int} {ps : List Tr} {fm : Tr → WM} {v : Value} {g : Nat} {fs cs : List Value} (hlen : ps.length ≤ 1000000) (hs : ∀ p ∈ ps, ShT 7 p) (hf : ∀ p ∈ ps, ∀ x, Writes (fun σ => E σ ∧ aP b p x σ) b d i g (fs ++ [x] ++ cs) (fm p)) :
  Writes (fun σ => E σ ∧ aP b (sl 7 ps) v σ) b d i 198 [.pointer (some ⟨b, 0, none⟩), v, .func (.func g) ⟨fs⟩ ⟨cs⟩] (dh (ps.map fm)) := by
 intro σ s t td tl ⟨he, hv⟩ h
 have l1 : ∀ τ, fF Tryz.prog τ 59 v = some (.int .i64 ps.length) := fun τ => by obtain ⟨a, c, rfl⟩ := aG hv; exact PX τ a _ c
 refine Ld Tryz.func198 Tryz.ntmps198 Tryz.results198 fun A hz a0 a1 a2 => ?_
 refine dV a0 a1 a2 l1 ?_
 refine dB (dI (fun m B σ1 => ∃ j, j ≤ ps.length ∧ m = ps.length - j ∧ B.size = 24 ∧ B.get 0 = some (.pointer (some ⟨b, 0, none⟩)) ∧ B.get 2 = some (.func (.func g) ⟨fs⟩ ⟨cs⟩) ∧ B.get 8 = some v ∧ B.get 9 = some (.int .i64 (ps.length : Int)) ∧ B.get 10 = some (.int .i64 (j : Int)) ∧ Wrote b d i σ s t td tl (dh ((ps.take j).map fm)) (.bool true) σ1) ?_ (m := ps.length) (by refine' ⟨0, Nat.zero_le _, rfl, ?_, ?_, ?_, ?_, ?_, ?_, Wrote.nil h⟩; any_goals (first | exact bP a0 a2 | fail)))
 rintro m B σ1 ⟨j, hj, rfl, hz, b0, b2, b8, b9, b10, h1⟩
 by_cases hlt : j < ps.length
 ·have c1 : decide ((j : Int) < (ps.length : Int)) = true := by simp [hlt]
  have hv1 := aP.wk hv h1.2
  obtain ⟨bb, o, c, cs0, x, rfl, hrow, hel, htk, hx, hxl⟩ := zu hv1 PZ hlt
  have hp := List.getElem_mem hlt
  have hr1 := hrow _ (Wk.refl b σ1)
  have hblt := h1.1.lt
  obtain ⟨l, rfl, hl, ho⟩ := eG (hs _ hp) hx
  simp only [aF] at htk hxl
  have hadd : aT .add (.int .i64 (j : Int)) (.int .i64 1) = some (.int .i64 ((j + 1 : Nat) : Int)) := by rw [aH (by omega) (by omega)]; rfl
  by_cases h0 : j = 0
  ·have c2 : decide ((0 : Int) < (j : Int)) = false := by simp [h0]
   refine iC hr1 b0 b2 b8 b9 b10 c1 hel (cJ htk (cJ hl (cJ ho c2))) ?_
   refine aj (bP b0 b2) ?_
   have kp : Kp σ1 ((σ1.push ⟨1, 89, 0, [.int .i64 0, .int .i64 0, .string ⟨#[]⟩, .string ⟨#[]⟩, .slice none 0 0, .slice none 0 0, .bool false]⟩).set σ1.next ⟨1, 89, 0, l⟩) := ((Kp.refl σ1).push _).set (Nat.le_refl _) _
   refine C.mono (hf _ hp _ _ _ _ _ _ ⟨hE _ _ he (h1.2.trans (kp.wk b)), aP.wk hx (kp.wk b)⟩ (h1.1.kp kp)) ?_
   rintro _ σ3 h3
   refine kR b0 b2 b8 b9 b10 hadd ?_
   refine ⟨ps.length - (j + 1), by omega, j + 1, hlt, rfl, (dD), (aU b0), (aU b2), (aU b8), (aU b9), (dD), ?_⟩
   rw [nI fm hlt, if_pos h0]
   have e1 : dh ((ps.take j).map fm) = dW := by rw [h0]; rfl
   rw [e1] at h1 h3
   have := h1.trans (h3.kp kp)
   rw [qK] at this
   exact this
  ·have c2 : decide ((0 : Int) < (j : Int)) = true := by simp; omega
   refine iC hr1 b0 b2 b8 b9 b10 c1 hel (cJ htk (cJ hl (cJ ho c2))) ?_
   refine aj (bP b0 b2) ?_
   have kp : Kp σ1 ((σ1.push ⟨1, 89, 0, [.int .i64 0, .int .i64 0, .string ⟨#[]⟩, .string ⟨#[]⟩, .slice none 0 0, .slice none 0 0, .bool false]⟩).set σ1.next ⟨1, 89, 0, l⟩) := ((Kp.refl σ1).push _).set (Nat.le_refl _) _
   refine C.mono (cZ (h1.1.kp kp) _ _ dJ (by decide)) ?_
   rintro _ σ2 h2
   have gN : σ2.get σ1.next = ⟨1, 89, 0, l⟩ := (h2.2.get σ1.next (Nat.lt_succ_self _) (by omega) (by rw [bF]; show (89 : Nat) ≠ 5; decide)).trans bF
   refine aY b0 b2 b8 b9 b10 gN hl ho ?_
   refine aj (bP b0 b2) ?_
   have k2 := (kp.wk b).trans h2.2
   refine C.mono (hf _ hp _ _ _ _ _ _ ⟨hE _ _ he (h1.2.trans k2), aP.wk hx k2⟩ h2.1) ?_
   rintro _ σ3 h3
   refine kR b0 b2 b8 b9 b10 hadd ?_
   refine ⟨ps.length - (j + 1), by omega, j + 1, hlt, rfl, (dD), (aU b0), (aU b2), (aU b8), (aU b9), (dD), ?_⟩
   rw [nI fm hlt, if_neg h0]
   exact h1.trans ((h2.trans h3).kp kp)
 ·have c1 : decide ((j : Int) < (ps.length : Int)) = false := by simp [hlt]
  have ej : ps.take j = ps := List.take_of_length_le (by omega)
  rw [ej] at h1
  refine kR b0 b2 b8 b9 b10 c1 ?_
  refine iH ?_; simp only [Then, Out, iy, reduceIte, Nat.reduceEqDiff]
  refine kR b0 b2 b8 b9 b10 c1 ?_
  refine gI ?_
  exact h1
def oK (b : Nat) (d i : Int) (fi : Tr → WM) (ps : List Tr) : Prop := ∀ p ∈ ps, ∀ x, Writes (aP b p x) b d i 101 [.pointer (some ⟨b, 0, none⟩), x] (fi p)
theorem Writes.weak {E F : AW → Prop} {b : Nat} {d i : Int} {g : Nat} {xs : List Value} {m : WM} (h : Writes F b d i g xs m) (k : ∀ σ, E σ → F σ) : Writes E b d i g xs m := fun σ s t td tl he hw => h σ s t td tl (k σ he) hw
theorem OI {σ : AW} {b : Nat} {s : ByteArray} {d i : Int} {t td tl : Bool} (h : Dt σ b s d i t td tl) {w c e z : Nat} {ws : List ByteArray} (hw : σ.get w = ⟨1, e, z, ws.map Value.string⟩) (he : e ≠ 5) (hwb : w ≠ b) (hwn : w < σ.next) (hlen : ws.length ≤ 1000) (hx : ∀ x ∈ ws, x.size ≤ 70000) :
  C Tryz.prog 54 [.pointer (some ⟨b, 0, none⟩), .slice (some ⟨w, 0, none⟩) ws.length c] σ (Wrote b d i σ s t td tl (aK ws)) := by
 refine C.mono (Wh h hw he hwb hwn hlen hx) ?_
 rintro v σ' ⟨h1, k1⟩
 refine ⟨?_, k1⟩
 rw [Ib, Bool.or_false]
 exact h1
def Qq (fi : Tr → WM) (kids : List Tr) : WM := match kids with
 | [] => aK [kF]
 | x :: _ => fi x
theorem L9 {b : Nat} {d i : Int} {kids : List Tr} {v : Value} {fi : Tr → WM} (hs : ∀ p ∈ kids, ShT 6 p) (hin : oK b d i fi kids) :
  Writes (aP b (sl 6 kids) v) b d i 61 [.pointer (some ⟨b, 0, none⟩), v] (Qq fi kids) := by
 intro σ s t td tl hv h
 have l1 : ∀ τ, fF Tryz.prog τ 39 v = some (.int .i64 kids.length) := fun τ => by obtain ⟨a, c, rfl⟩ := aG hv; exact Df τ a _ c
 refine fG Tryz.func61 Tryz.ntmps61 Tryz.results61 fun A hz a0 a1 => ?_
 by_cases hk : kids.length = 0
 ·have c1 : ((kids.length : Int) == 0) = true := by simp [hk]
  have ek := List.eq_nil_of_length_eq_zero hk
  refine dV a0 a1 l1 c1 ?_
  refine aj (bP a0 a1) ?_
  refine C.mono (cZ h _ _ kF (by decide)) ?_
  rintro _ σ1 h1
  refine iO ?_
  refine dG ?_
  subst ek
  exact h1
 ·have c1 : ((kids.length : Int) == 0) = false := by simp only [beq_eq_false_iff_ne]; omega
  obtain ⟨bb, o, c, cs0, x, rfl, hrow, hel, htk, hx, hxl⟩ := zu hv oM (i := 0) (by omega)
  have hr1 := hrow _ (Wk.refl b σ)
  obtain ⟨l, rfl, hl, ho⟩ := eG (hs _ (List.getElem_mem _)) hx
  have Zf : bU Tryz.prog 42 ⟨bb, o, none⟩ kids.length (0 : Int) = _ := hel
  simp only [aF] at htk
  generalize o + 0 * 6 = q at Zf htk
  refine iC hr1 a0 a1 l1 c1 Zf htk hl ho ?_
  refine aj (bP a0 a1) ?_
  refine C.mono (hin _ (List.getElem_mem _) _ σ _ _ _ _ hx h) ?_
  rintro _ σ1 h1
  refine iO ?_
  refine gI ?_
  cases kids with
  | nil => exact absurd rfl hk
  | cons p rest => exact h1
theorem Ii {E : AW → Prop} {b : Nat} {d i : Int} {n : Int} : Writes E b d i 107 [.pointer (some ⟨b, 0, none⟩), .int .i64 n] (tK n) := by
 intro σ s t td tl _ h
 refine fG Tryz.func107 Tryz.ntmps107 Tryz.results107 fun A hz a0 a1 => ?_
 unfold tK
 by_cases hn : n = 1
 ·have c1 : (n == 1) = true := by simp [hn]
  rw [if_pos hn]
  refine dS a0 a1 c1 ?_
  refine aj (bP a0 a1) ?_
  refine C.mono (cZ h _ _ iT (by decide)) ?_
  rintro _ σ1 h1
  refine iO ?_
  refine gI ?_
  exact h1
 ·have c1 : (n == 1) = false := by simp [hn]
  rw [if_neg hn]
  refine dS a0 a1 c1 ?_
  refine gI ?_
  exact Wrote.nil h
theorem wo {b : Nat} {d i : Int} {es : List Tr} {v : Value} {fi : Tr → WM} {ws : List ByteArray} {w c z : Nat} (hlen : es.length ≤ 1000000) (hs : ∀ p ∈ es, ShT 6 p) (hin : oK b d i fi es) (hwl : ws.length ≤ 1000) (hwx : ∀ x ∈ ws, x.size ≤ 70000) :
  Writes (fun σ => aP b (sl 6 es) v σ ∧ σ.get w = ⟨1, 9, z, ws.map Value.string⟩ ∧ w < σ.next ∧ w ≠ b) b d i 146 [.pointer (some ⟨b, 0, none⟩), v, .slice (some ⟨w, 0, none⟩) ws.length c] (if es = [] then dW else aQ (aK ws) (dh (es.map fi))) := by
 intro σ s t td tl ⟨hv, hw, hwn, hwb⟩ h
 have l1 : ∀ τ, fF Tryz.prog τ 39 v = some (.int .i64 es.length) := fun τ => by obtain ⟨a, c, rfl⟩ := aG hv; exact Df τ a _ c
 refine Ld Tryz.func146 Tryz.ntmps146 Tryz.results146 fun A hz a0 a1 a2 => ?_
 by_cases h0 : es = []
 ·have c1 : decide ((0 : Int) < (es.length : Int)) = false := by simp [h0]
  rw [if_pos h0]
  refine jy a0 a1 a2 l1 c1 ?_
  refine gI ?_
  exact Wrote.nil h
 ·have c1 : decide ((0 : Int) < (es.length : Int)) = true := by
   have := List.length_pos_iff.2 h0
   simp only [decide_eq_true_eq]; omega
  rw [if_neg h0]
  refine jy a0 a1 a2 l1 c1 ?_
  refine aj (lF a0 a1 a2) ?_
  refine C.mono (OI h hw (by decide) hwb hwn hwl hwx) ?_
  rintro _ σ1 h1
  refine dS a0 a1 a2 ?_
  refine aj (lF a0 a1 a2) ?_
  refine C.mono (FC (E := fun _ => True) (fs := [.pointer (some ⟨b, 0, none⟩)]) (cs := []) ou hlen hs (fun p hp x => (hin p hp x).weak fun _ h => h.2) σ1 _ _ _ _ ⟨trivial, aP.wk hv h1.2⟩ h1.1) ?_
  rintro _ σ2 h2
  refine iO ?_
  refine gI ?_
  exact h1.trans h2
theorem OJ {b N e1 z1 : Nat} {c1 : List Value} (hb : b < N) (h1 : e1 ≠ 5) : dX b fun σ => σ.get N = ⟨1, e1, z1, c1⟩ ∧ N + 1 ≤ σ.next :=
 fun σ σ' ⟨g1, hn⟩ k => ⟨(k.get N (by omega) (by omega) (by rw [g1]; exact h1)).trans g1, Nat.le_trans hn k.next⟩
theorem Mc {b : Nat} {d i : Int} {l : List Tr} {v : Value} (hlen : l.length ≤ 1000000) (hs : ∀ p ∈ l, ∃ s : ByteArray, p = .string s ∧ s.size ≤ 70000) :
  Writes (aP b (sl 1 l) v) b d i 147 [.pointer (some ⟨b, 0, none⟩), v] (dh (l.map fun p => aK [fM p])) := by
 intro σ s t td tl hv h
 have hlt := h.lt
 refine fG Tryz.func147 Tryz.ntmps147 Tryz.results147 fun A hz a0 a1 => ?_
 refine gQ a0 a1 ?_
 refine aj (bP a0 a1) ?_
 have kp : Kp σ (σ.push ⟨1, 48, 0, [.pointer (some ⟨b, 0, none⟩)]⟩) := (Kp.refl σ).push _
 refine C.mono (Wu (E := fun σ' => σ'.get σ.next = ⟨1, 48, 0, [.pointer (some ⟨b, 0, none⟩)]⟩ ∧ σ.next + 1 ≤ σ'.next) (fs := []) (OJ hlt (by decide)) hlen (fun p hp => (hs p hp).imp fun _ h => h.1) (fm := fun p => aK [fM p]) (fun p hp x => ?_) _ s t td tl ⟨⟨aA, Nat.le_refl _⟩, aP.wk hv (kp.wk b)⟩ (h.kp kp)) ?_
 ·intro σ1 s1 t1 Uf tl1 ⟨⟨gN, hn⟩, hx⟩ h1
  obtain ⟨y, rfl, hy⟩ := hs p hp
  have hx0 := jQ.1 hx
  subst hx0
  refine fG Tryz.func180 Tryz.ntmps180 Tryz.results180 fun A hz a0 a1 => ?_
  refine dS a0 a1 gN ?_
  refine aj (bP a0 a1) ?_
  refine C.mono (cZ h1 _ _ y hy) ?_
  rintro _ σ2 h2
  refine iO ?_
  refine gI ?_
  exact h2
 ·rintro _ σ2 h2
  refine iO ?_
  refine gI ?_
  exact h2.kp kp
end Go.Proofs.YthogkmcahnkkoaaGreatDoor
