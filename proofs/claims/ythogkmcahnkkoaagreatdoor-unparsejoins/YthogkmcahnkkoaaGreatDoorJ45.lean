/- What package unparse asks of texts: letter by letter. What package unparse takes for right, all together. The program's Script, of scripts without declarations. The program's Expr. The chapter's examples, run by the program. A return that ends all. -/
import Derived.Test.YthogkmcahnkkoaaGreatDoorJ43
import Derived.Laws.RangeString
import Derived.Laws.RangeAny
import Derived.Laws.Runes
import Derived.Test.YthogkmcahnkkoaaGreatDoorJ44
namespace Go.Proofs.YthogkmcahnkkoaaGreatDoor
open Go.RowKit
set_option linter.unusedSimpArgs false
set_option linter.unusedVariables false
def uF (s : ByteArray) : Nat → Nat → Bool
 | 0, _ => true
 | b + 1, pos => if pos < s.size then (if (Utf8.decode s pos).1 < 32 ∧ (Utf8.decode s pos).1 ≠ 10 then false else uF s b (pos + (Utf8.decode s pos).2)) else true
def yM (s : ByteArray) : Bool := uF s s.size 0 && decide (s.size ≤ 1000)
theorem O9 (s : ByteArray) (pos : Nat) (h : pos < s.size) : 1 ≤ (Utf8.decode s pos).2 := by
 by_cases ha : (s[pos]'h).toNat < 128
 ·rw [decode_ascii s pos h ha]
  exact Nat.le_refl _
 ·exact (decode_high s pos h (by omega)).2
theorem TY (s : ByteArray) (b pos : Nat) (h : ¬ pos < s.size) : uF s b pos = true := by
 cases b with
 | zero => rfl
 | succ b => simp [uF, h]
theorem zB (w : World) (s : ByteArray) (pos : Nat) : Below w.heap.size w (w.iter s pos) := (Below.refl _ _).alloc (Nat.le_refl _) _
set_option maxHeartbeats 2000000 in
theorem XD (s : ByteArray) (w : World) : Calls Tryz.prog 46 #[.string s] w fun e w' => e = .returned (.bool (yM s)) ∧ Below w.heap.size w w' := by
 go_enter Tryz.func46, Tryz.ntmps46
 go_wp2_with fail
 go_loopw [] (fun w' => ∃ (pos b : Nat), w' = w.iter s pos ∧ uF s b pos = uF s s.size 0 ∧ s.size ≤ pos + b) (fun w' => s.size - w'.iterPos w.heap.size)
 case atStart => exact ⟨0, s.size, rfl, rfl, by omega⟩
 case round =>
  obtain ⟨pos, b, rfl, hc, hb⟩ := hrel
  by_cases hp : pos < s.size
  ·have hnx : ∀ ty, (Instr.next (.pointer (some ⟨w.heap.size, 0, none⟩)) true ty).run Tryz.prog (w.iter s pos) = _ := fun ty => run_next_any w s pos ty hp
   have hwd := O9 s pos hp
   obtain ⟨f, rfl⟩ : ∃ f, b = f + 1 := ⟨b - 1, by omega⟩
   have hstep : uF s (f + 1) pos = if (Utf8.decode s pos).1 < 32 ∧ (Utf8.decode s pos).1 ≠ 10 then false else uF s f (pos + (Utf8.decode s pos).2) := by
    show (if pos < s.size then _ else true) = _
    rw [if_pos hp]
   generalize (Utf8.decode s pos).1 = c at *
   generalize (Utf8.decode s pos).2 = wd at *
   by_cases h32 : c < 32
   ·have c1 : decide ((c : Int) < 32) = true := by simp only [decide_eq_true_eq]; omega
    by_cases h10 : c = 10
    ·have c2 : ((c : Int) == 10) = true := by rw [h10]; rfl
     rw [if_neg (by omega)] at hstep
     have HC : Hid (c = 10) := h10
     clear h10
     go_wp2_with fail
     go_roundw
     case rel => exact ⟨pos + wd, f, rfl, by rw [← hc, hstep], by omega⟩
     case measure => simp; omega
    ·have c2 : ((c : Int) == 10) = false := by simp only [beq_eq_false_iff_ne]; omega
     rw [if_pos ⟨h32, h10⟩] at hstep
     have ht : uF s s.size 0 = false := by rw [← hc, hstep]
     go_wp2_with fail
     go_ret
     exact ⟨by simp [yM, ht], zB _ _ _⟩
   ·have c1 : decide ((c : Int) < 32) = false := by simp only [decide_eq_false_iff_not]; omega
    rw [if_neg (by omega)] at hstep
    go_wp2_with fail
    go_roundw
    case rel => exact ⟨pos + wd, f, rfl, by rw [← hc, hstep], by omega⟩
    case measure => simp; omega
  ·have hnx : ∀ ty, (Instr.next (.pointer (some ⟨w.heap.size, 0, none⟩)) true ty).run Tryz.prog (w.iter s pos) = _ := fun ty => run_next_end w s pos ty hp
   have ht : uF s s.size 0 = true := by rw [← hc]; exact TY s b pos hp
   by_cases hl : s.size ≤ 1000
   ·have c1 : decide ((s.size : Int) ≤ 1000) = true := by simp only [decide_eq_true_eq]; omega
    go_wp2_with fail
    go_ret
    exact ⟨by simp [yM, ht, hl], zB _ _ _⟩
   ·have c1 : decide ((s.size : Int) ≤ 1000) = false := by simp only [decide_eq_false_iff_not]; omega
    go_wp2_with fail
    go_ret
    exact ⟨by simp [yM, ht, hl], zB _ _ _⟩
end Go.Proofs.YthogkmcahnkkoaaGreatDoor
namespace Go.Proofs.YthogkmcahnkkoaaGreatDoor
open Go.RowKit
set_option maxRecDepth 10000
set_option linter.unusedSimpArgs false
set_option linter.unusedVariables false
theorem ZO (s : ByteArray) : bV (fun _ => True) 46 [.string s] (yM s) := fun σ _ =>
 C.mono (L6 Tryz.func46 rfl rfl rfl (fun _ => rfl) (fun ρ w _ => XD s w)) (by rintro v σ' ⟨rfl, rfl⟩; exact ⟨rfl, Kp.refl _⟩)
abbrev okS : Nat → Rt := eP yM
abbrev okT : Nat → Tr → Bool := SK yM
theorem Pe : ∀ n, (∀ p, (bT b0 n).e p → ∀ x, bV (bW p x) 21 [x] ((okS n).e p)) ∧ (∀ p, (bT b0 n).q p → ∀ x, bV (bW p x) 53 [x] ((okS n).q p)) ∧ (∀ p, (bT b0 n).f p → ∀ x, bV (bW p x) 131 [x] ((okS n).f p))
 | 0 => ⟨fun _ h => h.elim, fun _ h => h.elim, fun _ h => h.elim⟩
 | n + 1 => by
  obtain ⟨hE, hQ, hF⟩ := Pe n
  refine ⟨fun p hp x => ?_, fun p hp x => ?_, fun p hp x => ?_⟩
  ·obtain ⟨k, m, s, t, kids, qs, rfl, hk, hm, hs, ht, hkids, yK⟩ := hp
   exact Zx (fun s _ => ZO s) hE hQ hs ht hkids yK
  ·obtain ⟨k, di, m, items, froms, wh, gr, ha, or, kids, rfl, hk, hm, hit, hfr, hwh, hgr, hha, hor, hkids⟩ := hp
   exact Xg hE hQ hF hit hfr hwh hgr hha hor hkids
  ·obtain ⟨k, v, t, a, q, kids, on, rfl, hk, ht, ha, hq, hkids, hon⟩ := hp
   exact Zz hE hQ hF ht ha hq hkids hon
theorem Qz : ∀ n, ∀ p, vF b0 n p → ∀ x, bV (bW p x) 32 [x] (okT n p)
 | 0 => fun _ h => h.elim
 | n + 1 => by
  intro p hp x
  obtain ⟨hE, hQ, hF⟩ := Pe n
  obtain ⟨k, a, t, names, es, qs, wh, body, other, rfl, hk, ha, ht, hnm, hes, yK, hwh, ZC, hot⟩ := hp
  exact ZN hE hQ hF (Qz n) ht hnm hes yK hwh ZC hot
theorem Gz {n : Nat} {body : List Tr} (hl : body.length ≤ 2000) (hb : ∀ p ∈ body, vF b0 n p) {x : Value} : bV (bW (zq [] [] body) x) 13 [x] (body.all (okT n)) := by
 intro σ hx
 obtain ⟨v1, v2, v3, rfl, r1, r2, r3⟩ := Ip hx
 obtain ⟨a1, c1, rfl⟩ := aG r1
 obtain ⟨a2, c2, rfl⟩ := aG r2
 obtain ⟨a3, c3, rfl⟩ := aG r3
 have kp : Kp σ (σ.push ⟨1, 26, 0, [.slice a1 ([] : List Tr).length c1, .slice a2 ([] : List Tr).length c2, .slice a3 body.length c3]⟩) := (Kp.refl σ).push _
 refine pK Tryz.func13 Tryz.ntmps13 Tryz.results13 fun A hz a0 => ?_
 refine jR a0 ?_
 refine aj (aU a0) ?_
 refine C.mono (Xe (R := fun _ => true) (fs := []) (cs := []) (by decide) (fun p hp => absurd hp (by simp)) (fun p hp => absurd hp (by simp)) _ (bW.kp r1 kp)) ?_
 rintro _ σ1 ⟨rfl, k1⟩
 have e1 : (([] : List Tr).all fun _ => true) = true := rfl
 rw [e1]
 have n1 := k1.next
 rw [ah] at n1
 have g1 := (k1.get σ.next (Nat.lt_succ_self _)).trans aA
 refine gQ a0 g1 ?_
 refine aj (aU a0) ?_
 refine C.mono (Xf (R := fun _ => true) (fs := []) (cs := []) (by decide) (fun p hp => absurd hp (by simp)) (fun p hp => absurd hp (by simp)) _ (bW.kp r2 (kp.trans k1))) ?_
 rintro _ σ2 ⟨rfl, k2⟩
 rw [e1]
 have n2 := k2.next
 have g2 := (k2.get σ.next (by omega)).trans g1
 refine gQ a0 g2 ?_
 refine aj (aU a0) ?_
 refine C.mono (vC (R := okT n) (fs := []) (cs := []) (by omega) (fun p hp => JD (hb p hp)) (fun p hp x => Qz n p (hb p hp) x) _ (bW.kp r3 ((kp.trans k1).trans k2))) ?_
 rintro _ σ3 ⟨rfl, k3⟩
 refine iO ?_
 refine dG ?_
 exact ⟨trivial, ((kp.trans k1).trans k2).trans k3⟩
theorem ZP {b : Nat} {d i : Int} {v : Value} : Writes (aP b (sl 2 []) v) b d i 33 [.pointer (some ⟨b, 0, none⟩), v] dW := by
 intro σ s0 t0 td tl hx h
 have hlt := h.lt
 obtain ⟨va, vc, rfl⟩ := aG hx
 have kp : Kp σ (σ.push ⟨1, 48, 0, [.pointer (some ⟨b, 0, none⟩)]⟩) := (Kp.refl σ).push _
 have c1 : decide ((0 : Int) < ((0 : Nat) : Int)) = false := rfl
 refine fG Tryz.func33 Tryz.ntmps33 Tryz.results33 fun A hz a0 a1 => ?_
 refine gQ a0 a1 ?_
 apply dB
 apply nY
 refine dS a0 a1 c1 ?_
 refine xL ?_
 refine iO ?_
 refine gI ?_
 exact (Wrote.nil (h.kp kp)).kp kp
theorem Ua {b : Nat} {d i : Int} {body : List Tr} {m : WM} {x : Value} (hs : ∀ v, Writes (aP b (sl 9 body) v) b d i 35 [.pointer (some ⟨b, 0, none⟩), v] m) :
  Writes (aP b (zq [] [] body) x) b d i 15 [.pointer (some ⟨b, 0, none⟩), x] m := by
 intro σ s0 t0 td tl hx h
 have hlt := h.lt
 obtain ⟨v1, v2, v3, rfl, r1, r2, r3⟩ := Ip hx
 obtain ⟨p1, q1, rfl⟩ := aG r1
 obtain ⟨p2, q2, rfl⟩ := aG r2
 obtain ⟨p3, q3, rfl⟩ := aG r3
 have kp : Kp σ (σ.push ⟨1, 26, 0, [.slice p1 ([] : List Tr).length q1, .slice p2 ([] : List Tr).length q2, .slice p3 body.length q3]⟩) := (Kp.refl σ).push _
 have c1 : decide ((0 : Int) < ((0 : Nat) : Int)) = false := rfl
 refine fG Tryz.func15 Tryz.ntmps15 Tryz.results15 fun A hz a0 a1 => ?_
 refine gQ a0 a1 ?_
 refine aj (bP a0 a1) ?_
 refine C.mono (ZP _ _ _ _ _ (aP.wk r1 (kp.wk b)) (h.kp kp)) ?_
 rintro _ σ1 h1
 obtain ⟨gN, hn⟩ := box1 hlt h1.2 (by decide)
 refine dS a0 a1 gN ?_
 apply dB
 apply nY
 refine dV a0 a1 gN c1 ?_
 refine xL ?_
 refine dS a0 a1 gN ?_
 refine aj (bP a0 a1) ?_
 refine C.mono (hs _ _ _ _ _ _ (aP.wk r3 ((kp.wk b).trans h1.2)) h1.1) ?_
 rintro _ σ2 h2
 refine iO ?_
 refine gI ?_
 have := (h1.trans h2).kp kp
 rw [qK] at this
 exact this
theorem CO {n : Nat} {body : List Tr} (hl : body.length ≤ 2000) (hb : ∀ p ∈ body, vF b0 (n + 1) p) {x : Value} {σ : AW} (hx : Ee (zq [] [] body) x σ) :
  C Tryz.prog 6 [x] σ fun v σ' => v = .tuple ⟨[.string (lD (body.all (okT (n + 1))) (dH (n + 1) 1 0 body true)).1, .int .i64 (lD (body.all (okT (n + 1))) (dH (n + 1) 1 0 body true)).2]⟩ ∧ KU σ σ' := by
 obtain ⟨v1, v2, v3, rfl, r1, r2, r3⟩ := Ip hx
 obtain ⟨p1, q1, rfl⟩ := aG r1
 obtain ⟨p2, q2, rfl⟩ := aG r2
 obtain ⟨p3, q3, rfl⟩ := aG r3
 have kp : Kp σ (σ.push ⟨1, 26, 0, [.slice p1 ([] : List Tr).length q1, .slice p2 ([] : List Tr).length q2, .slice p3 body.length q3]⟩) := (Kp.refl σ).push _
 refine pK Tryz.func6 Tryz.ntmps6 Tryz.results6 fun A hz a0 => ?_
 refine jR a0 ?_
 refine aj (aU a0) ?_
 refine C.mono (Gz hl hb _ (Ee.rda (hx.ku kp.ku))) ?_
 rintro _ σ1 ⟨rfl, k1⟩
 have n1 := k1.next
 rw [ah] at n1
 have g1 := (k1.get σ.next (Nat.lt_succ_self _)).trans aA
 refine gQ a0 g1 ?_
 refine aj (aU a0) ?_
 have hst : ∀ b, dX b fun σ' => aP b (zq [] [] body) (.agg ⟨[.slice p1 ([] : List Tr).length q1, .slice p2 ([] : List Tr).length q2, .slice p3 body.length q3]⟩) σ' ∧ (σ'.get σ.next = ⟨1, 26, 0, [.slice p1 ([] : List Tr).length q1, .slice p2 ([] : List Tr).length q2, .slice p3 body.length q3]⟩ ∧ σ.next < σ'.next ∧ σ.next ≠ b) :=
  fun b τ τ' ⟨h1, h2, h3, h4⟩ k => ⟨h1.wk k, (k.get _ h3 h4 (by rw [h2]; show (26 : Nat) ≠ 5; decide)).trans h2, Nat.lt_of_lt_of_le h3 k.next, h4⟩
 refine C.mono (MX (fs := []) (m := dH (n + 1) 1 0 body) hst (fun b τ k hb => ⟨Ee.rdw hx ((kp.trans k1).trans k).ku (by omega), (k.get _ (by omega)).trans g1, by have := k.next; omega, by omega⟩) (fun hr b => ?_)) ?_
 ·intro τ s0 t0 td tl ⟨h1, h2, h3, h4⟩ h
  refine fG Tryz.func14 Tryz.ntmps14 Tryz.results14 fun A hz a0 a1 => ?_
  refine dS a0 a1 h2 ?_
  refine aj (bP a0 a1) ?_
  have ok : ∀ p ∈ body, OkS yM (n + 1) p := fun p hp => ⟨hb p hp, List.all_eq_true.1 hr p hp⟩
  refine C.mono (Ua (fun v => JC (by omega) (fun p hp => JD (hb p hp)) (fun p hp x => Io (d := 1) (i := 0) (MS yM n) (by decide) (by decide) (ok p hp) x) v) _ _ _ _ _ h1 h) ?_
  rintro _ τ2 h5
  refine iO ?_
  refine gI ?_
  exact h5
 ·rintro _ σ2 ⟨rfl, k2⟩
  refine iO ?_
  refine dG ?_
  exact ⟨trivial, (kp.trans k1).ku.trans k2⟩
theorem QA {n : Nat} {p : Tr} (hp : (bT b0 n).e p) {x : Value} {σ : AW} (hx : Ee p x σ) :
  C Tryz.prog 11 [x] σ fun v σ' => v = .tuple ⟨[.string (lD ((okS n).e p) ((jY n).e 1 p true)).1, .int .i64 (lD ((okS n).e p) ((jY n).e 1 p true)).2]⟩ ∧ KU σ σ' := by
 have hx0 := hx
 obtain ⟨k, m, s, t, kids, qs, hpe⟩ := FM hp
 have hx1 : Rd σ _ (kH k m s t kids qs) x := hpe ▸ hx
 obtain ⟨v1, v2, rfl, r1, r2⟩ := qL hx1
 have o4 := ay r1
 have o5 := ay r2
 have kp : Kp σ (σ.push ⟨1, 42, 0, [.int .i64 k, .int .i64 m, .string s, .string t, v1, v2]⟩) := (Kp.refl σ).push _
 refine pK Tryz.func11 Tryz.ntmps11 Tryz.results11 fun A hz a0 => ?_
 refine dS a0 o4 o5 ?_
 refine aj (lF a0 o4 o5) ?_
 refine C.mono ((Pe n).1 p hp _ _ (Ee.rda (hx0.ku kp.ku))) ?_
 rintro _ σ1 ⟨rfl, k1⟩
 have n1 := k1.next
 rw [ah] at n1
 have g1 := (k1.get σ.next (Nat.lt_succ_self _)).trans aA
 refine gQ a0 g1 ?_
 refine aj (aU a0) ?_
 have hst : ∀ b, dX b fun σ' => aP b p (.agg ⟨[.int .i64 k, .int .i64 m, .string s, .string t, v1, v2]⟩) σ' ∧ (σ'.get σ.next = ⟨1, 42, 0, [.int .i64 k, .int .i64 m, .string s, .string t, v1, v2]⟩ ∧ σ.next < σ'.next ∧ σ.next ≠ b) :=
  fun b τ τ' ⟨h1, h2, h3, h4⟩ k => ⟨h1.wk k, (k.get _ h3 h4 (by rw [h2]; show (42 : Nat) ≠ 5; decide)).trans h2, Nat.lt_of_lt_of_le h3 k.next, h4⟩
 refine C.mono (MX (fs := []) (m := (jY n).e 1 p) hst (fun b τ k hb => ⟨Ee.rdw hx0 ((kp.trans k1).trans k).ku (by omega), (k.get _ (by omega)).trans g1, by have := k.next; omega, by omega⟩) (fun hr b => ?_)) ?_
 ·intro τ s0 t0 td tl ⟨h1, h2, h3, h4⟩ h
  refine fG Tryz.func22 Tryz.ntmps22 Tryz.results22 fun A hz a0 a1 => ?_
  refine jy a0 a1 h2 o4 o5 ?_
  refine aj (bP a0 a1) ?_
  refine C.mono ((OX yM n).1 b 1 0 p (by decide) ⟨hp, hr⟩ _ _ _ _ _ _ h1 h) ?_
  rintro _ τ2 h5
  refine iO ?_
  refine gI ?_
  exact h5
 ·rintro _ σ2 ⟨rfl, k2⟩
  refine iO ?_
  refine dG ?_
  exact ⟨trivial, (kp.trans k1).ku.trans k2⟩
def al1 : ByteArray := ⟨#[97, 32, 43, 32, 98, 42, 99]⟩
def al2 : ByteArray := ⟨#[110, 111, 116, 32, 97, 32, 105, 115, 32, 110, 117, 108, 108]⟩
def ZQ : Tr := kH 10 0 xA eB [kH 5 0 ⟨#[97]⟩ eB [] [], kH 10 0 kF eB [kH 5 0 ⟨#[98]⟩ eB [] [], kH 5 0 ⟨#[99]⟩ eB [] []] []] []
def ZR : Tr := kH 8 0 eB eB [kH 9 0 eB eB [kH 5 0 ⟨#[97]⟩ eB [] []] []] []
def aen : ByteArray := ⟨#[97, 32, 43, 32, 40, 98, 32, 42, 32, 99, 41]⟩
def aeo : ByteArray := ⟨#[110, 111, 116, 32, 40, 97, 32, 105, 115, 32, 110, 117, 108, 108, 41]⟩
theorem XE : NU al1 = (ZQ, 0, 0) := by kernel_rfl
theorem XF : NU al2 = (ZR, 0, 0) := by kernel_rfl
theorem ZT : lD ((okS 4).e ZQ) ((jY 4).e 1 ZQ true) = (aen, 0) := by kernel_rfl
theorem ZU : lD ((okS 4).e ZR) ((jY 4).e 1 ZR true) = (aeo, 0) := by kernel_rfl
theorem qp {K : Tr → Prop} : LL b0 K [] := ⟨by decide, fun p hp => absurd hp (by simp)⟩
theorem XG {K : Tr → Prop} {a : Tr} (h : K a) : LL b0 K [a] := ⟨(by show 1 ≤ 1000; decide), fun p hp => by rw [List.mem_singleton.1 hp]; exact h⟩
theorem XH {K : Tr → Prop} {a b : Tr} (h : K a) (k : K b) : LL b0 K [a, b] := ⟨(by show 2 ≤ 1000; decide), fun p hp => by
 simp only [List.mem_cons, List.not_mem_nil, or_false] at hp
 rcases hp with rfl | rfl
 ·exact h
 ·exact k⟩
theorem DF {n : Nat} {k m : Int} {s t : ByteArray} {kids qs : List Tr} (hk : DR k) (hm : DR m) (hs : s.size ≤ 1200) (ht : t.size ≤ 1200) (h : LL b0 (bT b0 n).e kids) (g : LL b0 (bT b0 n).q qs) : (bT b0 (n + 1)).e (kH k m s t kids qs) := ⟨_, _, _, _, _, _, rfl, hk, hm, hs, ht, h, g⟩
theorem fV {k : Int} (h : 0 ≤ k) (h' : k ≤ 100) : DR k := ⟨by omega, by omega⟩
theorem XI : (bT b0 4).e ZQ :=
 DF (fV (by decide) (by decide)) (fV (by decide) (by decide)) (by decide) (by decide) (XH (DF (n := 2) (fV (by decide) (by decide)) (fV (by decide) (by decide)) (by decide) (by decide) qp qp)
  (DF (n := 2) (fV (by decide) (by decide)) (fV (by decide) (by decide)) (by decide) (by decide) (XH (DF (n := 1) (fV (by decide) (by decide)) (fV (by decide) (by decide)) (by decide) (by decide) qp qp) (DF (n := 1) (fV (by decide) (by decide)) (fV (by decide) (by decide)) (by decide) (by decide) qp qp)) qp)) qp
theorem XJ : (bT b0 4).e ZR :=
 DF (fV (by decide) (by decide)) (fV (by decide) (by decide)) (by decide) (by decide) (XG (DF (n := 2) (fV (by decide) (by decide)) (fV (by decide) (by decide)) (by decide) (by decide) (XG (DF (n := 1) (fV (by decide) (by decide)) (fV (by decide) (by decide)) (by decide) (by decide) qp qp)) qp)) qp
theorem qN (σ : AW) : C Tryz.prog 5 [] σ fun v σ' => v = .bool true ∧ KU σ σ' := by
 refine zT rfl Tryz.func5 rfl Tryz.ntmps5 Tryz.results5 (Nat.le_of_ble_eq_true rfl) ?_; intro A hz hA
 clear hA
 refine iO ?_
 refine aj (dD) ?_
 refine C.mono (Qm (s := al1) (by decide) _) ?_
 rintro _ σ1 ⟨x, rfl, t1, k1⟩
 rw [XE] at t1
 rw [XE]
 obtain ⟨t1, l, rfl, hl, ho⟩ := t1
 have kz : Kp σ1 ((σ1.push ⟨1, 42, 0, [.int .i64 0, .int .i64 0, .string ⟨#[]⟩, .string ⟨#[]⟩, .slice none 0 0, .slice none 0 0]⟩).set σ1.next ⟨1, 42, 0, l⟩) := ((Kp.refl σ1).push _).set (Nat.le_refl _) _
 refine gQ hl ho ?_
 refine aj (dD) ?_
 refine C.mono (QA XI (((Ef 4).1 _ XI _ t1).1.ku kz.ku)) ?_
 rintro _ σ2 ⟨rfl, k2⟩
 rw [ZT]
 refine iO ?_
 refine aj (dD) ?_
 refine C.mono (Qm (s := al2) (by decide) _) ?_
 rintro _ σ3 ⟨x, rfl, t3, k3⟩
 rw [XF] at t3
 rw [XF]
 obtain ⟨t3, m, rfl, hm, hn⟩ := t3
 have ky : Kp σ3 ((σ3.push ⟨1, 42, 0, [.int .i64 0, .int .i64 0, .string ⟨#[]⟩, .string ⟨#[]⟩, .slice none 0 0, .slice none 0 0]⟩).set σ3.next ⟨1, 42, 0, m⟩) := ((Kp.refl σ3).push _).set (Nat.le_refl _) _
 refine gQ hm hn ?_
 refine aj (dD) ?_
 refine C.mono (QA XJ (((Ef 4).1 _ XJ _ t3).1.ku ky.ku)) ?_
 rintro _ σ4 ⟨rfl, k4⟩
 rw [ZU]
 have d1 : decide (aen = (⟨#[97, 32, 43, 32, 40, 98, 32, 42, 32, 99, 41]⟩ : ByteArray)) = true := decide_eq_true rfl
 have d2 : decide (aeo = (⟨#[110, 111, 116, 32, 40, 97, 32, 105, 115, 32, 110, 117, 108, 108, 41]⟩ : ByteArray)) = true := decide_eq_true rfl
 have d3 : aT .add (.int .i64 0) (.int .i64 0) = some (.int .i64 0) := rfl
 have d4 : ((0 : Int) == 0) = true := rfl
 refine dV d1 d2 d3 d4 ?_
 refine dG ?_
 exact ⟨trivial, (((k1.ku.trans kz.ku).trans k2).trans (k3.ku.trans ky.ku)).trans k4⟩
end Go.Proofs.YthogkmcahnkkoaaGreatDoor
namespace Go.Proofs.YthogkmcahnkkoaaGreatDoor
open Go.RowKit
set_option linter.unusedVariables false
theorem ZV {p : Prop} (h : p := by refine G6 ?_; (try simp only [Then, Out, Jump, iy]); refine Bo (by simp (disch := first | decide | (try simp only [zz, hz]) <;> omega | fail) only [go_sem, hz] <;> rfl) ?_; simp only [jH]) : p := h
end Go.Proofs.YthogkmcahnkkoaaGreatDoor
