/- The program's reader: what looks at tokens. The program's reader: names, numbers, what is taken and wanted. The program's reader: what stands one deeper. Readers leave no more tokens than there were. -/
import Derived.Test.YthogkmcahnkkoaaGreatDoorJ06
namespace Go.Proofs.YthogkmcahnkkoaaGreatDoor
open Go.RowKit
theorem EW {e n : Nat} {a : Addr} {len : Nat} {P : Program} (hn : iW P e = some n) (h : 0 < len) : bU P e a len 0 = some (.pointer (some (a.add 0))) := by
 have : ((0 : Int) ≤ 0 ∧ (0 : Int) < (len : Int)) := ⟨Int.le_refl _, by omega⟩
 simp only [bU, hn, this, and_self, if_true]
 simp
theorem vP {e n : Nat} {a : Addr} {len j : Nat} {P : Program} (hn : iW P e = some n) (h : j < len) : bU P e a len (j : Int) = some (.pointer (some (a.add (j * n)))) := by
 have : ((0 : Int) ≤ (j : Int) ∧ (j : Int) < (len : Int)) := ⟨by omega, by omega⟩
 simp only [bU, hn, this, and_self, if_true]
 simp
theorem BL {T : List Tk} {i : Nat} {t : Tk} (h : T[i]? = some t) : ((jS T).drop (4 * i)).take 4 = sZ t := by
 rw [N7]
 obtain ⟨hi, rfl⟩ := List.getElem?_eq_some_iff.1 h
 rw [List.drop_eq_getElem_cons hi]
 rfl
theorem aar {T : List Tk} {i : Nat} {t : Tk} (h : T[i]? = some t) : (jS T)[4 * i]? = some (.int .i64 t.1) := by
 have := BL h
 have e : (((jS T).drop (4 * i)).take 4)[0]? = some (.int .i64 t.1) := by rw [this]; rfl
 simpa using e
theorem ac0 {T : List Tk} {i : Nat} {t : Tk} (h : T[i]? = some t) : (jS T)[4 * i + 1]? = some (.string t.2.1) := by
 have := BL h
 have e : (((jS T).drop (4 * i)).take 4)[1]? = some (.string t.2.1) := by rw [this]; rfl
 simpa using e
theorem ac1 {T : List Tk} {i : Nat} {t : Tk} (h : T[i]? = some t) : (jS T)[4 * i + 2]? = some (.int .i64 t.2.2.1) := by
 have := BL h
 have e : (((jS T).drop (4 * i)).take 4)[2]? = some (.int .i64 t.2.2.1) := by rw [this]; rfl
 simpa using e
theorem ac2 {T : List Tk} {i : Nat} {t : Tk} (h : T[i]? = some t) : (jS T)[4 * i + 3]? = some (.int .i64 t.2.2.2) := by
 have := BL h
 have e : (((jS T).drop (4 * i)).take 4)[3]? = some (.int .i64 t.2.2.2) := by rw [this]; rfl
 simpa using e
set_option maxRecDepth 10000
set_option linter.unusedSimpArgs false
set_option linter.unusedVariables false
theorem abd {σ : AW} {r b i : Nat} {T : List Tk} {d pl er : Int} (h : JM σ r b T i d pl er) (x : ByteArray) {t : Tk} (ht : T[i]? = some t) :
  C Tryz.prog 159 [.pointer (some ⟨r, 0, none⟩), .string x] σ fun v σ' => v = .bool (decide (t.2.1 = x) && (t.1 == 1 || t.1 == 4)) ∧ Kp σ σ' := by
 have hr := h.get
 have hb := h.toks
 have hi := h.li
 have e0 : bU Tryz.prog 100 ⟨b, 4 * i, none⟩ (T.length - i) 0 = some (.pointer (some ⟨b, 4 * i, none⟩)) := EW ug (by omega)
 have hd := BL ht
 refine fG Tryz.func159 Tryz.ntmps159 Tryz.results159 fun A hz a0 a1 => ?_
 cases c1 : decide (t.2.1 = x) <;> cases c2 : (t.1 == 1)
 all_goals
  repeat (first | apply C9 | apply zD | ((first | apply zC | (refine' zG rfl rfl ?_ ?_; rotate_left) | apply FZ); (focus simp (disch := first | decide | (try simp only [zz, hz]) <;> omega | fail) only [go_sem, hz, a0, a1, hr, hb, hd, e0, sZ, c1, c2] <;> rfl); with_reducible first | apply zF | apply g_1 | apply g_2 | apply jO | apply lV | apply c_1 | apply c_2) | apply Dc | apply b_k | apply Bj | apply yD)
  refine dG ?_
  exact ⟨by simp, ((Kp.refl σ).push _).set (Nat.le_refl _) _⟩
theorem Jb {σ : AW} {b i k : Nat} {T : List Tk} (hb : σ.get b = ⟨2, 100, 4, jS T⟩) (h : i + k < T.length) {n : Int} (hn : n = k) :
  wP Tryz.prog σ 93 (.slice (some ⟨b, 4 * i, none⟩) (T.length - i) (2 * i + 1)) (some (.int .i64 n)) none none = some (.slice (some ⟨b, 4 * (i + k), none⟩) (T.length - (i + k)) (2 * (i + k) + 1)) := by
 subst hn
 have e1 : (2 * i + 1) / 2 = i := by omega
 have e2 : (2 * i + 1) % 2 = 1 := by omega
 have e3 : (jS T).length / 4 = T.length := by rw [Ac]; omega
 have hroom : JU Tryz.prog σ 100 ⟨b, 4 * i, none⟩ (2 * i + 1) = some (T.length - i) := by
  simp only [JU, e2, hb, ug, e1, e3]
  simp
  omega
 have hbd : qC (T.length - i) (T.length - i) (some (.int .i64 (k : Int))) none none = some (k, T.length - i, T.length - i) := by
  have hb1 : yP (.int .i64 (k : Int)) (T.length - i) = some k := by
   unfold yP
   simp
   omega
  unfold qC
  simp only [hb1]
 simp only [wP, acL, ug, hroom, hbd, e2]
 by_cases hk : k = 0
 ·subst hk
  simp
 simp only [show ¬ (1 = 0 ∨ Option.isSome (none : Option Value) = true) by simp, if_false, hk, show k < T.length - i by omega, if_true, je]
 rw [show 4 * i + k * 4 = 4 * (i + k) by omega, show T.length - i - k = T.length - (i + k) by omega, show 2 * i + 1 + 2 * k = 2 * (i + k) + 1 by omega]
theorem vS {σ : AW} {r b : Nat} {T : List Tk} {d : Int} {s : Sy} (h : lu σ r b T d s) {k : Int} (hk : k ≠ 0) :
  C Tryz.prog 222 [.pointer (some ⟨r, 0, none⟩), .int .i64 k] σ fun v σ' => v = .bool (aV k s).1 ∧ lu σ' r b T d (aV k s).2 ∧ Gr r σ σ' := by
 obtain ⟨i, h, hl, ht⟩ := h.head
 have hr := h.get
 have hb := h.toks
 have hi := h.li
 have e0 : bU Tryz.prog 100 ⟨b, 4 * i, none⟩ (T.length - i) 0 = some (.pointer (some ⟨b, 4 * i, none⟩)) := EW ug (by omega)
 have hd := aar ht
 refine fG Tryz.func222 Tryz.ntmps222 Tryz.results222 fun A hz a0 a1 => ?_
 by_cases hc : s.head.1 = k
 ·have c1 : (s.head.1 != k) = false := by simp [hc]
  have hlt : i + 1 < T.length := by
   apply Classical.byContradiction
   intro hn
   have e : i = T.length - 1 := by omega
   rw [e] at ht
   have := h.last _ ht
   rw [hc] at this
   exact hk this
  have hs := Jb (σ := σ) hb hlt (n := 1) rfl
  refine aY a0 a1 hr hb hd e0 c1 hs ?_
  refine dG ?_
  unfold aV
  rw [if_pos hc]
  refine ⟨rfl, ⟨i + 1, h.gr ((Gr.refl r σ).set (.inr rfl) _) hlt (by rw [bF]), by show s.left.tail = _; rw [hl]; simp⟩, (Gr.refl r σ).set (.inr rfl) _⟩
 ·have c1 : (s.head.1 != k) = true := by simp [hc]
  refine nH a0 a1 hr hb hd e0 c1 ?_
  refine dG ?_
  unfold aV
  rw [if_neg hc]
  exact ⟨rfl, ⟨i, h, hl⟩, Gr.refl r σ⟩
theorem rP {σ : AW} {r b : Nat} {T : List Tk} {d : Int} {s : Sy} (h : lu σ r b T d s) (k : Int) :
  C Tryz.prog 41 [.pointer (some ⟨r, 0, none⟩), .int .i64 k] σ fun _ σ' => lu σ' r b T d (bK k s).2 ∧ Gr r σ σ' := by
 obtain ⟨i, h, hl, ht⟩ := h.head
 have hr := h.get
 have hb := h.toks
 have hi := h.li
 have hne : b ≠ r := h.ne
 have hfew := h.few
 have e0 : bU Tryz.prog 100 ⟨b, 4 * i, none⟩ (T.length - i) 0 = some (.pointer (some ⟨b, 4 * i, none⟩)) := EW ug (by omega)
 have hd := ac2 ht
 refine fG Tryz.func41 Tryz.ntmps41 Tryz.results41 fun A hz a0 a1 => ?_
 unfold bK
 by_cases hc : s.err = 0
 ·have c1 : (s.err != 0) = false := by simp [hc]
  rw [if_pos hc]
  have hsub : aT .sub (.int .i64 (T.length - i : Nat)) (.int .i64 1) = some (.int .i64 (T.length - i - 1 : Nat)) := by
   rw [xg (by omega) (by omega)]
   congr 2
   omega
  refine nH a0 a1 hr hb hd e0 c1 ?_
  refine bY mixed (by kernel_rfl) (by kernel_rfl) ?_
  have hs : ∀ B1 B2 : fZ, wP Tryz.prog ((σ.set r B1).set r B2) 93 (.slice (some ⟨b, 4 * i, none⟩) (T.length - i) (2 * i + 1)) (some (.int .i64 (T.length - i - 1 : Nat))) none none = some (.slice (some ⟨b, 4 * (i + (T.length - i - 1)), none⟩) (T.length - (i + (T.length - i - 1))) (2 * (i + (T.length - i - 1)) + 1)) := fun B1 B2 => Jb (by rw [bG hne, bG hne]; exact hb) (by omega) rfl
  refine gT6 a0 a1 hr hb hsub hs ?_
  refine oW [(4, 0), (8, 0), (9, 0), (11, 0)] ?_ ?_
  ·(repeat (refine aO (bg rfl rfl rfl rfl rfl (by simp (disch := first | decide | (try simp only [zz, hz]) <;> omega | fail) only [go_sem, hz, a0, a1, hr, hb, hsub, hs, yh] <;> rfl)) ?_)); exact bn
  refine gI ?_
  refine ⟨⟨i + (T.length - i - 1), h.gr ((((Gr.refl r σ).set (.inr rfl) _).set (.inr rfl) _).set (.inr rfl) _) (by omega) (by rw [bF]), ?_⟩, (((Gr.refl r σ).set (.inr rfl) _).set (.inr rfl) _).set (.inr rfl) _⟩
  show s.left.drop (s.left.length - 1) = _
  rw [hl, List.drop_drop, List.length_drop]
 ·have c1 : (s.err != 0) = true := by simp [hc]
  rw [if_neg hc]
  refine nH a0 a1 hr hb hd e0 c1 ?_
  refine dG ?_
  exact ⟨⟨i, h, hl⟩, Gr.refl r σ⟩
theorem zh {σ : AW} {r b : Nat} {T : List Tk} {d : Int} {s : Sy} (h : lu σ r b T d s) (x : ByteArray) :
  C Tryz.prog 159 [.pointer (some ⟨r, 0, none⟩), .string x] σ fun v σ' => v = .bool (eF x s) ∧ Kp σ σ' := by
 obtain ⟨i, h, hl, ht⟩ := h.head
 exact abd h x ht
theorem QZ {x : ByteArray} {s : Sy} (h : eF x s = true) : s.head.1 = 1 ∨ s.head.1 = 4 := by
 unfold eF at h
 simp only [Bool.and_eq_true, Bool.or_eq_true, beq_iff_eq] at h
 exact h.2
theorem lu.more {σ : AW} {r b i : Nat} {T : List Tk} {d pl er : Int} {s : Sy} (h : JM σ r b T i d pl er) (ht : T[i]? = some s.head) (hk : s.head.1 ≠ 0) : i + 1 < T.length := by
 apply Classical.byContradiction
 intro hn
 have := h.li
 have e : i = T.length - 1 := by omega
 rw [e] at ht
 exact hk (h.last _ ht)
theorem Q5 {ws : List ByteArray} {j : Nat} {s : Sy} (h : j < ws.length) (hs : eF ws[j] s = false) : aI (ws.drop j) s = aI (ws.drop (j + 1)) s := by
 rw [List.drop_eq_getElem_cons h]
 conv => lhs; unfold aI
 rw [if_neg (by simp [hs])]
theorem Q7 {ws : List ByteArray} {j : Nat} {s : Sy} (h : j < ws.length) (hs : eF ws[j] s = true) : aI (ws.drop j) s = (some ws[j], ⟨s.left.tail, s.pl, s.err⟩) := by
 rw [List.drop_eq_getElem_cons h]
 conv => lhs; unfold aI
 rw [if_pos hs]
def EX (o : Option ByteArray) : Value := match o with
 | some x => .tuple #[.string x, .bool true]
 | none => .tuple #[.string ⟨#[]⟩, .bool false]
theorem uV {σ : AW} {r b : Nat} {T : List Tk} {d : Int} {s : Sy} (h : lu σ r b T d s) {w c e z : Nat} {ws : List ByteArray} (hw : σ.get w = ⟨1, e, z, ws.map Value.string⟩) (hwn : w < σ.next) (hlen : ws.length ≤ 1000) :
  C Tryz.prog 125 [.pointer (some ⟨r, 0, none⟩), .slice (some ⟨w, 0, none⟩) ws.length c] σ fun v σ' => v = EX (aI ws s).1 ∧ lu σ' r b T d (aI ws s).2 ∧ Gr r σ σ' := by
 refine fG Tryz.func125 Tryz.ntmps125 Tryz.results125 fun A hz a0 a1 => ?_
 refine gQ a0 a1 ?_
 refine dB (dI (fun m B σ1 => ∃ j, j ≤ ws.length ∧ m = ws.length - j ∧ B.size = 27 ∧ B.get 0 = some (.pointer (some ⟨r, 0, none⟩)) ∧ B.get 8 = some (.slice (some ⟨w, 0, none⟩) ws.length c) ∧ B.get 9 = some (.int .i64 (ws.length : Int)) ∧ B.get 10 = some (.int .i64 (j : Int)) ∧ Kp σ σ1 ∧ aI ws s = aI (ws.drop j) s) ?_ (m := ws.length) ⟨0, Nat.zero_le _, rfl, ?_, ?_, ?_, ?_, ?_, Kp.refl σ, rfl⟩)
 ·rintro m B σ1 ⟨j, hj, rfl, hz, b0, b8, b9, b10, hk, heq⟩
  have hs1 : lu σ1 r b T d s := h.kp hk
  have hw1 : σ1.get w = ⟨1, e, z, ws.map Value.string⟩ := (hk.get w hwn).trans hw
  by_cases hlt : j < ws.length
  ·have c1 : decide ((j : Int) < (ws.length : Int)) = true := by simp [hlt]
   have e1 : bU Tryz.prog 9 ⟨w, 0, none⟩ ws.length (j : Int) = some (.pointer (some ⟨w, j, none⟩)) := by rw [vP Bq hlt, je]; simp
   have e2 : (ws.map Value.string)[j]? = some (.string ws[j]) := by simp [hlt]
   refine aY b0 b8 b9 b10 c1 e1 e2 hw1 ?_
   refine aj (kC b0 b8 b9 b10 c1 e1 e2 hw1) ?_
   refine C.mono (zh hs1 _) ?_
   rintro _ σ2 ⟨rfl, hk2⟩
   replace hk2 := hk.trans hk2
   cases abe : eF ws[j] s with
   | true =>
    obtain ⟨i, hrd, hl, ht⟩ := (h.kp hk2).head
    have hr := hrd.get
    have hb := hrd.toks
    have hlt2 : i + 1 < T.length := lu.more hrd ht (by rcases QZ abe with e | e <;> rw [e] <;> decide)
    have hs := Jb (σ := σ2) hb hlt2 (n := 1) rfl
    refine aY b0 b8 b9 b10 c1 e1 e2 (cJ hw1 (cJ hr hs)) ?_
    refine dG ?_
    rw [heq, Q7 hlt abe]
    refine ⟨rfl, ⟨i + 1, hrd.gr ((Gr.refl r σ2).set (.inr rfl) _) hlt2 (by rw [bF]), by show s.left.tail = _; rw [hl]; simp⟩, (hk2.gr r).set (.inr rfl) _⟩
   | false =>
    have hadd : aT .add (.int .i64 (j : Int)) (.int .i64 1) = some (.int .i64 ((j + 1 : Nat) : Int)) := by rw [aH (by omega) (by omega)]; rfl
    refine aY b0 b8 b9 b10 c1 e1 e2 (cJ hw1 hadd) ?_
    exact (by refine' ⟨ws.length - (j + 1), by omega, j + 1, by omega, rfl, ?_, ?_, ?_, ?_, ?_, hk2, by rw [heq, Q5 hlt abe]⟩; any_goals (first | exact lF b0 b8 b9 | fail))
  ·have c1 : decide ((j : Int) < (ws.length : Int)) = false := by simp [hlt]
   refine jy b0 b8 b9 b10 c1 ?_
   refine iH ?_; simp only [Then, Out, iy, reduceIte, Nat.reduceEqDiff]
   refine jy b0 b8 b9 b10 c1 ?_
   refine dG ?_
   have hj : j = ws.length := by omega
   rw [heq, hj, List.drop_length]
   exact ⟨rfl, hs1, hk.gr r⟩
 all_goals exact (bP a0 a1)
end Go.Proofs.YthogkmcahnkkoaaGreatDoor
namespace Go.Proofs.YthogkmcahnkkoaaGreatDoor
open Go.RowKit
set_option maxRecDepth 10000
set_option linter.unusedSimpArgs false
set_option linter.unusedVariables false
section
variable {σ : AW} {r b : Nat} {T : List Tk} {d : Int} {s : Sy}
theorem gV (h : lu σ r b T d s) (x : ByteArray) :
  C Tryz.prog 126 [.pointer (some ⟨r, 0, none⟩), .string x] σ fun v σ' => v = .bool (aB x s).1 ∧ lu σ' r b T d (aB x s).2 ∧ Gr r σ σ' := by
 have hlr := h.lr
 refine fG Tryz.func126 Tryz.ntmps126 Tryz.results126 fun A hz a0 a1 => ?_
 refine gQ a0 a1 ?_
 refine aj (bP a0 a1) ?_
 refine C.mono (uV (ws := [x]) (h.kp ((Kp.refl σ).push _)) (by rw [aA]) (Nat.lt_succ_self _) (Nat.le_of_ble_eq_true rfl)) ?_
 rintro _ σ2 ⟨rfl, h2, g2⟩
 have e : aI [x] s = if eF x s = true then (some x, ⟨s.left.tail, s.pl, s.err⟩) else (none, s) := by
  unfold aI aI
  rfl
 rw [e] at h2 ⊢
 unfold aB
 have g := ((Kp.refl σ).push _).gr r |>.trans g2
 by_cases hs : eF x s = true
 ·rw [if_pos hs] at h2 ⊢
  rw [if_pos hs]
  simp only [EX]
  refine gQ a0 a1 ?_
  refine dG ?_
  exact ⟨by first | rfl | trivial, h2, g⟩
 ·rw [if_neg hs] at h2 ⊢
  rw [if_neg hs]
  simp only [EX]
  refine gQ a0 a1 ?_
  refine dG ?_
  exact ⟨by first | rfl | trivial, h2, g⟩
theorem jX (h : lu σ r b T d s) (x : ByteArray) :
  C Tryz.prog 161 [.pointer (some ⟨r, 0, none⟩), .string x] σ fun _ σ' => lu σ' r b T d (dA x s).2 ∧ Gr r σ σ' := by
 refine fG Tryz.func161 Tryz.ntmps161 Tryz.results161 fun A hz a0 a1 => ?_
 refine gQ a0 a1 ?_
 refine aj (bP a0 a1) ?_
 refine C.mono (gV h x) ?_
 rintro _ σ1 ⟨rfl, h1, g1⟩
 have e : dA x s = if (aB x s).1 = true then ((), (aB x s).2) else bK 10 (aB x s).2 := by
  show (if (aB x s).1 = true then (pure () : SM Unit) else bK 10) (aB x s).2 = _
  split <;> rfl
 rw [e]
 cases ht : (aB x s).1 with
 | true =>
  refine gQ a0 a1 ?_
  refine gI ?_
  exact ⟨h1, g1⟩
 | false =>
  refine gQ a0 a1 ?_
  refine aj (bP a0 a1) ?_
  refine C.mono (rP h1 10) ?_
  rintro _ σ2 ⟨h2, g2⟩
  refine gQ a0 a1 ?_
  refine gI ?_
  exact ⟨h2, g1.trans g2⟩
theorem Vf (h : lu σ r b T d s) :
  C Tryz.prog 221 [.pointer (some ⟨r, 0, none⟩)] σ fun v σ' => v = .int .i64 (lK s).1 ∧ lu σ' r b T d (lK s).2 ∧ Gr r σ σ' := by
 obtain ⟨i, h1, hl, ht⟩ := h.head
 have hr := h1.get
 have hb := h1.toks
 have hi := h1.li
 have e0 : bU Tryz.prog 100 ⟨b, 4 * i, none⟩ (T.length - i) 0 = some (.pointer (some ⟨b, 4 * i, none⟩)) := EW ug (by omega)
 have hd := ac1 ht
 refine pK Tryz.func221 Tryz.ntmps221 Tryz.results221 fun A hz a0 => ?_
 refine jy a0 hr hb hd e0 ?_
 refine aj (NY a0 hr hb hd e0) ?_
 refine C.mono (vS h (k := 2) (by decide)) ?_
 rintro _ σ1 ⟨rfl, h1, g1⟩
 have e : lK s = if (aV 2 s).1 = true then (s.head.2.2.1, (aV 2 s).2) else (0, (bK 10 (aV 2 s).2).2) := by
  show (if (aV 2 s).1 = true then (pure s.head.2.2.1 : SM Int) else (bK 10 >>= fun _ => pure 0)) (aV 2 s).2 = _
  split <;> rfl
 rw [e]
 cases ht : (aV 2 s).1 with
 | true =>
  refine jR a0 ?_
  refine dG ?_
  exact ⟨by first | rfl | trivial, h1, g1⟩
 | false =>
  refine jR a0 ?_
  refine aj (aU a0) ?_
  refine C.mono (rP h1 10) ?_
  rintro _ σ2 ⟨h2, g2⟩
  refine jR a0 ?_
  refine dG ?_
  exact ⟨by first | rfl | trivial, h2, g1.trans g2⟩
theorem zi (hword : ∀ (σ : AW) (x : ByteArray), C Tryz.prog 89 [.string x] σ fun v σ' => v = .bool (qg x) ∧ σ' = σ) (h : lu σ r b T d s) :
  C Tryz.prog 223 [.pointer (some ⟨r, 0, none⟩)] σ fun v σ' => v = .string (bZ s).1 ∧ lu σ' r b T d (bZ s).2 ∧ Gr r σ σ' := by
 obtain ⟨i, h1, hl, ht⟩ := h.head
 have hr := h1.get
 have hb := h1.toks
 have hi := h1.li
 have e0 : bU Tryz.prog 100 ⟨b, 4 * i, none⟩ (T.length - i) 0 = some (.pointer (some ⟨b, 4 * i, none⟩)) := EW ug (by omega)
 have hd := ac0 ht
 refine pK Tryz.func223 Tryz.ntmps223 Tryz.results223 fun A hz a0 => ?_
 refine jy a0 hr hb hd e0 ?_
 refine aj (NY a0 hr hb hd e0) ?_
 refine C.mono (hword _ _) ?_
 rintro _ _ ⟨rfl, rfl⟩
 have e : bZ s = if qg s.head.2.1 = true then (eB, (bK 10 s).2) else if (aV 1 s).1 = true then (s.head.2.1, (aV 1 s).2) else (eB, (bK 10 (aV 1 s).2).2) := by
  have h1 : bZ s = (if qg s.head.2.1 = true then (bK 10 >>= fun _ => Pure.pure eB) else (aV 1 >>= fun b => if b = true then Pure.pure s.head.2.1 else (bK 10 >>= fun _ => Pure.pure eB)) : SM ByteArray) s := rfl
  rw [h1]
  split
  ·rfl
  ·show (if (aV 1 s).1 = true then (pure s.head.2.1 : SM ByteArray) else (bK 10 >>= fun _ => pure eB)) (aV 1 s).2 = _
   split <;> rfl
 rw [e]
 cases hw : qg s.head.2.1 with
 | true =>
  refine jR a0 ?_
  refine aj (aU a0) ?_
  refine C.mono (rP h 10) ?_
  rintro _ σ2 ⟨h2, g2⟩
  refine jR a0 ?_
  refine dG ?_
  exact ⟨by first | rfl | trivial, h2, g2⟩
 | false =>
  refine jR a0 ?_
  refine aj (aU a0) ?_
  refine C.mono (vS h (k := 1) (by decide)) ?_
  rintro _ σ1 ⟨rfl, h1, g1⟩
  cases ht : (aV 1 s).1 with
  | true =>
   refine jR a0 ?_
   refine dG ?_
   exact ⟨by first | rfl | trivial, h1, g1⟩
  | false =>
   refine jR a0 ?_
   refine aj (aU a0) ?_
   refine C.mono (rP h1 10) ?_
   rintro _ σ2 ⟨h2, g2⟩
   refine jR a0 ?_
   refine dG ?_
   exact ⟨by first | rfl | trivial, h2, g1.trans g2⟩
end
structure Ks (σ σ' : AW) : Prop where
 next : σ.next ≤ σ'.next
 get : ∀ k, k < σ.next → (σ.get k).esz ≠ 0 → σ'.get k = σ.get k
theorem Ks.refl (σ : AW) : Ks σ σ := ⟨Nat.le_refl _, fun _ _ _ => rfl⟩
theorem Ks.trans {σ σ1 σ2 : AW} (h : Ks σ σ1) (k : Ks σ1 σ2) : Ks σ σ2 := ⟨Nat.le_trans h.next k.next, fun j h1 h2 => by
 have e := h.get j h1 h2
 rw [k.get j (Nat.lt_of_lt_of_le h1 h.next) (by rw [e]; exact h2), e]⟩
theorem Ks.push {σ σ1 : AW} (h : Ks σ σ1) (b : fZ) : Ks σ (σ1.push b) := ⟨Nat.le_succ_of_le h.next, fun j h1 h2 => by have := h.next; rw [aC (by omega)]; exact h.get j h1 h2⟩
theorem Ks.set {σ σ1 : AW} (h : Ks σ σ1) {k : Nat} (hk : σ.next ≤ k ∨ (σ.get k).esz = 0) (b : fZ) : Ks σ (σ1.set k b) := ⟨h.next, fun j h1 h2 => by
 rw [bG (fun e => by subst e; rcases hk with hk | hk <;> omega)]; exact h.get j h1 h2⟩
theorem Gr.ks {r : Nat} {σ σ' : AW} (h : Gr r σ σ') (hr : (σ.get r).esz = 0) : Ks σ σ' := ⟨h.next, fun j h1 h2 => h.get j h1 (fun e => h2 (by rw [e]; exact hr))⟩
theorem Kp.ks {σ σ' : AW} (h : Kp σ σ') : Ks σ σ' := ⟨h.next, fun j h1 _ => h.get j h1⟩
theorem TE.ks {n : Nat} {σ σ' : AW} {D : Nat → Prop} {v p : Value} (h : TE n σ D v p) (k : Ks σ σ') : TE n σ' D v p := h.keep (fun j _ h1 h2 => k.get j h1 h2) k.next (fun _ h _ => h)
theorem TE.lo {n : Nat} {σ : AW} {D D' : Nat → Prop} {v p : Value} (h : TE n σ D v p) (hD : ∀ k, D k → D' k) : TE n σ D' v p := h.keep (fun _ _ _ _ => rfl) (Nat.le_refl _) (fun k h _ => hD k h)
theorem Rd.ks {σ σ' : AW} {D : Nat → Prop} {v p : Value} (h : Rd σ D p v) (k : Ks σ σ') : Rd σ' D p v := h.keep (fun j _ h1 h2 => k.get j h1 h2) k.next (fun _ h _ => h)
structure Ow (N : Nat) (σ σ' : AW) : Prop where
 next : σ.next ≤ σ'.next
 get : ∀ k, k < σ.next → k < N → σ'.get k = σ.get k
theorem Ow.refl (N : Nat) (σ : AW) : Ow N σ σ := ⟨Nat.le_refl _, fun _ _ _ => rfl⟩
theorem Ow.push {N : Nat} {σ σ1 : AW} (h : Ow N σ σ1) (b : fZ) : Ow N σ (σ1.push b) := ⟨Nat.le_succ_of_le h.next, fun j h1 h2 => by have := h.next; rw [aC (by omega)]; exact h.get j h1 h2⟩
theorem Ow.set {N : Nat} {σ σ1 : AW} (h : Ow N σ σ1) {k : Nat} (hk : N ≤ k) (b : fZ) : Ow N σ (σ1.set k b) := ⟨h.next, fun j h1 h2 => by rw [bG (by omega)]; exact h.get j h1 h2⟩
theorem lu.ow {σ σ' : AW} {r b N : Nat} {T : List Tk} {d : Int} {s : Sy} (h : lu σ r b T d s) (o : Ow N σ σ') (hr : r < N) (hb : b < N) : lu σ' r b T d s := by
 obtain ⟨i, h1, h2⟩ := h
 exact ⟨i, ⟨by rw [o.get r h1.lr hr]; exact h1.get, by rw [o.get b h1.lb hb]; exact h1.toks, Nat.lt_of_lt_of_le h1.lr o.next, Nat.lt_of_lt_of_le h1.lb o.next, h1.li, h1.few, h1.last⟩, h2⟩
theorem Gr.ow {r : Nat} {σ σ1 σ2 : AW} (h : Gr r σ σ1) (o : Ow σ.next σ1 σ2) : Gr r σ σ2 := ⟨Nat.le_trans h.next o.next, fun k h1 h2 => (o.get k (Nat.lt_of_lt_of_le h1 h.next) h1).trans (h.get k h1 h2)⟩
theorem lu.lb {σ : AW} {r b : Nat} {T : List Tk} {d : Int} {s : Sy} (h : lu σ r b T d s) : b < σ.next := by obtain ⟨i, h1, _⟩ := h; exact h1.lb
theorem lu.ez {σ : AW} {r b : Nat} {T : List Tk} {d : Int} {s : Sy} (h : lu σ r b T d s) : (σ.get r).esz = 0 := by obtain ⟨i, h1, _⟩ := h; rw [h1.get]
section
variable {r b : Nat} {T : List Tk}
def Post (n r b : Nat) (T : List Tk) (d : Int) (σ : AW) (p : Tr × Sy) : Value → AW → Prop := fun v σ' => TE n σ' (fun k => σ.next ≤ k) v p.1 ∧ lu σ' r b T d p.2 ∧ Gr r σ σ'
def Reads (E : AW → Prop) (n r b : Nat) (T : List Tk) (d : Int) (g : Nat) (xs : List Value) (m : SM Tr) : Prop := ∀ σ s, E σ → lu σ r b T d s → C Tryz.prog g xs σ (Post n r b T d σ (m s))
def Stable (r : Nat) (E : AW → Prop) : Prop := ∀ σ σ', E σ → Gr r σ σ' → E σ'
theorem Gr.unpush {r : Nat} {σ σ2 : AW} {x : fZ} (h : Gr r (σ.push x) σ2) : Gr r σ σ2 := ((Kp.refl σ).push x).gr r |>.trans h
theorem aX {n : Nat} {d : Int} {σ σ2 σ3 : AW} {p : Tr × Sy} {v : Value} (ow : Ow σ.next σ2 σ3) (g : Gr r σ σ2) (h : lu σ2 r b T d p.2) (hlr : r < σ.next) (hlb : b < σ.next) (ht : TE n σ3 (fun k => σ.next ≤ k) v p.1) : Post n r b T d σ p v σ3 :=
 ⟨ht, h.ow ow hlr hlb, g.ow ow⟩
theorem BM {E : AW → Prop} (hE : Stable r E) {d : Int} (h0 : 0 ≤ d) (hd : d ≤ 40) {g : Nat} {fs cs : List Value} {m : SM Tr} (hf : d < 40 → Reads E 6 r b T (d + 1) g (fs ++ cs) m) :
  Reads E 6 r b T d 39 [.pointer (some ⟨r, 0, none⟩), .func (.func g) ⟨fs⟩ ⟨cs⟩] (if d = 40 then tooDeep zE else m) := by
 intro σ s he h
 have hlr := h.lr
 have hlb := h.lb
 obtain ⟨i, h1, hl⟩ := h
 have hr := h1.get
 refine fG Tryz.func39 Tryz.ntmps39 Tryz.results39 fun A hz a0 a1 => ?_
 by_cases hc : d = 40
 ·have c1 : (d == 40) = true := by simp [hc]
  rw [if_pos hc]
  refine dV a0 a1 hr c1 ?_
  refine aj (qx a0 a1 hr c1) ?_
  refine C.mono (rP (b := b) (T := T) (d := d) (s := s) (⟨i, h1.kp ((Kp.refl σ).push _), hl⟩) 9) ?_
  rintro _ σ2 ⟨h2, g2⟩
  have gN : σ2.get σ.next = ⟨1, 42, 0, _⟩ := (g2.get σ.next (Nat.lt_succ_self _) (by omega)).trans aA
  have nx := g2.next
  simp only [ah] at nx
  refine dS a0 a1 gN ?_
  refine fQ gN ?_
  exact aX (((Ow.refl _ _).push _).set (Nat.le_refl _) _) g2.unpush h2 hlr hlb (iM (aW _ _ _) (aW _ _ _))
 ·have c1 : (d == 40) = false := by simp [hc]
  rw [if_neg hc]
  have hadd : aT .add (.int .i64 d) (.int .i64 1) = some (.int .i64 (d + 1)) := aH (by omega) (by omega)
  have hsub : aT .sub (.int .i64 (d + 1)) (.int .i64 1) = some (.int .i64 d) := by rw [xg (by omega) (by omega)]; congr 2; omega
  refine jy a0 a1 hr c1 hadd ?_
  refine aj (qx a0 a1 hr c1) ?_
  have g1 : ∀ B1 B2 : fZ, Gr r σ ((σ.push B1).set r B2) := fun _ _ => ((Gr.refl r σ).push _).set (.inr rfl) _
  refine C.mono (hf (by omega) _ s (hE _ _ he (g1 _ _)) ⟨i, h1.gr (g1 _ _) h1.li (by rw [bF]), hl⟩) ?_
  rintro _ σ2 ⟨⟨t2, l, rfl, hl2, ho2⟩, h2, g2⟩
  have gN : σ2.get σ.next = ⟨1, 42, 0, _⟩ := (g2.get σ.next (Nat.lt_succ_self _) (by omega)).trans ((bG (by omega)).trans aA)
  have nx := g2.next
  simp only [ah, au] at nx
  obtain ⟨i2, r2, e2⟩ := h2
  have hr2 := r2.get
  refine nH a0 a1 gN hl2 ho2 hr2 hsub ?_
  refine D7 gN hl2 ?_
  refine ⟨TE.ks ⟨t2, l, rfl, hl2, ho2⟩ ((((Ks.refl σ2).push _).set (.inl (Nat.le_refl _)) _).set (.inr (by rw [hr2])) _ |>.set (.inr (by rw [gN])) _) |>.lo (fun k hk => ?_), ⟨i2, r2.gr ((((Gr.refl r σ2).push _).set (.inl (Nat.le_refl _)) _).set (.inr rfl) _) r2.li (by rw [bF]) |>.set (by omega) (by omega) _, e2⟩, ?_⟩
  ·have : σ.next + 1 ≤ k := hk
   omega
  ·exact ((((g1 _ _).trans g2).push _).set (.inl (by omega)) _ |>.set (.inr rfl) _).set (.inl (Nat.le_refl _)) _
end
end Go.Proofs.YthogkmcahnkkoaaGreatDoor
namespace Go.Proofs.YthogkmcahnkkoaaGreatDoor
def bQ {α : Type} (m : SM α) : Prop := ∀ σ, (m σ).2.left.length ≤ σ.left.length
theorem bQ.bind {α β : Type} {m : SM α} {k : α → SM β} (h : bQ m) (hk : ∀ a, bQ (k a)) : bQ (m >>= k) := fun σ => Nat.le_trans (hk _ _) (h σ)
theorem bQ.pure {α : Type} (a : α) : bQ (Pure.pure a : SM α) := fun _ => Nat.le_refl _
theorem bQ.head : bQ wB := fun _ => Nat.le_refl _
theorem bQ.sees (x : ByteArray) : bQ (oN x) := fun _ => Nat.le_refl _
theorem bQ.refuse (e : Int) : bQ (bK e) := by
 intro σ
 unfold bK
 simp only
 split
 ·simp
 ·exact Nat.le_refl _
theorem bQ.take (x : ByteArray) : bQ (aB x) := by
 intro σ
 unfold aB
 split
 ·simp
 ·exact Nat.le_refl _
theorem bQ.takeKind (k : Int) : bQ (aV k) := by
 intro σ
 unfold aV
 split
 ·simp
 ·exact Nat.le_refl _
theorem bQ.takeAny (l : List ByteArray) : bQ (aI l) := by
 induction l with
 | nil => exact fun _ => Nat.le_refl _
 | cons x l ih =>
  intro σ
  unfold aI
  split
  ·simp
  ·exact ih σ
theorem bQ.ite {α : Type} {c : Prop} [Decidable c] {m n : SM α} (h : bQ m) (h' : bQ n) : bQ (if c then m else n) := by
 split
 ·exact h
 ·exact h'
theorem bQ.want (x : ByteArray) : bQ (dA x) := (bQ.take x).bind fun _ => .ite (.pure _) (.refuse _)
theorem bQ.name : bQ bZ := bQ.head.bind fun _ => .ite ((bQ.refuse _).bind fun _ => .pure _) ((bQ.takeKind _).bind fun _ => .ite (.pure _) ((bQ.refuse _).bind fun _ => .pure _))
theorem bQ.number : bQ lK := bQ.head.bind fun _ => (bQ.takeKind _).bind fun _ => .ite (.pure _) ((bQ.refuse _).bind fun _ => .pure _)
theorem bQ.loop {α : Type} {s : α → SM (Option α)} (h : ∀ a, bQ (s a)) : ∀ (f : Nat) (x : α), bQ (loopS s f x)
 | 0, x => .pure x
 | f + 1, x => (h x).bind fun o => by
  cases o with
  | none => exact .pure x
  | some y => exact bQ.loop h f y
theorem bQ.while {α : Type} {s : α → SM (Option α)} (h : ∀ a, bQ (s a)) (x : α) : bQ (rJ s x) := fun σ => bQ.loop h σ.left.length x σ
theorem bQ.fromLeft {m : Tr → ByteArray → SM Tr} (h : ∀ a b, bQ (m a b)) (l : List ByteArray) (x : Tr) : bQ (dL m l x) :=
 bQ.while (fun a => (bQ.takeAny l).bind fun o => by
  cases o with
  | none => exact .pure _
  | some y => exact (h a y).bind fun _ => .pure _) x
theorem bQ.each {α : Type} {r : SM α} (h : bQ r) (x : ByteArray) (l : List α) : bQ (Di x r l) :=
 bQ.while (fun _ => (bQ.take x).bind fun _ => .ite (h.bind fun _ => .pure _) (.pure _)) l
theorem bQ.list {α : Type} {r : SM α} (h : bQ r) (x : ByteArray) : bQ (jW x r) := h.bind fun _ => h.each x _
theorem bQ.behind {α : Type} {r : SM α} (h : bQ r) (x : ByteArray) : bQ (fJ x r) := (bQ.take x).bind fun _ => .ite (h.bind fun _ => .pure _) (.pure _)
theorem bQ.inBrackets {α : Type} {r : SM α} (h : bQ r) : bQ (bH r) := (bQ.want _).bind fun _ => h.bind fun _ => (bQ.want _).bind fun _ => .pure _
theorem bQ.listInBrackets {α : Type} {r : SM α} (h : bQ r) : bQ (jF r) := ((bQ.sees _).bind fun _ => .ite (.pure _) (h.list _)).inBrackets
structure YG (K : gG) : Prop where
 or : bQ K.or
 not : bQ K.not
 unary : bQ K.unary
 parts : bQ K.parts
 block : bQ K.block
section
variable {K : gG} (h : YG K)
include h
omit h in
theorem bQ.operands {r : SM Tr} (hr : bQ r) (l : List ByteArray) : bQ (fP r l) := hr.bind fun _ => .fromLeft (fun _ _ => hr.bind fun _ => .pure _) _ _
theorem N8 : bQ (D5 K) := (bQ.want _).bind fun _ => h.or.bind fun _ => (bQ.want _).bind fun _ => h.or.bind fun _ => (bQ.want _).bind fun _ => h.or.bind fun _ => (bQ.want _).bind fun _ => .pure _
theorem Jc (s : ByteArray) : bQ (qQ K s) := bQ.inBrackets (.ite ((bQ.take _).bind fun _ => .ite (.pure _) (h.or.bind fun _ => .pure _)) (h.or.bind fun _ => .pure _))
theorem Q8 : bQ (ES K) := bQ.name.bind fun _ => (bQ.take _).bind fun _ => .ite (bQ.name.bind fun _ => .pure _) (.ite ((bQ.sees _).bind fun _ => .ite ((Jc h _).bind fun _ => .pure _) (.pure _)) (.pure _))
theorem Gs : bQ (rM K) := (bQ.sees _).bind fun _ => .ite (h.parts.bind fun _ => .pure _) h.or
theorem Vg : bQ (Hf K) := bQ.head.bind fun _ => (bQ.takeKind _).bind fun _ => .ite (.pure _) ((bQ.takeKind _).bind fun _ => .ite (.pure _) ((bQ.take _).bind fun _ => .ite (.pure _) ((bQ.take _).bind fun _ => .ite (.pure _) ((bQ.take _).bind fun _ => .ite (.pure _) ((bQ.take _).bind fun _ => .ite (bQ.name.bind fun _ => .pure _) ((bQ.take _).bind fun _ => .ite (N8 h) ((bQ.take _).bind fun _ => .ite (h.parts.inBrackets.bind fun _ => .pure _) ((bQ.sees _).bind fun _ => .ite (Gs h).inBrackets (Q8 h)))))))))
theorem BN : bQ (yZ K) := (bQ.take _).bind fun _ => .ite (h.unary.bind fun _ => .pure _) (Vg h)
theorem Dk : bQ (Lc K) := bQ.operands (BN h) _
theorem Qd : bQ (Aa K) := bQ.operands (Dk h) _
theorem Vh (x : Tr) (n : Int) : bQ (inS K x n) := (bQ.want _).bind fun _ => h.parts.inBrackets.bind fun _ => .pure _
theorem Jd : bQ (qR K) := (Qd h).bind fun _ => (bQ.takeAny _).bind fun o => by
 cases o with
 | some m => exact (Qd h).bind fun _ => .pure _
 | none => exact (bQ.take _).bind fun _ => .ite ((bQ.take _).bind fun _ => (bQ.want _).bind fun _ => .pure _) ((bQ.take _).bind fun _ => .ite (Vh h _ _) ((bQ.sees _).bind fun _ => .ite (Vh h _ _) (.pure _)))
theorem Je : bQ (notS K) := (bQ.take _).bind fun _ => .ite (h.not.bind fun _ => .pure _) (Jd h)
theorem Qe : bQ (acX K) := bQ.operands (Je h) _
theorem abf : bQ (orS K) := bQ.operands (Qe h) _
theorem Le : bQ (Hg K) := h.or.bind fun _ => (bQ.want _).bind fun _ => bQ.name.bind fun _ => .pure _
theorem Qg : bQ (keyS K) := h.or.bind fun _ => (bQ.take _).bind fun _ => .pure _
theorem Qh : bQ (BG K) := (bQ.sees _).bind fun _ => .ite (h.parts.inBrackets.bind fun _ => (bQ.want _).bind fun _ => bQ.name.bind fun _ => .pure _) (bQ.name.bind fun _ => (bQ.take _).bind fun _ => (bQ.take _).bind fun _ => .ite (bQ.name.bind fun _ => .pure _) (.pure _))
theorem Ad (x : Tr) (n : Int) : bQ (Dj K x n) := (Qh h).bind fun _ => (bQ.want _).bind fun _ => h.or.bind fun _ => .pure _
theorem N9 : bQ (vO K) := (Qh h).bind fun _ => .fromLeft (fun _ _ => .ite ((bQ.want _).bind fun _ => Ad h _ _) (Ad h _ _)) _ _
theorem Q9 : bQ (y8 K) := (bQ.take _).bind fun _ => .ite ((bQ.want _).bind fun _ => (h.or.list _).bind fun _ => (h.or.behind _).bind fun _ => .pure _) (.pure _)
theorem Rf : bQ (y9 K) := (bQ.take _).bind fun _ => .ite ((bQ.want _).bind fun _ => (Qg h).list _) (.pure _)
omit h in
theorem Hl : bQ zf := (bQ.take _).bind fun _ => .ite .number (.pure _)
theorem EY : bQ (rO K) := (bQ.sees _).bind fun _ => .ite h.parts.inBrackets ((bQ.want _).bind fun _ => (bQ.take _).bind fun _ => ((Le h).list _).bind fun _ => ((N9 h).behind _).bind fun _ => (h.or.behind _).bind fun _ => (Q9 h).bind fun _ => (Rf h).bind fun _ => Hl.bind fun _ => .pure _)
omit h in
theorem vT (s : ByteArray) : bQ (kJ s) := .ite (.pure _) (.ite (.pure _) ((bQ.take _).bind fun _ => .ite (.pure _) (.pure _)))
theorem Rh : bQ (ET K) := (EY h).bind fun _ => .fromLeft (fun _ _ => (vT _).bind fun _ => (EY h).bind fun _ => .pure _) _ _
theorem Ae : bQ (BI K) := bQ.name.bind fun _ => (bQ.want _).bind fun _ => h.or.bind fun _ => .pure _
theorem Ri (k a : Int) : bQ (Va K k a) :=
 .ite ((Ae h).bind fun _ => .pure _) (.ite (bQ.name.bind fun _ => .pure _) (.ite (bQ.name.bind fun _ => h.or.bind fun _ => .pure _)
 (.ite ((bQ.want _).bind fun _ => bQ.name.bind fun _ => (bQ.take _).bind fun _ => .ite ((h.or.list _).inBrackets.bind fun _ => .pure _) (h.parts.bind fun _ => .pure _))
 (.ite (bQ.name.bind fun _ => (bQ.want _).bind fun _ => ((Ae h).list _).bind fun _ => (h.or.behind _).bind fun _ => .pure _)
 (.ite ((bQ.want _).bind fun _ => bQ.name.bind fun _ => (h.or.behind _).bind fun _ => .pure _)
 (.ite (bQ.name.bind fun _ => h.or.listInBrackets.bind fun _ => .pure _) (.pure _)))))))
theorem Vj (k a : Int) : bQ (aaq K k a) :=
 .ite (h.or.bind fun _ => h.block.bind fun _ => (bQ.take _).bind fun _ => .ite (h.block.bind fun _ => .pure _) (.pure _))
 (.ite (h.or.bind fun _ => h.block.bind fun _ => .pure _)
 (.ite ((bQ.name.list _).bind fun _ => (bQ.want _).bind fun _ => h.parts.bind fun _ => h.block.bind fun _ => .pure _)
 (.ite (h.block.bind fun _ => (bQ.want _).bind fun _ => h.block.bind fun _ => .pure _)
 ((Ri h _ _).bind fun _ => (bQ.want _).bind fun _ => .pure _))))
theorem Rj : bQ (Vb K) :=
 bQ.while (fun _ => bQ.head.bind fun _ => .ite (.pure _) ((bQ.takeKind _).bind fun _ => .ite ((Vj h _ _).bind fun _ => .pure _) (.pure _))) _
theorem Rk : bQ (Vd K) := (bQ.want _).bind fun _ => (Rj h).bind fun _ => (bQ.want _).bind fun _ => .pure _
end
theorem bQ.tooDeep {α : Type} (z : α) : bQ (Go.Proofs.YthogkmcahnkkoaaGreatDoor.tooDeep z) := (bQ.refuse 9).bind fun _ => .pure z
theorem rQ : ∀ n : Nat, YG (I8 n)
 | 0 => ⟨.tooDeep _, .tooDeep _, .tooDeep _, .tooDeep _, .tooDeep _⟩
 | n + 1 => ⟨abf (rQ n), Je (rQ n), BN (rQ n), Rh (rQ n), Rk (rQ n)⟩
end Go.Proofs.YthogkmcahnkkoaaGreatDoor
