/- The program's writer: lines of tokens, blocks, what stands ahead of them. The program's writer: statements. The program's writer: statements, all together. A cut that keeps early ends. What the weights of expressions say. -/
import Derived.Test.YthogkmcahnkkoaaGreatDoorJ37
namespace Go.Proofs.YthogkmcahnkkoaaGreatDoor
open Go.RowKit
set_option maxRecDepth 10000
set_option linter.unusedSimpArgs false
set_option linter.unusedVariables false
theorem pF {σ : AW} {b : Nat} {s0 : ByteArray} {d : Int} {i : Nat} {t0 td tl : Bool} (h : Dt σ b s0 d i t0 td tl) {w c z : Nat} {ws : List ByteArray} (hw : σ.get w = ⟨1, 9, z, ws.map Value.string⟩) (hwn : w < σ.next) (hwb : w ≠ b) (hl : ws.length ≤ 1000) (hx : ∀ x ∈ ws, x.size ≤ 70000) (hi : i ≤ 30000) :
  C Tryz.prog 77 [.pointer (some ⟨b, 0, none⟩), .slice (some ⟨w, 0, none⟩) ws.length c] σ (Wrote b d i σ s0 t0 td tl (qy i (aK ws))) := by
 have hlt := h.lt
 have kp : Kp σ ((σ.push ⟨1, 48, 0, [.pointer (some ⟨b, 0, none⟩)]⟩).push ⟨1, 38, 0, [.slice (some ⟨w, 0, none⟩) ws.length c]⟩) := ((Kp.refl σ).push _).push _
 have hE : dX b fun σ' => σ'.get w = ⟨1, 9, z, ws.map Value.string⟩ ∧ w < σ'.next := fun σ σ' ⟨g, hn⟩ k => zx g hn hwb k
 have hkw := zx hw hwn hwb (kp.wk b)
 refine fG Tryz.func77 Tryz.ntmps77 Tryz.results77 fun A hz a0 a1 => ?_
 refine gQ a0 a1 ?_
 refine aj (bP a0 a1) ?_
 refine C.mono (x9 (E := fun σ' => (σ'.get w = ⟨1, 9, z, ws.map Value.string⟩ ∧ w < σ'.next) ∧ σ'.get σ.next = ⟨1, 48, 0, [.pointer (some ⟨b, 0, none⟩)]⟩ ∧ σ'.get (σ.next + 1) = ⟨1, 38, 0, [.slice (some ⟨w, 0, none⟩) ws.length c]⟩ ∧ σ.next + 2 ≤ σ'.next) (fs := []) (dR hE hlt (by decide) (by decide)) hi (m := aK ws) (fun σ1 s1 t1 Uf tl1 he h1 => ?_) _ _ _ _ _ ⟨hkw, (aC (by rw [ah]; omega)).trans aA, aA, Nat.le_refl _⟩ (h.kp kp)) ?_
 ·obtain ⟨⟨hw1, hn1⟩, gN, gM, hn⟩ := he
  refine fG Tryz.func110 Tryz.ntmps110 Tryz.results110 fun A hz a0 a1 => ?_
  refine dV a0 a1 gN gM ?_
  refine aj (bP a0 a1) ?_
  refine C.mono (OI h1 hw1 (by decide) hwb hn1 hl hx) ?_
  rintro _ σ2 h2
  refine iO ?_
  refine gI ?_
  exact h2
 ·rintro _ σ2 h2
  refine iO ?_
  refine gI ?_
  exact h2.kp kp
theorem Xk {b : Nat} {d : Int} {i : Nat} {l : List Tr} {m : WM} (h0 : 0 ≤ d) (hd : d ≤ 40) (hi : i ≤ 30000) (hf : d < 40 → ∀ v, Writes (aP b (sl 9 l) v) b (d + 1) (i + 1) 35 [.pointer (some ⟨b, 0, none⟩), v] m) :
  ∀ v, Writes (aP b (sl 9 l) v) b d i 113 [.pointer (some ⟨b, 0, none⟩), v] (if d = 40 then fun t => ([], t, true) else m) := by
 intro v σ s0 t0 td tl hx h
 have hlt := h.lt
 obtain ⟨va, vc, rfl⟩ := aG hx
 have ov : gu (.slice va l.length vc) = true := rfl
 have kp : Kp σ ((σ.push ⟨1, 48, 0, [.pointer (some ⟨b, 0, none⟩)]⟩).push ⟨1, 24, 0, [.slice va l.length vc]⟩) := ((Kp.refl σ).push _).push _
 refine fG Tryz.func113 Tryz.ntmps113 Tryz.results113 fun A hz a0 a1 => ?_
 refine dS a0 a1 ov ?_
 refine aj (bP a0 a1) ?_
 refine C.mono (qU (E := fun σ' => aP b (sl 9 l) (.slice va l.length vc) σ' ∧ σ'.get σ.next = ⟨1, 48, 0, [.pointer (some ⟨b, 0, none⟩)]⟩ ∧ σ'.get (σ.next + 1) = ⟨1, 24, 0, [.slice va l.length vc]⟩ ∧ σ.next + 2 ≤ σ'.next) (fs := []) (dR fU hlt (by decide) (by decide)) h0 hd (m := m) (fun hd4 σ1 s1 t1 Uf tl1 he h1 => ?_) _ _ _ _ _ ⟨aP.wk hx (kp.wk b), (aC (by rw [ah]; omega)).trans aA, aA, Nat.le_refl _⟩ (h.kp kp)) ?_
 ·obtain ⟨r, gN, gM, hn⟩ := he
  refine fG Tryz.func148 Tryz.ntmps148 Tryz.results148 fun A hz a0 a1 => ?_
  refine dV a0 a1 gN gM ?_
  refine aj (bP a0 a1) ?_
  refine C.mono (OG (E := fun σ' => aP b (sl 9 l) (.slice va l.length vc) σ' ∧ σ'.get σ.next = ⟨1, 48, 0, [.pointer (some ⟨b, 0, none⟩)]⟩ ∧ σ'.get (σ.next + 1) = ⟨1, 24, 0, [.slice va l.length vc]⟩ ∧ σ.next + 2 ≤ σ'.next) (fs := []) (dR fU hlt (by decide) (by decide)) (by omega) (by omega) (m := m) (fun σ3 s3 t3 td3 tl3 he3 h3 => ?_) _ _ _ _ _ ⟨r, gN, gM, hn⟩ h1) ?_
  ·obtain ⟨r, gN, gM, hn⟩ := he3
   refine fG Tryz.func149 Tryz.ntmps149 Tryz.results149 fun A hz a0 a1 => ?_
   refine jy a0 a1 gN gM ov ?_
   refine aj (bP a0 a1) ?_
   refine C.mono (hf hd4 _ _ _ _ _ _ r h3) ?_
   rintro _ σ4 h4
   refine iO ?_
   refine gI ?_
   exact h4
  ·rintro _ σ2 h2
   refine iO ?_
   refine gI ?_
   exact h2
 ·rintro _ σ2 h2
  refine iO ?_
  refine gI ?_
  exact h2.kp kp
theorem JC {b : Nat} {d i : Int} {l : List Tr} {f : Tr → WM} (hlen : l.length ≤ 1000000) (hs : ∀ p ∈ l, ShT 9 p) (hf : oL b d i 78 f l) : ∀ v, Writes (aP b (sl 9 l) v) b d i 35 [.pointer (some ⟨b, 0, none⟩), v] (fK (l.map f)) := by
 intro v σ s0 t0 td tl hx h
 have hlt := h.lt
 have l1 : ∀ τ, fF Tryz.prog τ 24 v = some (.int .i64 l.length) := fun τ => by obtain ⟨a, c, rfl⟩ := aG hx; exact KH τ a _ c
 refine fG Tryz.func35 Tryz.ntmps35 Tryz.results35 fun A hz a0 a1 => ?_
 refine dS a0 a1 l1 ?_
 refine dB (dI (fun m B σ1 => ∃ j, j ≤ l.length ∧ m = l.length - j ∧ B.size = 16 ∧ B.get 0 = some (.pointer (some ⟨b, 0, none⟩)) ∧ B.get 6 = some v ∧ B.get 7 = some (.int .i64 (l.length : Int)) ∧ B.get 8 = some (.int .i64 (j : Int)) ∧ Wrote b d i σ s0 t0 td tl (fK ((l.take j).map f)) (.tuple #[]) σ1) ?_ (m := l.length) (by refine' ⟨0, Nat.zero_le _, rfl, ?_, ?_, ?_, ?_, ?_, Wrote.nil h⟩; any_goals (first | exact aU a0 | fail)))
 rintro m B σ1 ⟨j, hj, rfl, hz, b0, b6, b7, b8, G⟩
 by_cases hjl : j < l.length
 ·have c1 : decide ((j : Int) < (l.length : Int)) = true := by simp [hjl]
  have rf := aP.wk hx G.2
  obtain ⟨bb, p, q, c, cs, lv, e, hrow, hel, htk, hx1, hl, ho⟩ := jl rf PV (j := (j : Int)) rfl hjl (hs _ (List.getElem_mem _))
  rw [e] at b6
  have hr := hrow _ (Wk.refl b _)
  have hblt := G.1.lt
  have hadd : aT .add (.int .i64 (j : Int)) (.int .i64 1) = some (.int .i64 ((j + 1 : Nat) : Int)) := by rw [aH (by omega) (by omega)]; rfl
  have kz : Kp σ1 ((σ1.push ⟨1, 54, 0, [.int .i64 0, .int .i64 0, .string ⟨#[]⟩, .slice none 0 0, .slice none 0 0, .slice none 0 0, .slice none 0 0, .slice none 0 0, .slice none 0 0]⟩).set σ1.next ⟨1, 54, 0, lv⟩) := ((Kp.refl σ1).push _).set (Nat.le_refl _) _
  refine iC hr b0 b6 b7 b8 c1 hel htk (cJ hl ho) ?_
  refine aj (aU b0) ?_
  refine C.mono (hf _ (List.getElem_mem _) _ _ _ _ _ _ (aP.wk hx1 (kz.wk b)) (G.1.kp kz)) ?_
  rintro _ σ3 g3
  refine jy b0 b6 b7 b8 hadd ?_
  refine ⟨l.length - (j + 1), by omega, j + 1, hjl, rfl, (dD), (aU b0), (by rw [e]; (first | exact aU b6 | fail)), (aU b7), (dD), ?_⟩
  rw [Ij f hjl]
  exact G.trans (g3.kp kz)
 ·have c1 : decide ((j : Int) < (l.length : Int)) = false := by simp [hjl]
  rw [List.take_of_length_le (by omega)] at G
  refine jy b0 b6 b7 b8 c1 ?_
  refine xL ?_
  refine iO ?_
  refine gI ?_
  exact G
theorem Xl {b : Nat} {d i a : Int} {t : ByteArray} {names es qs wh body other : List Tr} {x : Value} {fi : Tr → WM} (oU : es.length ≤ 1000000) (nJ : ∀ p ∈ es, ShT 6 p) (nK : oK b d i fi es) :
  Writes (aP b (mkS 2 a t names es qs wh body other) x) b d i 112 [.pointer (some ⟨b, 0, none⟩), x] (if es = [] then dW else aQ (aK [YD]) (dh (es.map fi))) := by
 intro σ s0 t0 td tl hx h
 have hlt := h.lt
 obtain ⟨v1, v2, v3, v4, v5, v6, rfl, r1, r2, r3, r4, r5, r6⟩ := sJ hx
 have o1 := ay r1
 have o2 := ay r2
 have o3 := ay r3
 have o4 := ay r4
 have o5 := ay r5
 have o6 := ay r6
 replace r1 : aP b (sl 1 names) v1 σ := r1
 replace r2 : aP b (sl 6 es) v2 σ := r2
 replace r3 : aP b (sl 10 qs) v3 σ := r3
 replace r4 : aP b (sl 6 wh) v4 σ := r4
 replace r5 : aP b (sl 9 body) v5 σ := r5
 replace r6 : aP b (sl 9 other) v6 σ := r6
 have kp : Kp σ (σ.push ⟨1, 54, 0, [.int .i64 2, .int .i64 a, .string t, v1, v2, v3, v4, v5, v6]⟩) := (Kp.refl σ).push _
 refine fG Tryz.func112 Tryz.ntmps112 Tryz.results112 fun A hz a0 a1 => ?_
 refine aY a0 a1 o1 o2 o3 o4 o5 (cJ o6 (eQ 2)) ?_
 refine aj (bP a0 a1) ?_
 have oV : ∀ B, Kp (σ.push ⟨1, 54, 0, [.int .i64 2, .int .i64 a, .string t, v1, v2, v3, v4, v5, v6]⟩) ((σ.push ⟨1, 54, 0, [.int .i64 2, .int .i64 a, .string t, v1, v2, v3, v4, v5, v6]⟩).push B) := fun B => (Kp.refl _).push B
 refine C.mono (wo (fi := fi) (ws := [YD]) oU nJ nK (show 1 ≤ 1000 by decide) (by decide) _ _ _ _ _ ⟨aP.wk r2 ((kp.trans (oV _)).wk b), aA, (show σ.next + 1 < σ.next + 2 by omega), (show σ.next + 1 ≠ b by omega)⟩ (h.kp (kp.trans (oV _)))) ?_
 rintro _ σ1 h1
 have H1 := (h1.kp (oV _))
 have gN := (box1 hlt H1.2 (by decide)).1
 have hn := (box1 hlt H1.2 (by decide)).2
 refine aY a0 a1 gN o1 o2 o3 o4 (cJ o5 o6) ?_
 refine gI ?_
 exact H1.kp kp
theorem Xm {b : Nat} {d i a : Int} {t : ByteArray} {names es qs wh body other : List Tr} {x : Value} {fi : Tr → WM} (oU : es.length ≤ 1000000) (nJ : ∀ p ∈ es, ShT 6 p) (nK : oK b d i fi es) :
  Writes (aP b (mkS 3 a t names es qs wh body other) x) b d i 112 [.pointer (some ⟨b, 0, none⟩), x] (if es = [] then dW else aQ (aK [DX]) (dh (es.map fi))) := by
 intro σ s0 t0 td tl hx h
 have hlt := h.lt
 obtain ⟨v1, v2, v3, v4, v5, v6, rfl, r1, r2, r3, r4, r5, r6⟩ := sJ hx
 have o1 := ay r1
 have o2 := ay r2
 have o3 := ay r3
 have o4 := ay r4
 have o5 := ay r5
 have o6 := ay r6
 replace r1 : aP b (sl 1 names) v1 σ := r1
 replace r2 : aP b (sl 6 es) v2 σ := r2
 replace r3 : aP b (sl 10 qs) v3 σ := r3
 replace r4 : aP b (sl 6 wh) v4 σ := r4
 replace r5 : aP b (sl 9 body) v5 σ := r5
 replace r6 : aP b (sl 9 other) v6 σ := r6
 have kp : Kp σ (σ.push ⟨1, 54, 0, [.int .i64 3, .int .i64 a, .string t, v1, v2, v3, v4, v5, v6]⟩) := (Kp.refl σ).push _
 refine fG Tryz.func112 Tryz.ntmps112 Tryz.results112 fun A hz a0 a1 => ?_
 refine aY a0 a1 o1 o2 o3 o4 o5 (cJ o6 (cJ (nQ 3 2) (eQ 3))) ?_
 refine aj (bP a0 a1) ?_
 have oV : ∀ B, Kp (σ.push ⟨1, 54, 0, [.int .i64 3, .int .i64 a, .string t, v1, v2, v3, v4, v5, v6]⟩) ((σ.push ⟨1, 54, 0, [.int .i64 3, .int .i64 a, .string t, v1, v2, v3, v4, v5, v6]⟩).push B) := fun B => (Kp.refl _).push B
 refine C.mono (wo (fi := fi) (ws := [DX]) oU nJ nK (show 1 ≤ 1000 by decide) (by decide) _ _ _ _ _ ⟨aP.wk r2 ((kp.trans (oV _)).wk b), aA, (show σ.next + 1 < σ.next + 2 by omega), (show σ.next + 1 ≠ b by omega)⟩ (h.kp (kp.trans (oV _)))) ?_
 rintro _ σ1 h1
 have H1 := (h1.kp (oV _))
 have gN := (box1 hlt H1.2 (by decide)).1
 have hn := (box1 hlt H1.2 (by decide)).2
 refine aY a0 a1 gN o1 o2 o3 o4 (cJ o5 o6) ?_
 refine gI ?_
 exact H1.kp kp
theorem Xn {b : Nat} {d i a : Int} {t : ByteArray} {names es qs wh body other : List Tr} {x : Value} (hln : names.length ≤ 1000000) (hns : ∀ p ∈ names, ∃ s : ByteArray, p = .string s ∧ s.size ≤ 70000) (yK : ∀ p ∈ qs, ShT 10 p) (hq0 : 0 < qs.length) {fq : Tr → WM} (hq : oL b d i 103 fq qs) :
  Writes (aP b (mkS 4 a t names es qs wh body other) x) b d i 112 [.pointer (some ⟨b, 0, none⟩), x] (aQ (aQ (aQ (aK [KY]) (dh (names.map fun p => aK [fM p]))) (aK [uO])) (fq qs[0])) := by
 intro σ s0 t0 td tl hx h
 have hlt := h.lt
 obtain ⟨v1, v2, v3, v4, v5, v6, rfl, r1, r2, r3, r4, r5, r6⟩ := sJ hx
 have o1 := ay r1
 have o2 := ay r2
 have o3 := ay r3
 have o4 := ay r4
 have o5 := ay r5
 have o6 := ay r6
 replace r1 : aP b (sl 1 names) v1 σ := r1
 replace r2 : aP b (sl 6 es) v2 σ := r2
 replace r3 : aP b (sl 10 qs) v3 σ := r3
 replace r4 : aP b (sl 6 wh) v4 σ := r4
 replace r5 : aP b (sl 9 body) v5 σ := r5
 replace r6 : aP b (sl 9 other) v6 σ := r6
 have kp : Kp σ (σ.push ⟨1, 54, 0, [.int .i64 4, .int .i64 a, .string t, v1, v2, v3, v4, v5, v6]⟩) := (Kp.refl σ).push _
 refine fG Tryz.func112 Tryz.ntmps112 Tryz.results112 fun A hz a0 a1 => ?_
 refine aY a0 a1 o1 o2 o3 o4 o5 (cJ o6 (cJ (nQ 4 2) (cJ (nQ 4 3) (eQ 4)))) ?_
 refine aj (bP a0 a1) ?_
 refine C.mono (cZ (h.kp kp) _ _ (KY) (by decide)) ?_
 rintro _ σ1 h1
 have H1 := h1
 have gN := (box1 hlt H1.2 (by decide)).1
 have hn := (box1 hlt H1.2 (by decide)).2
 refine aY a0 a1 gN o1 o2 o3 o4 (cJ o5 o6) ?_
 refine aj (bP a0 a1) ?_
 refine C.mono (Mc hln hns _ _ _ _ _ (aP.wk r1 ((kp.wk b).trans H1.2)) H1.1) ?_
 rintro _ σ2 h2
 have H2 := H1.trans h2
 have gN := (box1 hlt H2.2 (by decide)).1
 have hn := (box1 hlt H2.2 (by decide)).2
 refine aY a0 a1 gN o1 o2 o3 o4 (cJ o5 o6) ?_
 refine aj (bP a0 a1) ?_
 refine C.mono (cZ H2.1 _ _ (uO) (by decide)) ?_
 rintro _ σ3 h3
 have H3 := H2.trans h3
 have gN := (box1 hlt H3.2 (by decide)).1
 have hn := (box1 hlt H3.2 (by decide)).2
 obtain ⟨bbq, pq, qq, cq, csq, lq, eq, oQ, yw, yx, SQ, hlq, hoq⟩ := jl (aP.wk r3 ((kp.wk b).trans H3.2)) rE (j := 0) rfl (i := 0) (hq0) (yK _ (List.getElem_mem _))
 have yA := oQ _ (Wk.refl b _)
 rw [eq] at gN
 refine iC yA a0 a1 gN o1 o2 o3 o4 (cJ o5 (cJ o6 (cJ yw (cJ yx (cJ hlq hoq))))) ?_
 refine aj (bP a0 a1) ?_
 refine C.mono (hq _ (List.getElem_mem _) _ _ _ _ _ _ SQ H3.1) ?_
 rintro _ σ4 h4
 have H4 := H3.trans h4
 have gN := (box1 hlt H4.2 (by decide)).1
 have hn := (box1 hlt H4.2 (by decide)).2
 refine aY a0 a1 gN o1 o2 o3 o4 (cJ o5 o6) ?_
 refine gI ?_
 exact H4.kp kp
theorem TQ {b : Nat} {d i a : Int} {t : ByteArray} {names es qs wh body other : List Tr} {x : Value} :
  Writes (aP b (mkS 10 a t names es qs wh body other) x) b d i 112 [.pointer (some ⟨b, 0, none⟩), x] (aK [P9]) := by
 intro σ s0 t0 td tl hx h
 have hlt := h.lt
 obtain ⟨v1, v2, v3, v4, v5, v6, rfl, r1, r2, r3, r4, r5, r6⟩ := sJ hx
 have o1 := ay r1
 have o2 := ay r2
 have o3 := ay r3
 have o4 := ay r4
 have o5 := ay r5
 have o6 := ay r6
 replace r1 : aP b (sl 1 names) v1 σ := r1
 replace r2 : aP b (sl 6 es) v2 σ := r2
 replace r3 : aP b (sl 10 qs) v3 σ := r3
 replace r4 : aP b (sl 6 wh) v4 σ := r4
 replace r5 : aP b (sl 9 body) v5 σ := r5
 replace r6 : aP b (sl 9 other) v6 σ := r6
 have kp : Kp σ (σ.push ⟨1, 54, 0, [.int .i64 10, .int .i64 a, .string t, v1, v2, v3, v4, v5, v6]⟩) := (Kp.refl σ).push _
 refine fG Tryz.func112 Tryz.ntmps112 Tryz.results112 fun A hz a0 a1 => ?_
 refine aY a0 a1 o1 o2 o3 o4 o5 (cJ o6 (cJ (nQ 10 2) (cJ (nQ 10 3) (cJ (nQ 10 4) (eQ 10))))) ?_
 refine aj (bP a0 a1) ?_
 refine C.mono (cZ (h.kp kp) _ _ (P9) (by decide)) ?_
 rintro _ σ1 h1
 have H1 := h1
 have gN := (box1 hlt H1.2 (by decide)).1
 have hn := (box1 hlt H1.2 (by decide)).2
 refine aY a0 a1 gN o1 o2 o3 o4 (cJ o5 o6) ?_
 refine gI ?_
 exact H1.kp kp
theorem TS {b i : Nat} {d k a : Int} {t : ByteArray} {names es qs wh body other : List Tr} {x : Value} (hi : i ≤ 30000) {mo : WM} (hob : ∀ v, Writes (aP b (sl 9 other) v) b d i 113 [.pointer (some ⟨b, 0, none⟩), v] mo) :
  Writes (aP b (mkS k a t names es qs wh body other) x) b d i 114 [.pointer (some ⟨b, 0, none⟩), x] (if k = 10 then aQ (qy i (aK [BF, DY, yY])) mo else if other = [] then dW else aQ (qy i (aK [BF, jP, yY])) mo) := by
 intro σ s0 t0 td tl hx h
 have hlt := h.lt
 obtain ⟨v1, v2, v3, v4, v5, v6, rfl, r1, r2, r3, r4, r5, r6⟩ := sJ hx
 have o1 := ay r1
 have o2 := ay r2
 have o3 := ay r3
 have o4 := ay r4
 have o5 := ay r5
 have o6 := ay r6
 replace r1 : aP b (sl 1 names) v1 σ := r1
 replace r2 : aP b (sl 6 es) v2 σ := r2
 replace r3 : aP b (sl 10 qs) v3 σ := r3
 replace r4 : aP b (sl 6 wh) v4 σ := r4
 replace r5 : aP b (sl 9 body) v5 σ := r5
 replace r6 : aP b (sl 9 other) v6 σ := r6
 have kp : Kp σ (σ.push ⟨1, 54, 0, [.int .i64 k, .int .i64 a, .string t, v1, v2, v3, v4, v5, v6]⟩) := (Kp.refl σ).push _
 refine fG Tryz.func114 Tryz.ntmps114 Tryz.results114 fun A hz a0 a1 => ?_
 have l6 : ∀ τ, fF Tryz.prog τ 24 v6 = some (.int .i64 other.length) := fun τ => by obtain ⟨a, c, rfl⟩ := aG r6; exact KH τ a _ c
 by_cases hk : k = 10
 ·have c1 : (k == 10) = true := by simp [hk]
  rw [if_pos hk]
  refine aY a0 a1 o1 o2 o3 o4 o5 (cJ o6 c1) ?_
  refine xL ?_
  refine aY a0 a1 o1 o2 o3 o4 o5 o6 ?_
  refine aj (bP a0 a1) ?_
  have oV : ∀ B, Kp (σ.push ⟨1, 54, 0, [.int .i64 k, .int .i64 a, .string t, v1, v2, v3, v4, v5, v6]⟩) ((σ.push ⟨1, 54, 0, [.int .i64 k, .int .i64 a, .string t, v1, v2, v3, v4, v5, v6]⟩).push B) := fun B => (Kp.refl _).push B
  refine C.mono (pF (ws := [BF, DY, yY]) (h.kp (kp.trans (oV _))) aA (show σ.next + 1 < σ.next + 2 by omega) (show σ.next + 1 ≠ b by omega) (show 3 ≤ 1000 by decide) (by decide) hi) ?_
  rintro _ σ1 h1
  have H1 := (h1.kp (oV _))
  have gN := (box1 hlt H1.2 (by decide)).1
  have hn := (box1 hlt H1.2 (by decide)).2
  refine aY a0 a1 gN o1 o2 o3 o4 (cJ o5 o6) ?_
  refine aj (bP a0 a1) ?_
  refine C.mono (hob _ _ _ _ _ _ (aP.wk r6 ((kp.wk b).trans H1.2)) H1.1) ?_
  rintro _ σ2 h2
  have H2 := H1.trans h2
  have gN := (box1 hlt H2.2 (by decide)).1
  have hn := (box1 hlt H2.2 (by decide)).2
  refine aY a0 a1 gN o1 o2 o3 o4 (cJ o5 o6) ?_
  refine xL ?_
  refine aY a0 a1 gN o1 o2 o3 o4 (cJ o5 o6) ?_
  refine gI ?_
  exact H2.kp kp
 have c1 : (k == 10) = false := by simp [hk]
 rw [if_neg hk]
 by_cases ho : other = []
 ·have c2 : decide ((0 : Int) < (other.length : Int)) = false := by simp [ho]
  rw [if_pos ho]
  refine aY a0 a1 o1 o2 o3 o4 o5 (cJ o6 (cJ c1 (cJ l6 c2))) ?_
  refine xL ?_
  refine aY a0 a1 o1 o2 o3 o4 o5 o6 ?_
  refine gI ?_
  exact (Wrote.nil (h.kp kp)).kp kp
 have c2 : decide ((0 : Int) < (other.length : Int)) = true := by
  have := List.length_pos_iff.2 ho
  simp only [decide_eq_true_eq]; omega
 rw [if_neg ho]
 refine aY a0 a1 o1 o2 o3 o4 o5 (cJ o6 (cJ c1 (cJ l6 c2))) ?_
 refine xL ?_
 refine aY a0 a1 o1 o2 o3 o4 o5 o6 ?_
 refine aj (bP a0 a1) ?_
 have oV : ∀ B, Kp (σ.push ⟨1, 54, 0, [.int .i64 k, .int .i64 a, .string t, v1, v2, v3, v4, v5, v6]⟩) ((σ.push ⟨1, 54, 0, [.int .i64 k, .int .i64 a, .string t, v1, v2, v3, v4, v5, v6]⟩).push B) := fun B => (Kp.refl _).push B
 refine C.mono (pF (ws := [BF, jP, yY]) (h.kp (kp.trans (oV _))) aA (show σ.next + 1 < σ.next + 2 by omega) (show σ.next + 1 ≠ b by omega) (show 3 ≤ 1000 by decide) (by decide) hi) ?_
 rintro _ σ1 h1
 have H1 := (h1.kp (oV _))
 have gN := (box1 hlt H1.2 (by decide)).1
 have hn := (box1 hlt H1.2 (by decide)).2
 refine aY a0 a1 gN o1 o2 o3 o4 (cJ o5 o6) ?_
 refine aj (bP a0 a1) ?_
 refine C.mono (hob _ _ _ _ _ _ (aP.wk r6 ((kp.wk b).trans H1.2)) H1.1) ?_
 rintro _ σ2 h2
 have H2 := H1.trans h2
 have gN := (box1 hlt H2.2 (by decide)).1
 have hn := (box1 hlt H2.2 (by decide)).2
 refine aY a0 a1 gN o1 o2 o3 o4 (cJ o5 o6) ?_
 refine xL ?_
 refine aY a0 a1 gN o1 o2 o3 o4 (cJ o5 o6) ?_
 refine gI ?_
 exact H2.kp kp
theorem AP {b N : Nat} {d i k a : Int} {t : ByteArray} {names es qs wh body other : List Tr} {v1 v2 v3 v4 v5 v6 : Value} (hNb : N ≠ b) (o : [.int .i64 k, .int .i64 a, .string t, v1, v2, v3, v4, v5, v6].all gu = true) {mh : WM} (hh : ∀ x, Writes (aP b (mkS k a t names es qs wh body other) x) b d i 112 [.pointer (some ⟨b, 0, none⟩), x] mh) :
  Writes (fun σ' => aP b (mkS k a t names es qs wh body other) (.agg ⟨[.int .i64 k, .int .i64 a, .string t, v1, v2, v3, v4, v5, v6]⟩) σ' ∧ σ'.get N = ⟨1, 48, 0, [.pointer (some ⟨b, 0, none⟩)]⟩ ∧ σ'.get (N + 1) = ⟨1, 54, 0, [.int .i64 k, .int .i64 a, .string t, v1, v2, v3, v4, v5, v6]⟩ ∧ N + 2 ≤ σ'.next) b d i 111 ([] ++ [.pointer (some ⟨N, 0, none⟩), .pointer (some ⟨N + 1, 0, none⟩)]) (aQ mh (aK [yY])) := by
 intro σ s0 t0 td tl ⟨r, gN, gM, hn⟩ h
 simp only [List.all_cons, Bool.and_eq_true] at o
 obtain ⟨_, _, _, o1, o2, o3, o4, o5, o6, _⟩ := o
 have Vo := gN
 refine fG Tryz.func111 Tryz.ntmps111 Tryz.results111 fun A hz a0 a1 => ?_
 refine aY a0 a1 gN gM o1 o2 o3 (cJ o4 (cJ o5 o6)) ?_
 refine aj (bP a0 a1) ?_
 refine C.mono (hh _ _ _ _ _ _ r h) ?_
 rintro _ σ1 h1
 have nN := (h1.2.get N (by omega) hNb (by rw [gN]; show (48 : Nat) ≠ 5; decide)).trans gN
 refine dS a0 a1 nN ?_
 refine aj (bP a0 a1) ?_
 refine C.mono (cZ h1.1 _ _ yY (by decide)) ?_
 rintro _ σ2 h2
 refine iO ?_
 refine gI ?_
 exact h1.trans h2
theorem Xo {b N : Nat} {d i k a : Int} {t : ByteArray} {names es qs wh body other : List Tr} {v1 v2 v3 v4 v5 v6 : Value} (hNb : N ≠ b) (o : [.int .i64 k, .int .i64 a, .string t, v1, v2, v3, v4, v5, v6].all gu = true) {mh : WM} (hh : ∀ x, Writes (aP b (mkS k a t names es qs wh body other) x) b d i 116 [.pointer (some ⟨b, 0, none⟩), x] mh) :
  Writes (fun σ' => aP b (mkS k a t names es qs wh body other) (.agg ⟨[.int .i64 k, .int .i64 a, .string t, v1, v2, v3, v4, v5, v6]⟩) σ' ∧ σ'.get N = ⟨1, 48, 0, [.pointer (some ⟨b, 0, none⟩)]⟩ ∧ σ'.get (N + 1) = ⟨1, 54, 0, [.int .i64 k, .int .i64 a, .string t, v1, v2, v3, v4, v5, v6]⟩ ∧ N + 2 ≤ σ'.next) b d i 115 ([] ++ [.pointer (some ⟨N, 0, none⟩), .pointer (some ⟨N + 1, 0, none⟩)]) (aQ mh (aK [vM])) := by
 intro σ s0 t0 td tl ⟨r, gN, gM, hn⟩ h
 simp only [List.all_cons, Bool.and_eq_true] at o
 obtain ⟨_, _, _, o1, o2, o3, o4, o5, o6, _⟩ := o
 have Vo := gN
 refine fG Tryz.func115 Tryz.ntmps115 Tryz.results115 fun A hz a0 a1 => ?_
 refine aY a0 a1 gN gM o1 o2 o3 (cJ o4 (cJ o5 o6)) ?_
 refine aj (bP a0 a1) ?_
 refine C.mono (hh _ _ _ _ _ _ r h) ?_
 rintro _ σ1 h1
 have nN := (h1.2.get N (by omega) hNb (by rw [gN]; show (48 : Nat) ≠ 5; decide)).trans gN
 refine dS a0 a1 nN ?_
 refine aj (bP a0 a1) ?_
 refine C.mono (cZ h1.1 _ _ vM (by decide)) ?_
 rintro _ σ2 h2
 refine iO ?_
 refine gI ?_
 exact h1.trans h2
theorem Xp {b i : Nat} {d k a : Int} {t : ByteArray} {names es qs wh body other : List Tr} {x : Value} (hk : k = 2 ∨ k = 3 ∨ k = 4 ∨ k = 10) (hi : i ≤ 30000) {mh mb ms : WM} (hh : ∀ x, Writes (aP b (mkS k a t names es qs wh body other) x) b d i 112 [.pointer (some ⟨b, 0, none⟩), x] mh) (hb : ∀ v, Writes (aP b (sl 9 body) v) b d i 113 [.pointer (some ⟨b, 0, none⟩), v] mb) (hs : ∀ x, Writes (aP b (mkS k a t names es qs wh body other) x) b d i 114 [.pointer (some ⟨b, 0, none⟩), x] ms) :
  Writes (aP b (mkS k a t names es qs wh body other) x) b d i 78 [.pointer (some ⟨b, 0, none⟩), x] (aQ (aQ (aQ (qy i (aQ mh (aK [yY]))) mb) ms) (qy i (aK [BF]))) := by
 intro σ s0 t0 td tl hx h
 have hlt := h.lt
 obtain ⟨v1, v2, v3, v4, v5, v6, rfl, r1, r2, r3, r4, r5, r6⟩ := sJ hx
 have o1 := ay r1
 have o2 := ay r2
 have o3 := ay r3
 have o4 := ay r4
 have o5 := ay r5
 have o6 := ay r6
 replace r1 : aP b (sl 1 names) v1 σ := r1
 replace r2 : aP b (sl 6 es) v2 σ := r2
 replace r3 : aP b (sl 10 qs) v3 σ := r3
 replace r4 : aP b (sl 6 wh) v4 σ := r4
 replace r5 : aP b (sl 9 body) v5 σ := r5
 replace r6 : aP b (sl 9 other) v6 σ := r6
 have kp : Kp σ ((σ.push ⟨1, 48, 0, [.pointer (some ⟨b, 0, none⟩)]⟩).push ⟨1, 54, 0, [.int .i64 k, .int .i64 a, .string t, v1, v2, v3, v4, v5, v6]⟩) := ((Kp.refl σ).push _).push _
 refine fG Tryz.func78 Tryz.ntmps78 Tryz.results78 fun A hz a0 a1 => ?_
 rcases hk with rfl | rfl | rfl | rfl
 ·refine aY a0 a1 o1 o2 o3 o4 o5 (cJ o6 (eQ 2)) ?_
  refine aj (bP a0 a1) ?_
  refine C.mono (x9 (E := fun σ' => aP b (mkS 2 a t names es qs wh body other) (.agg ⟨[.int .i64 2, .int .i64 a, .string t, v1, v2, v3, v4, v5, v6]⟩) σ' ∧ σ'.get σ.next = ⟨1, 48, 0, [.pointer (some ⟨b, 0, none⟩)]⟩ ∧ σ'.get (σ.next + 1) = ⟨1, 54, 0, [.int .i64 2, .int .i64 a, .string t, v1, v2, v3, v4, v5, v6]⟩ ∧ σ.next + 2 ≤ σ'.next) (fs := []) (dR fU hlt (by decide) (by decide)) hi (m := aQ mh (aK [yY])) (AP (by omega) (by simp only [List.all_cons, List.all_nil, Bool.and_eq_true]; exact ⟨rfl, rfl, rfl, o1, o2, o3, o4, o5, o6, trivial⟩) hh) _ _ _ _ _ ⟨aP.wk (tY r1 r2 r3 r4 r5 r6) (kp.wk b), (aC (by rw [ah]; omega)).trans aA, aA, Nat.le_refl _⟩ (h.kp kp)) ?_
  rintro _ σ1 h1
  have H1 := h1
  obtain ⟨gN, gM, hn⟩ := iP hlt H1.2 (by decide) (by decide)
  refine aY a0 a1 gN gM o1 o2 o3 (cJ o4 (cJ o5 o6)) ?_
  refine aj (bP a0 a1) ?_
  refine C.mono (hb _ _ _ _ _ _ (aP.wk r5 ((kp.wk b).trans H1.2)) H1.1) ?_
  rintro _ σ2 h2
  have H2 := H1.trans h2
  obtain ⟨gN, gM, hn⟩ := iP hlt H2.2 (by decide) (by decide)
  refine aY a0 a1 gN gM o1 o2 o3 (cJ o4 (cJ o5 o6)) ?_
  refine aj (bP a0 a1) ?_
  refine C.mono (hs _ _ _ _ _ _ (aP.wk (tY r1 r2 r3 r4 r5 r6) ((kp.wk b).trans H2.2)) H2.1) ?_
  rintro _ σ3 h3
  have H3 := H2.trans h3
  obtain ⟨gN, gM, hn⟩ := iP hlt H3.2 (by decide) (by decide)
  refine aY a0 a1 gN gM o1 o2 o3 (cJ o4 (cJ o5 o6)) ?_
  refine aj (bP a0 a1) ?_
  have OU : ∀ B, Kp σ3 (σ3.push B) := fun B => (Kp.refl _).push B
  have lb3 := H3.1.lt
  refine C.mono (pF (ws := [BF]) (H3.1.kp (OU _)) aA (show σ3.next < σ3.next + 1 by omega) (by omega) (show 1 ≤ 1000 by decide) (by decide) hi) ?_
  rintro _ σ4 h4
  have H4 := H3.trans (h4.kp (OU _))
  obtain ⟨gN, gM, hn⟩ := iP hlt H4.2 (by decide) (by decide)
  refine aY a0 a1 gN gM o1 o2 o3 (cJ o4 (cJ o5 o6)) ?_
  refine gI ?_
  exact H4.kp kp
 ·refine aY a0 a1 o1 o2 o3 o4 o5 (cJ o6 (cJ (nQ 3 2) (eQ 3))) ?_
  refine aj (bP a0 a1) ?_
  refine C.mono (x9 (E := fun σ' => aP b (mkS 3 a t names es qs wh body other) (.agg ⟨[.int .i64 3, .int .i64 a, .string t, v1, v2, v3, v4, v5, v6]⟩) σ' ∧ σ'.get σ.next = ⟨1, 48, 0, [.pointer (some ⟨b, 0, none⟩)]⟩ ∧ σ'.get (σ.next + 1) = ⟨1, 54, 0, [.int .i64 3, .int .i64 a, .string t, v1, v2, v3, v4, v5, v6]⟩ ∧ σ.next + 2 ≤ σ'.next) (fs := []) (dR fU hlt (by decide) (by decide)) hi (m := aQ mh (aK [yY])) (AP (by omega) (by simp only [List.all_cons, List.all_nil, Bool.and_eq_true]; exact ⟨rfl, rfl, rfl, o1, o2, o3, o4, o5, o6, trivial⟩) hh) _ _ _ _ _ ⟨aP.wk (tY r1 r2 r3 r4 r5 r6) (kp.wk b), (aC (by rw [ah]; omega)).trans aA, aA, Nat.le_refl _⟩ (h.kp kp)) ?_
  rintro _ σ1 h1
  have H1 := h1
  obtain ⟨gN, gM, hn⟩ := iP hlt H1.2 (by decide) (by decide)
  refine aY a0 a1 gN gM o1 o2 o3 (cJ o4 (cJ o5 o6)) ?_
  refine aj (bP a0 a1) ?_
  refine C.mono (hb _ _ _ _ _ _ (aP.wk r5 ((kp.wk b).trans H1.2)) H1.1) ?_
  rintro _ σ2 h2
  have H2 := H1.trans h2
  obtain ⟨gN, gM, hn⟩ := iP hlt H2.2 (by decide) (by decide)
  refine aY a0 a1 gN gM o1 o2 o3 (cJ o4 (cJ o5 o6)) ?_
  refine aj (bP a0 a1) ?_
  refine C.mono (hs _ _ _ _ _ _ (aP.wk (tY r1 r2 r3 r4 r5 r6) ((kp.wk b).trans H2.2)) H2.1) ?_
  rintro _ σ3 h3
  have H3 := H2.trans h3
  obtain ⟨gN, gM, hn⟩ := iP hlt H3.2 (by decide) (by decide)
  refine aY a0 a1 gN gM o1 o2 o3 (cJ o4 (cJ o5 o6)) ?_
  refine aj (bP a0 a1) ?_
  have OU : ∀ B, Kp σ3 (σ3.push B) := fun B => (Kp.refl _).push B
  have lb3 := H3.1.lt
  refine C.mono (pF (ws := [BF]) (H3.1.kp (OU _)) aA (show σ3.next < σ3.next + 1 by omega) (by omega) (show 1 ≤ 1000 by decide) (by decide) hi) ?_
  rintro _ σ4 h4
  have H4 := H3.trans (h4.kp (OU _))
  obtain ⟨gN, gM, hn⟩ := iP hlt H4.2 (by decide) (by decide)
  refine aY a0 a1 gN gM o1 o2 o3 (cJ o4 (cJ o5 o6)) ?_
  refine gI ?_
  exact H4.kp kp
 ·refine aY a0 a1 o1 o2 o3 o4 o5 (cJ o6 (cJ (nQ 4 2) (cJ (nQ 4 3) (eQ 4)))) ?_
  refine aj (bP a0 a1) ?_
  refine C.mono (x9 (E := fun σ' => aP b (mkS 4 a t names es qs wh body other) (.agg ⟨[.int .i64 4, .int .i64 a, .string t, v1, v2, v3, v4, v5, v6]⟩) σ' ∧ σ'.get σ.next = ⟨1, 48, 0, [.pointer (some ⟨b, 0, none⟩)]⟩ ∧ σ'.get (σ.next + 1) = ⟨1, 54, 0, [.int .i64 4, .int .i64 a, .string t, v1, v2, v3, v4, v5, v6]⟩ ∧ σ.next + 2 ≤ σ'.next) (fs := []) (dR fU hlt (by decide) (by decide)) hi (m := aQ mh (aK [yY])) (AP (by omega) (by simp only [List.all_cons, List.all_nil, Bool.and_eq_true]; exact ⟨rfl, rfl, rfl, o1, o2, o3, o4, o5, o6, trivial⟩) hh) _ _ _ _ _ ⟨aP.wk (tY r1 r2 r3 r4 r5 r6) (kp.wk b), (aC (by rw [ah]; omega)).trans aA, aA, Nat.le_refl _⟩ (h.kp kp)) ?_
  rintro _ σ1 h1
  have H1 := h1
  obtain ⟨gN, gM, hn⟩ := iP hlt H1.2 (by decide) (by decide)
  refine aY a0 a1 gN gM o1 o2 o3 (cJ o4 (cJ o5 o6)) ?_
  refine aj (bP a0 a1) ?_
  refine C.mono (hb _ _ _ _ _ _ (aP.wk r5 ((kp.wk b).trans H1.2)) H1.1) ?_
  rintro _ σ2 h2
  have H2 := H1.trans h2
  obtain ⟨gN, gM, hn⟩ := iP hlt H2.2 (by decide) (by decide)
  refine aY a0 a1 gN gM o1 o2 o3 (cJ o4 (cJ o5 o6)) ?_
  refine aj (bP a0 a1) ?_
  refine C.mono (hs _ _ _ _ _ _ (aP.wk (tY r1 r2 r3 r4 r5 r6) ((kp.wk b).trans H2.2)) H2.1) ?_
  rintro _ σ3 h3
  have H3 := H2.trans h3
  obtain ⟨gN, gM, hn⟩ := iP hlt H3.2 (by decide) (by decide)
  refine aY a0 a1 gN gM o1 o2 o3 (cJ o4 (cJ o5 o6)) ?_
  refine aj (bP a0 a1) ?_
  have OU : ∀ B, Kp σ3 (σ3.push B) := fun B => (Kp.refl _).push B
  have lb3 := H3.1.lt
  refine C.mono (pF (ws := [BF]) (H3.1.kp (OU _)) aA (show σ3.next < σ3.next + 1 by omega) (by omega) (show 1 ≤ 1000 by decide) (by decide) hi) ?_
  rintro _ σ4 h4
  have H4 := H3.trans (h4.kp (OU _))
  obtain ⟨gN, gM, hn⟩ := iP hlt H4.2 (by decide) (by decide)
  refine aY a0 a1 gN gM o1 o2 o3 (cJ o4 (cJ o5 o6)) ?_
  refine gI ?_
  exact H4.kp kp
 ·refine aY a0 a1 o1 o2 o3 o4 o5 (cJ o6 (cJ (nQ 10 2) (cJ (nQ 10 3) (cJ (nQ 10 4) (eQ 10))))) ?_
  refine aj (bP a0 a1) ?_
  refine C.mono (x9 (E := fun σ' => aP b (mkS 10 a t names es qs wh body other) (.agg ⟨[.int .i64 10, .int .i64 a, .string t, v1, v2, v3, v4, v5, v6]⟩) σ' ∧ σ'.get σ.next = ⟨1, 48, 0, [.pointer (some ⟨b, 0, none⟩)]⟩ ∧ σ'.get (σ.next + 1) = ⟨1, 54, 0, [.int .i64 10, .int .i64 a, .string t, v1, v2, v3, v4, v5, v6]⟩ ∧ σ.next + 2 ≤ σ'.next) (fs := []) (dR fU hlt (by decide) (by decide)) hi (m := aQ mh (aK [yY])) (AP (by omega) (by simp only [List.all_cons, List.all_nil, Bool.and_eq_true]; exact ⟨rfl, rfl, rfl, o1, o2, o3, o4, o5, o6, trivial⟩) hh) _ _ _ _ _ ⟨aP.wk (tY r1 r2 r3 r4 r5 r6) (kp.wk b), (aC (by rw [ah]; omega)).trans aA, aA, Nat.le_refl _⟩ (h.kp kp)) ?_
  rintro _ σ1 h1
  have H1 := h1
  obtain ⟨gN, gM, hn⟩ := iP hlt H1.2 (by decide) (by decide)
  refine aY a0 a1 gN gM o1 o2 o3 (cJ o4 (cJ o5 o6)) ?_
  refine aj (bP a0 a1) ?_
  refine C.mono (hb _ _ _ _ _ _ (aP.wk r5 ((kp.wk b).trans H1.2)) H1.1) ?_
  rintro _ σ2 h2
  have H2 := H1.trans h2
  obtain ⟨gN, gM, hn⟩ := iP hlt H2.2 (by decide) (by decide)
  refine aY a0 a1 gN gM o1 o2 o3 (cJ o4 (cJ o5 o6)) ?_
  refine aj (bP a0 a1) ?_
  refine C.mono (hs _ _ _ _ _ _ (aP.wk (tY r1 r2 r3 r4 r5 r6) ((kp.wk b).trans H2.2)) H2.1) ?_
  rintro _ σ3 h3
  have H3 := H2.trans h3
  obtain ⟨gN, gM, hn⟩ := iP hlt H3.2 (by decide) (by decide)
  refine aY a0 a1 gN gM o1 o2 o3 (cJ o4 (cJ o5 o6)) ?_
  refine aj (bP a0 a1) ?_
  have OU : ∀ B, Kp σ3 (σ3.push B) := fun B => (Kp.refl _).push B
  have lb3 := H3.1.lt
  refine C.mono (pF (ws := [BF]) (H3.1.kp (OU _)) aA (show σ3.next < σ3.next + 1 by omega) (by omega) (show 1 ≤ 1000 by decide) (by decide) hi) ?_
  rintro _ σ4 h4
  have H4 := H3.trans (h4.kp (OU _))
  obtain ⟨gN, gM, hn⟩ := iP hlt H4.2 (by decide) (by decide)
  refine aY a0 a1 gN gM o1 o2 o3 (cJ o4 (cJ o5 o6)) ?_
  refine gI ?_
  exact H4.kp kp
theorem Xq {b i : Nat} {d k a : Int} {t : ByteArray} {names es qs wh body other : List Tr} {x : Value} (hk : ¬ (k = 2 ∨ k = 3 ∨ k = 4 ∨ k = 10)) (hi : i ≤ 30000) {mh : WM} (hh : ∀ x, Writes (aP b (mkS k a t names es qs wh body other) x) b d i 116 [.pointer (some ⟨b, 0, none⟩), x] mh) :
  Writes (aP b (mkS k a t names es qs wh body other) x) b d i 78 [.pointer (some ⟨b, 0, none⟩), x] (qy i (aQ mh (aK [vM]))) := by
 intro σ s0 t0 td tl hx h
 have hlt := h.lt
 obtain ⟨v1, v2, v3, v4, v5, v6, rfl, r1, r2, r3, r4, r5, r6⟩ := sJ hx
 have o1 := ay r1
 have o2 := ay r2
 have o3 := ay r3
 have o4 := ay r4
 have o5 := ay r5
 have o6 := ay r6
 replace r1 : aP b (sl 1 names) v1 σ := r1
 replace r2 : aP b (sl 6 es) v2 σ := r2
 replace r3 : aP b (sl 10 qs) v3 σ := r3
 replace r4 : aP b (sl 6 wh) v4 σ := r4
 replace r5 : aP b (sl 9 body) v5 σ := r5
 replace r6 : aP b (sl 9 other) v6 σ := r6
 have kp : Kp σ ((σ.push ⟨1, 48, 0, [.pointer (some ⟨b, 0, none⟩)]⟩).push ⟨1, 54, 0, [.int .i64 k, .int .i64 a, .string t, v1, v2, v3, v4, v5, v6]⟩) := ((Kp.refl σ).push _).push _
 refine fG Tryz.func78 Tryz.ntmps78 Tryz.results78 fun A hz a0 a1 => ?_
 have c2 : (k == 2) = false := by simp only [beq_eq_false_iff_ne]; omega
 have c3 : (k == 3) = false := by simp only [beq_eq_false_iff_ne]; omega
 have c4 : (k == 4) = false := by simp only [beq_eq_false_iff_ne]; omega
 have c10 : (k == 10) = false := by simp only [beq_eq_false_iff_ne]; omega
 refine aY a0 a1 o1 o2 o3 o4 o5 (cJ o6 (cJ c2 (cJ c3 (cJ c4 c10)))) ?_
 refine aj (bP a0 a1) ?_
 refine C.mono (x9 (E := fun σ' => aP b (mkS k a t names es qs wh body other) (.agg ⟨[.int .i64 k, .int .i64 a, .string t, v1, v2, v3, v4, v5, v6]⟩) σ' ∧ σ'.get σ.next = ⟨1, 48, 0, [.pointer (some ⟨b, 0, none⟩)]⟩ ∧ σ'.get (σ.next + 1) = ⟨1, 54, 0, [.int .i64 k, .int .i64 a, .string t, v1, v2, v3, v4, v5, v6]⟩ ∧ σ.next + 2 ≤ σ'.next) (fs := []) (dR fU hlt (by decide) (by decide)) hi (m := aQ mh (aK [vM])) (Xo (by omega) (by simp only [List.all_cons, List.all_nil, Bool.and_eq_true]; exact ⟨rfl, rfl, rfl, o1, o2, o3, o4, o5, o6, trivial⟩) hh) _ _ _ _ _ ⟨aP.wk (tY r1 r2 r3 r4 r5 r6) (kp.wk b), (aC (by rw [ah]; omega)).trans aA, aA, Nat.le_refl _⟩ (h.kp kp)) ?_
 rintro _ σ1 h1
 have H1 := h1
 obtain ⟨gN, gM, hn⟩ := iP hlt H1.2 (by decide) (by decide)
 refine aY a0 a1 gN gM o1 o2 o3 (cJ o4 (cJ o5 o6)) ?_
 refine gI ?_
 exact H1.kp kp
section
variable (T : ByteArray → Bool)
def OkS (n : Nat) (p : Tr) : Prop := vF b0 n p ∧ SK T n p = true
def BOK (n : Nat) : Prop := ∀ (b d i : Nat) (l : List Tr), d ≤ 40 → i ≤ d → l.length ≤ 1000 → (∀ p ∈ l, OkS T n p) → ∀ v, Writes (aP b (sl 9 l) v) b d i 35 [.pointer (some ⟨b, 0, none⟩), v] (dH n d i l)
end
variable {T : ByteArray → Bool} {n b d i : Nat}
theorem agP {β : Bd} {p : Tr} (h : vF β n p) : ∃ k a t names es qs wh body other, p = mkS k a t names es qs wh body other := by
 cases n with
 | zero => exact h.elim
 | succ n => obtain ⟨k, a, t, names, es, qs, wh, body, other, rfl, _⟩ := h; exact ⟨_, _, _, _, _, _, _, _, _, rfl⟩
theorem JD {β : Bd} {p : Tr} (h : vF β n p) : ShT 9 p := by obtain ⟨_, _, _, _, _, _, _, _, _, rfl⟩ := agP h; exact shS
theorem Io (hB : BOK T n) (hd : d ≤ 40) (hi : i ≤ d) {p : Tr} (hp : OkS T (n + 1) p) : ∀ x, Writes (aP b p x) b d i 78 [.pointer (some ⟨b, 0, none⟩), x] (LW (jY n) (dH n) d i p) := by
 intro x
 obtain ⟨⟨k, a, t, names, es, qs, wh, body, other, rfl, hk, ha, ht, hnm, hes, yK, hwh, ZC, hot⟩, hr⟩ := hp
 replace hr : oP (eP T n) (SK T n) k t names es qs wh body other = true := hr
 obtain ⟨re, rq, rw, rb, ro, lo, hi7, query, pair⟩ := OQ hr
 obtain ⟨hE, hQ, hF⟩ := OX T n
 have e6 : ∀ {l : List Tr}, LL b0 (bT b0 n).e l → ∀ p ∈ l, ShT 6 p := fun h p hp => tN (h.2 p hp)
 have hl : ∀ {K : Tr → Prop} {l : List Tr}, LL b0 K l → l.length ≤ 1000000 := fun h => by have : _ ≤ 1000 := h.1; omega
 have hin : ∀ {l : List Tr}, LL b0 (bT b0 n).e l → (∀ p ∈ l, (eP T n).e p = true) → oK b d i (fE (jY n).e d) l := fun h hr p hp x => rZ hE hd (Zt h hr p hp) x
 have ht' : t.size ≤ 1200 := ht
 have hns : ∀ p ∈ names, ∃ s : ByteArray, p = .string s ∧ s.size ≤ 70000 := fun p hp => by
  obtain ⟨s, rfl, hs⟩ := hnm.2 p hp
  have : s.size ≤ 1200 := hs
  exact ⟨s, rfl, by omega⟩
 have hq : oL b d i 103 (tJ (jY n).q d) qs := fun p hp x => Ik hQ hd (Zu yK rq p hp) x
 have s10 : ∀ p ∈ qs, ShT 10 p := fun p hp => kL (yK.2 p hp)
 have nm : BZ (names.map fM) = dh (names.map fun p => aK [fM p]) := by unfold BZ; rw [List.map_map]; rfl
 have blk : ∀ {l : List Tr}, LL b0 (vF b0 n) l → (∀ p ∈ l, SK T n p = true) → ∀ v, Writes (aP b (sl 9 l) v) b d i 113 [.pointer (some ⟨b, 0, none⟩), v] (wC d fun d => dH n d (i + 1) l) := fun {l} h hr => by
  rw [xJ]
  exact Xk (by omega) (by omega) (by omega) (fun hd4 v => by
   have := hB b (d + 1) (i + 1) l (by omega) (by omega) h.1 (fun p hp => ⟨h.2 p hp, hr p hp⟩) v
   exact this)
 by_cases hb : k = 2 ∨ k = 3 ∨ k = 4 ∨ k = 10
 ·have hh : ∀ x, Writes (aP b (mkS k a t names es qs wh body other) x) b d i 112 [.pointer (some ⟨b, 0, none⟩), x] (headW (jY n) d k names es qs) := by
   intro x
   rcases hb with rfl | rfl | rfl | rfl
   ·exact Xl (fi := fE (jY n).e d) (hl hes) (e6 hes) (hin hes re)
   ·exact Xm (fi := fE (jY n).e d) (hl hes) (e6 hes) (hin hes re)
   ·have Zy := query (by omega)
    refine sH ?_ (Xn (hl hnm) hns s10 (by omega) hq)
    show fK [aK [KY], BZ (names.map fM), aK [uO], tJ (jY n).q d (qs.getD 0 zQ)] = _
    rw [oD (by omega), nm]
    simp only [fK, List.foldr, jv, seq_assoc]
   ·exact TQ
  refine sH ?_ (Xp hb (by omega) hh (blk ZC rb) (fun x => TS (by omega) (blk hot ro)))
  show (if k = 2 ∨ k = 3 ∨ k = 4 ∨ k = 10 then _ else _) = _
  rw [if_pos hb]
  simp only [fK, List.foldr, jv, seq_assoc]
  rfl
 ·refine sH (m := qy i (aQ (plainW (jY n) d k t names es qs wh) (aK [vM]))) (if_neg hb) (Xq hb (by omega) fun x => ?_)
  have hk2 : k = 1 ∨ k = 17 ∨ k = 5 ∨ k = 6 ∨ k = 7 ∨ k = 8 ∨ k = 9 ∨ k = 12 ∨ (k = 11 ∨ k = 13 ∨ k = 14 ∨ k = 15 ∨ k = 16) := by omega
  rcases hk2 with rfl | rfl | rfl | rfl | rfl | rfl | rfl | rfl | hk2
  ·have hp := pair (by omega)
   exact TG (fi := fE (jY n).e d) (hl hnm) hns hp (hl hes) (e6 hes) (hin hes re)
  ·refine sH ?_ (OY (hl hnm) hns)
   show aQ (aK [zZ]) (BZ (names.map fM)) = _
   rw [nm]
  ·exact TI (fi := fE (jY n).e d) (by omega) (hl hes) (e6 hes) (hin hes re)
  ·exact TJ (fi := fE (jY n).e d) (by omega) (hl hes) (e6 hes) (hin hes re)
  ·have Zy := query (by omega)
   refine sH ?_ (TK (by omega) s10 (by omega) hq)
   show aQ (aK [mO, uj, t]) (tJ (jY n).q d (qs.getD 0 zQ)) = _
   rw [oD (by omega)]
  ·have hp := pair (by omega)
   refine sH ?_ (TL (fi := fE (jY n).e d) (by omega) (hl hnm) hns hp (hl hes) (e6 hes) (hin hes re) (hl hwh) (e6 hwh) (hin hwh rw))
   show fK [aK [uP, t, yF], abD (jY n) d names es, yj (jY n).e d wh [jm]] = _
   simp only [fK, List.foldr, jv, seq_assoc]
   rfl
  ·exact TM (fi := fE (jY n).e d) (by omega) (hl hwh) (e6 hwh) (hin hwh rw)
  ·exact OZ (fi := fE (jY n).e d) (by omega) (hl hes) (e6 hes) (hin hes re)
  ·refine sH ?_ (TN hk2)
   show plainW (jY n) d k t names es qs wh = _
   unfold plainW
   rw [if_neg (by omega), if_neg (by omega), if_neg (by omega), if_neg (by omega), if_neg (by omega), if_neg (by omega), if_neg (by omega), if_neg (by omega)]
theorem MS (T : ByteArray → Bool) : ∀ n, BOK T n
 | 0 => fun b d i l hd hi hl h v => by
  have : l = [] := by
   cases l with
   | nil => rfl
   | cons p l => exact (h p (List.mem_cons_self ..)).1.elim
  subst this
  exact JC (f := fun _ => dW) (by simp) (by simp) (fun p hp => absurd hp (by simp)) v
 | n + 1 => fun b d i l hd hi hl h v => JC (by omega) (fun p hp => JD (h p hp).1) (fun p hp x => Io (MS T n) hd hi (h p hp) x) v
end Go.Proofs.YthogkmcahnkkoaaGreatDoor
namespace Go.Proofs.YthogkmcahnkkoaaGreatDoor
theorem uz {P : Program} {c : Code} {A : Fr} {σ : AW} {K : Fr → AW → Prop} {Q : Exit → Fr → AW → Prop} (J : Fr → AW → Prop) (h : W P c A σ (Then J Q)) (k : ∀ A1 σ1, J A1 σ1 → K A1 σ1) : W P c A σ (Then K Q) :=
 W.mono h (fun e A1 σ1 hq => by
  cases e with
  | normal => exact k A1 σ1 hq
  | _ => exact hq)
end Go.Proofs.YthogkmcahnkkoaaGreatDoor
namespace Go.Proofs.YthogkmcahnkkoaaGreatDoor
open Go.RowKit
set_option maxRecDepth 10000
set_option linter.unusedSimpArgs false
set_option linter.unusedVariables false
set_option maxHeartbeats 4000000
def bM : Bd := ⟨maxLen, maxLen⟩
def Wgh (g : Nat) (xs : List Value) (σ : AW) (lo : Int) (good : Prop) : Prop := C Tryz.prog g xs σ fun v σ' => (∃ w : Int, v = .int .i64 w ∧ lo ≤ w ∧ w ≤ 1000 ∧ (w < 1000 → good)) ∧ Kp σ σ'
def WE (f : Nat) : Prop := ∀ (n : Nat) (p : Tr), (bT bM n).e p → ∀ (d : Int), 0 ≤ d → d ≤ 1000 → 61 ≤ d + f → ∀ x σ, bW p x σ → Wgh 36 [x, .int .i64 d] σ 1 ((bT b0 f).e p)
def WQ (f : Nat) : Prop := ∀ (n : Nat) (p : Tr), (bT bM n).q p → ∀ (d : Int), 0 ≤ d → d ≤ 1000 → 61 ≤ d + f → ∀ x σ, bW p x σ → Wgh 17 [x, .int .i64 d] σ 1 ((bT b0 f).q p)
def WF (f : Nat) : Prop := ∀ (n : Nat) (p : Tr), (bT bM n).f p → ∀ (d : Int), 0 ≤ d → d ≤ 1000 → 61 ≤ d + f → ∀ x σ, bW p x σ → Wgh 37 [x, .int .i64 d] σ 1 ((bT b0 f).f p)
theorem dZ : maxLen ≤ 9223372036854775807 := by decide
theorem pG {f : Nat} (hW : WE f) {n : Nat} {l : List Tr} (hL : LL bM (bT bM n).e l) {d : Int} (hd0 : 0 ≤ d) (hd2 : d ≤ 1000) (hdf : 61 ≤ d + f) {v : Value} {σ : AW} (hx : bW (sl 6 l) v σ) : Wgh 16 [v, .int .i64 d] σ 0 (LL b0 (bT b0 f).e l) := by
 obtain ⟨va, vc, rfl⟩ := aG hx
 have hll : l.length ≤ 9223372036854775807 := Nat.le_trans hL.1 dZ
 have hsh : ∀ p ∈ l, ShT 6 p := fun p hp => tN (hL.2 p hp)
 have K0 := Kp.refl σ
 unfold Wgh
 refine fG Tryz.func16 Tryz.ntmps16 Tryz.results16 fun A hz a0 a1 => ?_
 have hd1 : aT .add (.int .i64 d) (.int .i64 1) = some (.int .i64 (d + 1)) := aH (by omega) (by omega)
 refine gC2 a0 a1 ?_
 refine uz (fun B σ1 => ∃ M : Int, B.size = 27 ∧ B.get 0 = some (.slice va l.length vc) ∧ B.get 1 = some (.int .i64 d) ∧ B.get 5 = some (.int .i64 M) ∧ Kp σ σ1 ∧ True ∧ True ∧ 0 ≤ M ∧ M ≤ 100000 ∧ (M < 1000 → (True) ∧ LL b0 ((bT b0 f).e) l)) ?_ ?_
 ·apply b_k
  refine dB (dI (fun mz B σ1 => ∃ (j : Nat) (M : Int), j ≤ l.length ∧ mz = l.length - j ∧ B.size = 27 ∧ B.get 0 = some (.slice va l.length vc) ∧ B.get 1 = some (.int .i64 d) ∧ B.get 5 = some (.int .i64 M) ∧ B.get 6 = some (.int .i64 (j : Int)) ∧ Kp σ σ1 ∧ True ∧ True ∧ (j : Int) + 0 ≤ M ∧ M ≤ 100000 ∧ (M < 1000 → (True) ∧ ∀ p ∈ l.take j, ((bT b0 f).e) p)) ?_ (m := l.length) (by refine' ⟨0, 0, Nat.zero_le _, rfl, ?_, ?_, ?_, ?_, ?_, K0, trivial, trivial, by have := (show (0 : Int) ≤ 0 by decide); omega, by decide, fun h => ⟨(fun (_ : (0 : Int) < 1000) => True.intro) h, by simp⟩⟩; any_goals (first | exact bP a0 a1 | fail)))
  rintro mz B τ ⟨j, M, hj, rfl, hz, b0', b1, bm, bc, k1, g1, sG, hM0, hM1, hM2⟩
  have hl1 : ∀ τ, fF Tryz.prog τ 39 (.slice va l.length vc) = some (.int .i64 l.length) := fun τ => Df τ _ _ _
  by_cases hjl : j < l.length
  ·have c1 : decide ((j : Int) < (l.length : Int)) = true := by simp [hjl]
   by_cases nO : M < 1000
   ·have c2 : decide (M < 1000) = true := decide_eq_true nO
    obtain ⟨bb, o, qq, c, cs, lv, e, hrow, hel, htk, hx1, hl, ho⟩ := kG (bW.kp hx k1) oM (j := (j : Int)) rfl hjl (hsh _ (List.getElem_mem _))
    injection e with e1 _ _
    subst e1
    have hr1 := hrow _ (Kp.refl _)
    have hadd : aT .add (.int .i64 (j : Int)) (.int .i64 1) = some (.int .i64 ((j + 1 : Nat) : Int)) := by rw [aH (by omega) (by omega)]; rfl
    refine iC hr1 b0' b1 bm bc c1 c2 hd1 (cJ hel (cJ htk (cJ hl ho))) ?_
    refine aj (bP b0' b1) ?_
    refine C.mono (hW n _ (hL.2 _ (List.getElem_mem _)) d hd0 hd2 hdf _ _ hx1) ?_
    rintro _ σ2 ⟨⟨w, rfl, hw1, hw2, hw3⟩, k2⟩
    have hadm : aT .add (.int .i64 M) (.int .i64 w) = some (.int .i64 (M + w)) := aH (by omega) (by omega)
    have hall : (M + w < 1000 → (((bT b0 f).e) l[j])) → (M + w < 1000 → (True) ∧ ∀ p ∈ l.take (j + 1), ((bT b0 f).e) p) := fun hg h => by
     obtain ⟨hp, ha⟩ := hM2 nO
     refine ⟨hp, fun p hp => ?_⟩
     rw [List.take_add_one, List.getElem?_eq_getElem hjl, List.mem_append] at hp
     rcases hp with hp | hp
     ·exact ha p hp
     ·simp only [Option.toList_some, List.mem_singleton] at hp
      subst hp
      exact hg h
    refine kR b0' b1 bm bc hadm hadd ?_
    exact (by refine' ⟨l.length - (j + 1), by omega, j + 1, M + w, hjl, rfl, ?_, ?_, ?_, ?_, ?_, k1.trans k2, trivial, trivial, by push_cast; omega, by omega, hall fun h => hw3 (by omega)⟩; any_goals (first | exact bP b0' b1 | fail))
   ·have c2 : decide (M < 1000) = false := decide_eq_false nO
    refine nH b0' b1 bm bc c1 c2 hl1 ?_
    refine xL ?_
    exact (by refine' ⟨M, ?_, ?_, ?_, ?_, k1, g1, sG, by omega, hM1, fun h => absurd h nO⟩; any_goals (first | exact lF b0' b1 bm | fail))
  ·have c1 : decide ((j : Int) < (l.length : Int)) = false := by simp [hjl]
   refine kR b0' b1 bm bc c1 hl1 ?_
   refine xL ?_
   refine ⟨M, (dD), (bP b0' b1), (bP b0' b1), (aU bm), k1, g1, sG, by omega, hM1, fun h => ?_⟩
   obtain ⟨hp, ha⟩ := hM2 h
   rw [List.take_of_length_le (by omega)] at ha
   exact ⟨hp, (by show _ ≤ 1000; omega), ha⟩
 rintro B Tz ⟨M1, hz, b0', b1, bm, K1, g1, n1, hA1, hB1, Xr⟩
 refine dS b0' b1 bm ?_
 refine dG ?_
 exact ⟨⟨_, rfl, by split <;> omega, by split <;> omega, fun h => (Xr (by split at h <;> omega)).2⟩, K1⟩
end Go.Proofs.YthogkmcahnkkoaaGreatDoor
