/- The program's writer: queries. The program's writer: expressions, kind by kind. The program's writer: expressions, queries and what they are from, all together. -/
import Derived.Test.YthogkmcahnkkoaaGreatDoorJ29
namespace Go.Proofs.YthogkmcahnkkoaaGreatDoor
open Go.RowKit
set_option maxRecDepth 10000
set_option linter.unusedSimpArgs false
set_option linter.unusedVariables false
theorem SY {b : Nat} {d i k n : Int} {di : Bool} {items froms wh gr ha or kids : List Tr} {x : Value} {m : WM} (hk : k = 1) (hs : ∀ x, Writes (aP b (DL k di n items froms wh gr ha or kids) x) b d i 175 [.pointer (some ⟨b, 0, none⟩), x] m) :
  Writes (aP b (DL k di n items froms wh gr ha or kids) x) b d i 143 [.pointer (some ⟨b, 0, none⟩), x] m := by
 intro σ s0 t0 td tl hx h
 have hlt := h.lt
 obtain ⟨v1, v2, v3, v4, v5, v6, v7, rfl, r1, r2, r3, r4, r5, r6, r7⟩ := Jw hx
 have o1 := ay r1
 have o2 := ay r2
 have o3 := ay r3
 have o4 := ay r4
 have o5 := ay r5
 have o6 := ay r6
 have o7 := ay r7
 replace r1 : aP b (sl 7 items) v1 σ := r1
 replace r2 : aP b (sl 7 froms) v2 σ := r2
 replace r3 : aP b (sl 6 wh) v3 σ := r3
 replace r4 : aP b (sl 6 gr) v4 σ := r4
 replace r5 : aP b (sl 6 ha) v5 σ := r5
 replace r6 : aP b (sl 7 or) v6 σ := r6
 replace r7 : aP b (sl 10 kids) v7 σ := r7
 have kp : Kp σ (σ.push ⟨1, 61, 0, [.int .i64 k, .bool di, v1, v2, v3, v4, v5, v6, .int .i64 n, v7]⟩) := (Kp.refl σ).push _
 refine fG Tryz.func143 Tryz.ntmps143 Tryz.results143 fun A hz a0 a1 => ?_
 have c1 : (k == 1) = true := by simp [hk]
 refine aY a0 a1 o1 o2 o3 o4 o5 (cJ o6 (cJ o7 c1)) ?_
 refine aj (bP a0 a1) ?_
 refine C.mono (hs _ _ _ _ _ _ (aP.wk (WJ r1 r2 r3 r4 r5 r6 r7) (kp.wk b)) (h.kp kp)) ?_
 rintro _ σ1 h1
 refine iO ?_
 refine dG ?_
 exact h1.kp kp
theorem S9 {b : Nat} {d i k n : Int} {di : Bool} {items froms wh gr ha or kids : List Tr} {x : Value} {m0 m1 : WM} (hk : k ≠ 1) (hkl : kids.length = 2) (hks : ∀ p ∈ kids, ShT 10 p) (h0 : ∀ x, Writes (aP b kids[0] x) b d i 143 [.pointer (some ⟨b, 0, none⟩), x] m0) {k1 : Int} (hk1 : ∃ e1 f1 g1 g2 g3 g4 g5 g6 g7, kids[1] = DL k1 e1 f1 g1 g2 g3 g4 g5 g6 g7) (hs : k1 = 1 → ∀ x, Writes (aP b kids[1] x) b d i 175 [.pointer (some ⟨b, 0, none⟩), x] m1) (hb : k1 ≠ 1 → ∀ x, Writes (aP b kids[1] x) b d i 63 [.pointer (some ⟨b, 0, none⟩), x] m1) :
  Writes (aP b (DL k di n items froms wh gr ha or kids) x) b d i 143 [.pointer (some ⟨b, 0, none⟩), x] (aQ (aQ m0 (uZ k)) m1) := by
 intro σ s0 t0 td tl hx h
 have hlt := h.lt
 obtain ⟨v1, v2, v3, v4, v5, v6, v7, rfl, r1, r2, r3, r4, r5, r6, r7⟩ := Jw hx
 have o1 := ay r1
 have o2 := ay r2
 have o3 := ay r3
 have o4 := ay r4
 have o5 := ay r5
 have o6 := ay r6
 have o7 := ay r7
 replace r1 : aP b (sl 7 items) v1 σ := r1
 replace r2 : aP b (sl 7 froms) v2 σ := r2
 replace r3 : aP b (sl 6 wh) v3 σ := r3
 replace r4 : aP b (sl 6 gr) v4 σ := r4
 replace r5 : aP b (sl 6 ha) v5 σ := r5
 replace r6 : aP b (sl 7 or) v6 σ := r6
 replace r7 : aP b (sl 10 kids) v7 σ := r7
 have kp : Kp σ (σ.push ⟨1, 61, 0, [.int .i64 k, .bool di, v1, v2, v3, v4, v5, v6, .int .i64 n, v7]⟩) := (Kp.refl σ).push _
 refine fG Tryz.func143 Tryz.ntmps143 Tryz.results143 fun A hz a0 a1 => ?_
 have c1 : (k == 1) = false := by simp [hk]
 obtain ⟨bbA, pA, qA, cA, csA, lA, eA, MK, WR, WT, hxA, hlA, X7⟩ := jl (aP.wk r7 (kp.wk b)) rE (j := 0) rfl (i := 0) (by omega) (hks _ (List.getElem_mem _))
 have hrA := MK _ (Wk.refl b _)
 subst eA
 refine iC hrA a0 a1 o1 o2 o3 o4 o5 (cJ o6 (cJ o7 (cJ c1 (cJ WR (cJ WT (cJ hlA X7)))))) ?_
 refine aj (bP a0 a1) ?_
 refine C.mono (h0 _ _ _ _ _ _ hxA (h.kp kp)) ?_
 rintro _ σ1 h1
 have H1 := h1
 have gN := (box1 hlt H1.2 (by decide)).1
 have hn := (box1 hlt H1.2 (by decide)).2
 refine aY a0 a1 gN o1 o2 o3 o4 (cJ o5 (cJ o6 o7)) ?_
 refine aj (bP a0 a1) ?_
 refine C.mono (Md (E := fun _ => True) _ _ _ _ _ trivial H1.1) ?_
 rintro _ σ2 h2
 have H2 := H1.trans h2
 have gN := (box1 hlt H2.2 (by decide)).1
 have hn := (box1 hlt H2.2 (by decide)).2
 have rk0 : aP b (sl 10 kids) _ σ2 := aP.wk r7 ((kp.wk b).trans H2.2)
 obtain ⟨bbB, pB, qB, cB, csB, lB, eB, WU, Zn, Zo, hxB, hlB, hoB⟩ := jl rk0 rE (j := 1) rfl (i := 1) (by omega) (hks _ (List.getElem_mem _))
 have hrB := WU _ (Wk.refl b _)
 cases eB
 obtain ⟨e1, f1, g1, g2, g3, g4, g5, g6, g7, hq1⟩ := hk1
 obtain ⟨w1, w2, w3, w4, w5, w6, w7, hl1, _, _, _, _, _, _, _⟩ := Jw (show Rd σ2 _ (DL k1 e1 f1 g1 g2 g3 g4 g5 g6 g7) _ from hq1 ▸ hxB)
 have abP : lB = [.int .i64 k1, .bool e1, w1, w2, w3, w4, w5, w6, .int .i64 f1, w7] := by injection hl1 with h1; injection h1
 subst abP
 obtain ⟨p1, p2, p3, p4, p5, p6, p7⟩ : gu w1 = true ∧ gu w2 = true ∧ gu w3 = true ∧ gu w4 = true ∧ gu w5 = true ∧ gu w6 = true ∧ gu w7 = true := by simp only [List.all_cons, Bool.and_eq_true] at hoB; obtain ⟨_, _, q1, q2, q3, q4, q5, q6, _, q7, _⟩ := hoB; exact ⟨q1, q2, q3, q4, q5, q6, q7⟩
 have kz : Kp σ2 ((σ2.push ⟨1, 61, 0, [.int .i64 0, .bool false, .slice none 0 0, .slice none 0 0, .slice none 0 0, .slice none 0 0, .slice none 0 0, .slice none 0 0, .int .i64 0, .slice none 0 0]⟩).set σ2.next ⟨1, 61, 0, [.int .i64 k1, .bool e1, w1, w2, w3, w4, w5, w6, .int .i64 f1, w7]⟩) := ((Kp.refl σ2).push _).set (Nat.le_refl _) _
 by_cases hk1 : k1 = 1
 ·have c2 : (k1 == 1) = true := by simp [hk1]
  refine iC hrB a0 a1 gN o1 o2 o3 o4 (cJ o5 (cJ o6 (cJ o7 (cJ Zn (cJ Zo (cJ hlB (cJ hoB (cJ p1 (cJ p2 (cJ p3 (cJ p4 (cJ p5 (cJ p6 (cJ p7 c2)))))))))))))) ?_
  refine aj (bP a0 a1) ?_
  refine C.mono (hs hk1 _ _ _ _ _ _ (aP.wk hxB (kz.wk b)) (H2.1.kp kz)) ?_
  rintro _ σ3 h3
  refine iO ?_
  refine gI ?_
  exact (H2.trans (h3.kp kz)).kp kp
 ·have c2 : (k1 == 1) = false := by simp [hk1]
  refine iC hrB a0 a1 gN o1 o2 o3 o4 (cJ o5 (cJ o6 (cJ o7 (cJ Zn (cJ Zo (cJ hlB (cJ hoB (cJ p1 (cJ p2 (cJ p3 (cJ p4 (cJ p5 (cJ p6 (cJ p7 c2)))))))))))))) ?_
  refine aj (bP a0 a1) ?_
  refine C.mono (hb hk1 _ _ _ _ _ _ (aP.wk hxB (kz.wk b)) (H2.1.kp kz)) ?_
  rintro _ σ3 h3
  refine iO ?_
  refine gI ?_
  exact (H2.trans (h3.kp kz)).kp kp
theorem AB (o w : List UInt8) : ∀ (k : Nat) (s : List UInt8), (Lib.replaceK o w k s).length ≤ s.length + k * w.length
 | 0, s => by show s.length ≤ _; omega
 | k + 1, s => by
  have ih := AB o w k (s.drop ((Lib.index s o).toNat + o.length))
  rw [List.length_drop] at ih
  unfold Lib.replaceK
  rw [Nat.add_mul, Nat.one_mul]
  split
  ·omega
  ·rw [List.length_append, List.length_append, List.length_take]
   omega
theorem FK (s : ByteArray) : (Cb s).size ≤ 2 + 3 * s.size := by
 have h := AB [39] [39, 39] (Lib.count s.data.toList [39]) s.data.toList
 have hc : Lib.count s.data.toList [39] ≤ s.data.toList.length := by rw [Lib.count_one]; exact List.count_le_length
 have e : Lib.replaceAll s.data.toList [39] [39, 39] = Lib.replaceK [39] [39, 39] (Lib.count s.data.toList [39]) s.data.toList := rfl
 unfold Cb
 rw [ByteArray.size_append, ByteArray.size_append, e]
 have hl : s.data.toList.length = s.size := rfl
 have h2 : (⟨(Lib.replaceK [39] [39, 39] (Lib.count s.data.toList [39]) s.data.toList).toArray⟩ : ByteArray).size = (Lib.replaceK [39] [39, 39] (Lib.count s.data.toList [39]) s.data.toList).length := by simp [ByteArray.size]
 have h1 : (⟨#[39]⟩ : ByteArray).size = 1 := rfl
 rw [h2, h1]
 simp only [List.length_cons, List.length_nil] at h
 omega
theorem WZ {b : Nat} {d i n : Int} {s t : ByteArray} {kids qs : List Tr} {x : Value} :
  Writes (aP b (kH 1 n s t kids qs) x) b d i 23 [.pointer (some ⟨b, 0, none⟩), x] (aK [kZ]) := by
 intro σ s0 t0 td tl hx h
 have hlt := h.lt
 obtain ⟨vk, vq, rfl, rk, rq⟩ := qL hx
 have o4 := ay rk
 have o5 := ay rq
 replace rk : aP b (sl 6 kids) vk σ := rk
 replace rq : aP b (sl 10 qs) vq σ := rq
 have kp : Kp σ ((σ.push ⟨1, 48, 0, [.pointer (some ⟨b, 0, none⟩)]⟩).push ⟨1, 42, 0, [.int .i64 1, .int .i64 n, .string s, .string t, vk, vq]⟩) := ((Kp.refl σ).push _).push _
 refine fG Tryz.func23 Tryz.ntmps23 Tryz.results23 fun A hz a0 a1 => ?_
 refine jy a0 a1 o4 o5 (eQ 1) ?_
 refine xL ?_
 refine dV a0 a1 o4 o5 ?_
 refine aj (bP a0 a1) ?_
 refine C.mono (cZ (h.kp kp) _ _ kZ (by decide)) ?_
 rintro _ σ1 h1
 refine iO ?_
 refine xL ?_
 refine iO ?_
 refine gI ?_
 exact h1.kp kp
theorem W9 {b : Nat} {d i n : Int} {s t : ByteArray} {kids qs : List Tr} {x : Value} :
  Writes (aP b (kH 2 n s t kids qs) x) b d i 23 [.pointer (some ⟨b, 0, none⟩), x] (aK [if n = 1 then rH else nZ]) := by
 intro σ s0 t0 td tl hx h
 have hlt := h.lt
 obtain ⟨vk, vq, rfl, rk, rq⟩ := qL hx
 have o4 := ay rk
 have o5 := ay rq
 replace rk : aP b (sl 6 kids) vk σ := rk
 replace rq : aP b (sl 10 qs) vq σ := rq
 have kp : Kp σ ((σ.push ⟨1, 48, 0, [.pointer (some ⟨b, 0, none⟩)]⟩).push ⟨1, 42, 0, [.int .i64 2, .int .i64 n, .string s, .string t, vk, vq]⟩) := ((Kp.refl σ).push _).push _
 refine fG Tryz.func23 Tryz.ntmps23 Tryz.results23 fun A hz a0 a1 => ?_
 have et : (if (n == 1) = true then rH else nZ) = if n = 1 then rH else nZ := by by_cases hn : n = 1 <;> simp [hn]
 refine kR a0 a1 o4 o5 (nQ 2 1) (eQ 2) ?_
 refine xL ?_
 refine dV a0 a1 o4 o5 ?_
 obtain ⟨τ, hτ, kt, gN, gM, nx⟩ : ∃ τ, τ = ((σ.push ⟨1, 48, 0, [.pointer (some ⟨b, 0, none⟩)]⟩).push ⟨1, 42, 0, [.int .i64 2, .int .i64 n, .string s, .string t, vk, vq]⟩) ∧ Kp σ τ ∧ τ.get σ.next = ⟨1, 48, 0, [.pointer (some ⟨b, 0, none⟩)]⟩ ∧ τ.get (σ.next + 1) = ⟨1, 42, 0, [.int .i64 2, .int .i64 n, .string s, .string t, vk, vq]⟩ ∧ τ.next = σ.next + 2 := ⟨_, rfl, kp, (aC (by rw [ah]; omega)).trans aA, aA, rfl⟩
 rw [← hτ]
 refine bY mixed (by kernel_rfl) (by kernel_rfl) ?_
 refine XL a0 a1 gN gM ?_
 refine bD (dD) ?_
 refine C.mono (Wp _) ?_
 rintro _ _ ⟨rfl, rfl⟩
 refine XL a0 a1 gN gM ?_
 refine bD (dD) ?_
 refine C.mono (cZ (h.kp kt) _ _ (if (n == 1) = true then rH else nZ) (by split <;> decide)) ?_
 rintro _ σ1 h1
 have nN := (h1.2.get σ.next (by omega) (by omega) (by rw [gN]; show (48 : Nat) ≠ 5; decide)).trans gN
 have E8 := (h1.2.get (σ.next + 1) (by omega) (by omega) (by rw [gM]; show (42 : Nat) ≠ 5; decide)).trans gM
 refine NW ?_
 refine oW [(0, 0), (0, 5), (0, 6), (2, 0)] ?_ ?_
 ·(repeat (refine aO (bg rfl rfl rfl rfl rfl (D8 a0 a1 gN gM nN E8)) ?_)); exact bn
 refine iO ?_
 refine xL ?_
 refine iO ?_
 refine gI ?_
 rw [← et]
 exact h1.kp kt
theorem Xa {b : Nat} {d i n : Int} {s t : ByteArray} {kids qs : List Tr} {x : Value} (hn0 : -9223372036854775808 ≤ n) (hn1 : n ≤ 9223372036854775807) :
  Writes (aP b (kH 3 n s t kids qs) x) b d i 23 [.pointer (some ⟨b, 0, none⟩), x] (aK [Gw n]) := by
 intro σ s0 t0 td tl hx h
 have hlt := h.lt
 obtain ⟨vk, vq, rfl, rk, rq⟩ := qL hx
 have o4 := ay rk
 have o5 := ay rq
 replace rk : aP b (sl 6 kids) vk σ := rk
 replace rq : aP b (sl 10 qs) vq σ := rq
 have kp : Kp σ ((σ.push ⟨1, 48, 0, [.pointer (some ⟨b, 0, none⟩)]⟩).push ⟨1, 42, 0, [.int .i64 3, .int .i64 n, .string s, .string t, vk, vq]⟩) := ((Kp.refl σ).push _).push _
 refine fG Tryz.func23 Tryz.ntmps23 Tryz.results23 fun A hz a0 a1 => ?_
 refine nH a0 a1 o4 o5 (nQ 3 1) (nQ 3 2) (eQ 3) ?_
 refine xL ?_
 refine dV a0 a1 o4 o5 ?_
 obtain ⟨τ, hτ, kt, gN, gM, nx⟩ : ∃ τ, τ = ((σ.push ⟨1, 48, 0, [.pointer (some ⟨b, 0, none⟩)]⟩).push ⟨1, 42, 0, [.int .i64 3, .int .i64 n, .string s, .string t, vk, vq]⟩) ∧ Kp σ τ ∧ τ.get σ.next = ⟨1, 48, 0, [.pointer (some ⟨b, 0, none⟩)]⟩ ∧ τ.get (σ.next + 1) = ⟨1, 42, 0, [.int .i64 3, .int .i64 n, .string s, .string t, vk, vq]⟩ ∧ τ.next = σ.next + 2 := ⟨_, rfl, kp, (aC (by rw [ah]; omega)).trans aA, aA, rfl⟩
 rw [← hτ]
 refine bY mixed (by kernel_rfl) (by kernel_rfl) ?_
 refine XL a0 a1 gN gM ?_
 refine bD (dD) ?_
 refine C.mono (Wq n hn0 hn1) ?_
 rintro _ _ ⟨rfl, rfl⟩
 refine XL a0 a1 gN gM ?_
 refine bD (dD) ?_
 refine C.mono (cZ (h.kp kt) _ _ (Gw n) (by have := Ie hn0 hn1; omega)) ?_
 rintro _ σ1 h1
 have nN := (h1.2.get σ.next (by omega) (by omega) (by rw [gN]; show (48 : Nat) ≠ 5; decide)).trans gN
 have E8 := (h1.2.get (σ.next + 1) (by omega) (by omega) (by rw [gM]; show (42 : Nat) ≠ 5; decide)).trans gM
 refine NW ?_
 refine oW [(0, 0), (0, 4), (0, 5), (2, 0)] ?_ ?_
 ·(repeat (refine aO (bg rfl rfl rfl rfl rfl (D8 a0 a1 gN gM nN E8)) ?_)); exact bn
 refine iO ?_
 refine xL ?_
 refine iO ?_
 refine gI ?_
 exact h1.kp kt
theorem Xb {b : Nat} {d i n : Int} {s t : ByteArray} {kids qs : List Tr} {x : Value} (hss : s.size ≤ 20000) :
  Writes (aP b (kH 4 n s t kids qs) x) b d i 23 [.pointer (some ⟨b, 0, none⟩), x] (aK [Cb s]) := by
 intro σ s0 t0 td tl hx h
 have hlt := h.lt
 obtain ⟨vk, vq, rfl, rk, rq⟩ := qL hx
 have o4 := ay rk
 have o5 := ay rq
 replace rk : aP b (sl 6 kids) vk σ := rk
 replace rq : aP b (sl 10 qs) vq σ := rq
 have kp : Kp σ ((σ.push ⟨1, 48, 0, [.pointer (some ⟨b, 0, none⟩)]⟩).push ⟨1, 42, 0, [.int .i64 4, .int .i64 n, .string s, .string t, vk, vq]⟩) := ((Kp.refl σ).push _).push _
 refine fG Tryz.func23 Tryz.ntmps23 Tryz.results23 fun A hz a0 a1 => ?_
 have hq := FK s
 unfold Cb at hq
 rw [ByteArray.size_append, ByteArray.size_append] at hq
 have hs1 : (#[39] : Array UInt8).size + ((Lib.replaceAll s.data.toList [39] [39, 39]).toArray).size ≤ 9223372036854775807 := by
  have e : ((Lib.replaceAll s.data.toList [39] [39, 39]).toArray).size = (⟨(Lib.replaceAll s.data.toList [39] [39, 39]).toArray⟩ : ByteArray).size := rfl
  have e1 : (#[39] : Array UInt8).size = (⟨#[39]⟩ : ByteArray).size := rfl
  omega
 have hs2 : (#[39] : Array UInt8).size + ((Lib.replaceAll s.data.toList [39] [39, 39]).toArray).size + (#[39] : Array UInt8).size ≤ 9223372036854775807 := by
  have e : ((Lib.replaceAll s.data.toList [39] [39, 39]).toArray).size = (⟨(Lib.replaceAll s.data.toList [39] [39, 39]).toArray⟩ : ByteArray).size := rfl
  have e1 : (#[39] : Array UInt8).size = (⟨#[39]⟩ : ByteArray).size := rfl
  omega
 refine aY a0 a1 o4 o5 (nQ 4 1) (nQ 4 2) (nQ 4 3) (eQ 4) ?_
 refine xL ?_
 refine dV a0 a1 o4 o5 ?_
 obtain ⟨τ, hτ, kt, gN, gM, nx⟩ : ∃ τ, τ = ((σ.push ⟨1, 48, 0, [.pointer (some ⟨b, 0, none⟩)]⟩).push ⟨1, 42, 0, [.int .i64 4, .int .i64 n, .string s, .string t, vk, vq]⟩) ∧ Kp σ τ ∧ τ.get σ.next = ⟨1, 48, 0, [.pointer (some ⟨b, 0, none⟩)]⟩ ∧ τ.get (σ.next + 1) = ⟨1, 42, 0, [.int .i64 4, .int .i64 n, .string s, .string t, vk, vq]⟩ ∧ τ.next = σ.next + 2 := ⟨_, rfl, kp, (aC (by rw [ah]; omega)).trans aA, aA, rfl⟩
 rw [← hτ]
 refine bY mixed (by kernel_rfl) (by kernel_rfl) ?_
 refine XL a0 a1 gN gM ?_
 refine bD (dD) ?_
 refine C.mono (SH s hss) ?_
 rintro _ _ ⟨rfl, rfl⟩
 refine YE a0 a1 gN gM hs1 hs2 @ByteArray.size_append ?_
 refine bD (dD) ?_
 refine C.mono (cZ (h.kp kt) _ _ (Cb s) (by have := FK s; omega)) ?_
 rintro _ σ1 h1
 have nN := (h1.2.get σ.next (by omega) (by omega) (by rw [gN]; show (48 : Nat) ≠ 5; decide)).trans gN
 have E8 := (h1.2.get (σ.next + 1) (by omega) (by omega) (by rw [gM]; show (42 : Nat) ≠ 5; decide)).trans gM
 refine NW ?_
 refine oW [(0, 0), (0, 4), (0, 7), (2, 0)] ?_ ?_
 ·(repeat (refine aO (bg rfl rfl rfl rfl rfl (kC a0 a1 gN gM nN E8 hs1 (cJ hs2 @ByteArray.size_append))) ?_)); exact bn
 refine iO ?_
 refine xL ?_
 refine iO ?_
 refine gI ?_
 exact h1.kp kt
theorem Xc {b : Nat} {d i n : Int} {s t : ByteArray} {kids qs : List Tr} {x : Value} (hss : s.size ≤ 70000) (hts : t.size ≤ 70000) :
  Writes (aP b (kH 5 n s t kids qs) x) b d i 23 [.pointer (some ⟨b, 0, none⟩), x] (qJ t s) := by
 intro σ s0 t0 td tl hx h
 have hlt := h.lt
 obtain ⟨vk, vq, rfl, rk, rq⟩ := qL hx
 have o4 := ay rk
 have o5 := ay rq
 replace rk : aP b (sl 6 kids) vk σ := rk
 replace rq : aP b (sl 10 qs) vq σ := rq
 have kp : Kp σ ((σ.push ⟨1, 48, 0, [.pointer (some ⟨b, 0, none⟩)]⟩).push ⟨1, 42, 0, [.int .i64 5, .int .i64 n, .string s, .string t, vk, vq]⟩) := ((Kp.refl σ).push _).push _
 refine fG Tryz.func23 Tryz.ntmps23 Tryz.results23 fun A hz a0 a1 => ?_
 refine aY a0 a1 o4 o5 (nQ 5 1) (nQ 5 2) (nQ 5 3) (cJ (nQ 5 4) (cJ (nQ 5 6) (eQ 5))) ?_
 refine xL ?_
 refine dV a0 a1 o4 o5 ?_
 refine aj (bP a0 a1) ?_
 refine C.mono (Ic (E := fun _ => True) hts hss rfl rfl o4 o5 _ _ _ _ _ trivial (h.kp kp)) ?_
 rintro _ σ1 h1
 refine iO ?_
 refine xL ?_
 refine iO ?_
 refine gI ?_
 exact h1.kp kp
theorem Xd {b : Nat} {d i n : Int} {s t : ByteArray} {kids qs : List Tr} {x : Value} (hss : s.size ≤ 70000) (hts : t.size ≤ 70000) :
  Writes (aP b (kH 6 n s t kids qs) x) b d i 23 [.pointer (some ⟨b, 0, none⟩), x] (aQ (aK [pJ]) (qJ t s)) := by
 intro σ s0 t0 td tl hx h
 have hlt := h.lt
 obtain ⟨vk, vq, rfl, rk, rq⟩ := qL hx
 have o4 := ay rk
 have o5 := ay rq
 replace rk : aP b (sl 6 kids) vk σ := rk
 replace rq : aP b (sl 10 qs) vq σ := rq
 have kp : Kp σ ((σ.push ⟨1, 48, 0, [.pointer (some ⟨b, 0, none⟩)]⟩).push ⟨1, 42, 0, [.int .i64 6, .int .i64 n, .string s, .string t, vk, vq]⟩) := ((Kp.refl σ).push _).push _
 refine fG Tryz.func23 Tryz.ntmps23 Tryz.results23 fun A hz a0 a1 => ?_
 refine aY a0 a1 o4 o5 (nQ 6 1) (nQ 6 2) (nQ 6 3) (cJ (nQ 6 4) (eQ 6)) ?_
 refine xL ?_
 refine dV a0 a1 o4 o5 ?_
 refine aj (bP a0 a1) ?_
 refine C.mono (cZ (h.kp kp) _ _ pJ (by decide)) ?_
 rintro _ σ1 h1
 obtain ⟨gN, gM, hn⟩ := iP hlt h1.2 (by decide) (by decide)
 refine kR a0 a1 gN gM o4 o5 ?_
 refine aj (bP a0 a1) ?_
 refine C.mono (Ic (E := fun _ => True) hts hss rfl rfl o4 o5 _ _ _ _ _ trivial h1.1) ?_
 rintro _ σ2 h2
 refine iO ?_
 refine xL ?_
 refine iO ?_
 refine gI ?_
 exact (h1.trans h2).kp kp
theorem Tc {b : Nat} {d i n : Int} {s t : ByteArray} {kids qs : List Tr} {x : Value} (hss : s.size ≤ 70000) (hs : ∀ p ∈ kids, ShT 6 p) {fi : Tr → WM} (hin : oK b d i fi kids) :
  Writes (aP b (kH 15 n s t kids qs) x) b d i 23 [.pointer (some ⟨b, 0, none⟩), x] (vZ s (Qq fi kids)) := by
 intro σ s0 t0 td tl hx h
 have hlt := h.lt
 obtain ⟨vk, vq, rfl, rk, rq⟩ := qL hx
 have o4 := ay rk
 have o5 := ay rq
 replace rk : aP b (sl 6 kids) vk σ := rk
 replace rq : aP b (sl 10 qs) vq σ := rq
 have kp : Kp σ ((σ.push ⟨1, 48, 0, [.pointer (some ⟨b, 0, none⟩)]⟩).push ⟨1, 42, 0, [.int .i64 15, .int .i64 n, .string s, .string t, vk, vq]⟩) := ((Kp.refl σ).push _).push _
 refine fG Tryz.func23 Tryz.ntmps23 Tryz.results23 fun A hz a0 a1 => ?_
 refine aY a0 a1 o4 o5 (nQ 15 1) (nQ 15 2) (nQ 15 3) (cJ (nQ 15 4) (cJ (nQ 15 6) (cJ (nQ 15 5) (eQ 15)))) ?_
 refine xL ?_
 refine dV a0 a1 o4 o5 ?_
 refine aj (bP a0 a1) ?_
 refine C.mono (Ia (E := fun σ' => aP b (sl 6 kids) vk σ' ∧ σ'.get σ.next = ⟨1, 48, 0, [.pointer (some ⟨b, 0, none⟩)]⟩ ∧ σ'.get (σ.next + 1) = ⟨1, 42, 0, [.int .i64 15, .int .i64 n, .string s, .string t, vk, vq]⟩ ∧ σ.next + 2 ≤ σ'.next) (fs := []) (dR fU hlt (by decide) (by decide)) hss (m := Qq fi kids) (fun σ1 s1 t1 Uf tl1 he h1 => ?_) _ _ _ _ _ ⟨aP.wk rk (kp.wk b), (aC (by rw [ah]; omega)).trans aA, aA, Nat.le_refl _⟩ (h.kp kp)) ?_
 ·obtain ⟨rk1, gN, gM, hn⟩ := he
  refine fG Tryz.func60 Tryz.ntmps60 Tryz.results60 fun A hz a0 a1 => ?_
  refine dV a0 a1 gN gM ?_
  refine aj (bP a0 a1) ?_
  refine C.mono (L9 hs hin σ1 _ _ _ _ rk1 h1) ?_
  rintro _ σ2 h2
  refine iO ?_
  refine gI ?_
  exact h2
 rintro _ σ3 h3
 refine iO ?_
 refine xL ?_
 refine iO ?_
 refine gI ?_
 exact h3.kp kp
theorem Td {b : Nat} {d i n : Int} {s t : ByteArray} {kids qs : List Tr} {x : Value} {m : WM} (hch : ∀ v, Writes (aP b (sl 6 kids) v) b d i 62 [.pointer (some ⟨b, 0, none⟩), v] m) :
  Writes (aP b (kH 11 n s t kids qs) x) b d i 23 [.pointer (some ⟨b, 0, none⟩), x] (m) := by
 intro σ s0 t0 td tl hx h
 have hlt := h.lt
 obtain ⟨vk, vq, rfl, rk, rq⟩ := qL hx
 have o4 := ay rk
 have o5 := ay rq
 replace rk : aP b (sl 6 kids) vk σ := rk
 replace rq : aP b (sl 10 qs) vq σ := rq
 have kp : Kp σ ((σ.push ⟨1, 48, 0, [.pointer (some ⟨b, 0, none⟩)]⟩).push ⟨1, 42, 0, [.int .i64 11, .int .i64 n, .string s, .string t, vk, vq]⟩) := ((Kp.refl σ).push _).push _
 refine fG Tryz.func23 Tryz.ntmps23 Tryz.results23 fun A hz a0 a1 => ?_
 refine aY a0 a1 o4 o5 (nQ 11 1) (nQ 11 2) (nQ 11 3) (cJ (nQ 11 4) (cJ (nQ 11 6) (cJ (nQ 11 5) (cJ (nQ 11 15) (eQ 11))))) ?_
 refine xL ?_
 refine dV a0 a1 o4 o5 ?_
 refine aj (bP a0 a1) ?_
 refine C.mono (hch _ _ _ _ _ _ (aP.wk rk (kp.wk b)) (h.kp kp)) ?_
 rintro _ σ1 h1
 refine iO ?_
 refine xL ?_
 refine iO ?_
 refine gI ?_
 exact h1.kp kp
theorem Tf {b : Nat} {d i n : Int} {s t : ByteArray} {kids qs : List Tr} {x : Value} (yK : ∀ p ∈ qs, ShT 10 p) (hq0 : 0 < qs.length) {fq : Tr → WM} (hq : oL b d i 63 fq qs) :
  Writes (aP b (kH 12 n s t kids qs) x) b d i 23 [.pointer (some ⟨b, 0, none⟩), x] (aQ (aK [og]) (fq qs[0])) := by
 intro σ s0 t0 td tl hx h
 have hlt := h.lt
 obtain ⟨vk, vq, rfl, rk, rq⟩ := qL hx
 have o4 := ay rk
 have o5 := ay rq
 replace rk : aP b (sl 6 kids) vk σ := rk
 replace rq : aP b (sl 10 qs) vq σ := rq
 have kp : Kp σ ((σ.push ⟨1, 48, 0, [.pointer (some ⟨b, 0, none⟩)]⟩).push ⟨1, 42, 0, [.int .i64 12, .int .i64 n, .string s, .string t, vk, vq]⟩) := ((Kp.refl σ).push _).push _
 refine fG Tryz.func23 Tryz.ntmps23 Tryz.results23 fun A hz a0 a1 => ?_
 refine aY a0 a1 o4 o5 (nQ 12 1) (nQ 12 2) (nQ 12 3) (cJ (nQ 12 4) (cJ (nQ 12 6) (cJ (nQ 12 5) (cJ (nQ 12 15) (cJ (nQ 12 11) (eQ 12)))))) ?_
 refine xL ?_
 refine dV a0 a1 o4 o5 ?_
 refine aj (bP a0 a1) ?_
 refine C.mono (cZ (h.kp kp) _ _ og (by decide)) ?_
 rintro _ σ1 h1
 obtain ⟨gN, gM, hn⟩ := iP hlt h1.2 (by decide) (by decide)
 obtain ⟨bbq, pq, qq, cq, csq, lq, eq, oQ, yw, yx, SQ, hlq, hoq⟩ := jl (aP.wk rq ((kp.wk b).trans h1.2)) rE (j := 0) rfl (i := 0) (hq0) (yK _ (List.getElem_mem _))
 subst eq
 have yA := oQ _ (Wk.refl b _)
 refine dV a0 a1 gN gM ?_
 refine bY mixed (by kernel_rfl) (by kernel_rfl) ?_
 refine NZ yA a0 a1 gN gM yw yx hlq hoq ?_
 refine bD (dD) ?_
 refine C.mono (hq _ (List.getElem_mem _) _ _ _ _ _ _ SQ h1.1) ?_
 rintro _ σ2 h2
 have JA := oQ _ h2.2
 have Vo := gN
 have YR := gM
 clear gN gM hn
 obtain ⟨gN, gM, hn⟩ := iP hlt (h1.2.trans h2.2) (by decide) (by decide)
 refine NW ?_
 refine oW [(0, 0), (2, 0), (4, 0)] ?_ ?_
 ·(repeat (refine aO (bg rfl rfl rfl rfl rfl (Gq (cJ yA JA) a0 a1 gN gM Vo YR yw (cJ yx (cJ hlq hoq)))) ?_)); exact bn
 refine iO ?_
 refine xL ?_
 refine iO ?_
 refine gI ?_
 exact (h1.trans h2).kp kp
theorem Ti {b : Nat} {d i n : Int} {s t : ByteArray} {kids qs : List Tr} {x : Value} (yK : ∀ p ∈ qs, ShT 10 p) (hq0 : 0 < qs.length) {fq : Tr → WM} (hq : oL b d i 63 fq qs) :
  Writes (aP b (kH 14 n s t kids qs) x) b d i 23 [.pointer (some ⟨b, 0, none⟩), x] (fq qs[0]) := by
 intro σ s0 t0 td tl hx h
 have hlt := h.lt
 obtain ⟨vk, vq, rfl, rk, rq⟩ := qL hx
 have o4 := ay rk
 have o5 := ay rq
 replace rk : aP b (sl 6 kids) vk σ := rk
 replace rq : aP b (sl 10 qs) vq σ := rq
 have kp : Kp σ ((σ.push ⟨1, 48, 0, [.pointer (some ⟨b, 0, none⟩)]⟩).push ⟨1, 42, 0, [.int .i64 14, .int .i64 n, .string s, .string t, vk, vq]⟩) := ((Kp.refl σ).push _).push _
 refine fG Tryz.func23 Tryz.ntmps23 Tryz.results23 fun A hz a0 a1 => ?_
 obtain ⟨bbq, pq, qq, cq, csq, lq, eq, oQ, yw, yx, SQ, hlq, hoq⟩ := jl (aP.wk rq (kp.wk b)) rE (j := 0) rfl (i := 0) (hq0) (yK _ (List.getElem_mem _))
 refine aY a0 a1 o4 o5 (nQ 14 1) (nQ 14 2) (nQ 14 3) (cJ (nQ 14 4) (cJ (nQ 14 6) (cJ (nQ 14 5) (cJ (nQ 14 15) (cJ (nQ 14 11) (cJ (nQ 14 12) (eQ 14))))))) ?_
 refine xL ?_
 refine dV a0 a1 o4 o5 ?_
 obtain ⟨τ, hτ, kt, gN, gM, nx⟩ : ∃ τ, τ = ((σ.push ⟨1, 48, 0, [.pointer (some ⟨b, 0, none⟩)]⟩).push ⟨1, 42, 0, [.int .i64 14, .int .i64 n, .string s, .string t, vk, vq]⟩) ∧ Kp σ τ ∧ τ.get σ.next = ⟨1, 48, 0, [.pointer (some ⟨b, 0, none⟩)]⟩ ∧ τ.get (σ.next + 1) = ⟨1, 42, 0, [.int .i64 14, .int .i64 n, .string s, .string t, vk, vq]⟩ ∧ τ.next = σ.next + 2 := ⟨_, rfl, kp, (aC (by rw [ah]; omega)).trans aA, aA, rfl⟩
 rw [← hτ]
 subst eq
 replace oQ : ∀ ω, Wk b τ ω → ∀ q, rowOf ω ⟨bbq, q, none⟩ = some csq := hτ ▸ oQ
 replace SQ : aP b qs[0] (.agg ⟨lq⟩) τ := hτ ▸ SQ
 have yA := oQ _ (Wk.refl b _)
 refine bY mixed (by kernel_rfl) (by kernel_rfl) ?_
 refine NZ yA a0 a1 gN gM yw yx hlq hoq ?_
 refine bD (dD) ?_
 refine C.mono (hq _ (List.getElem_mem _) _ _ _ _ _ _ SQ (h.kp kt)) ?_
 rintro _ σ2 h2
 have JA := oQ _ h2.2
 have nN := (h2.2.get σ.next (by omega) (by omega) (by rw [gN]; show (48 : Nat) ≠ 5; decide)).trans gN
 have E8 := (h2.2.get (σ.next + 1) (by omega) (by omega) (by rw [gM]; show (42 : Nat) ≠ 5; decide)).trans gM
 refine NW ?_
 refine oW [(0, 0), (2, 0), (4, 0)] ?_ ?_
 ·(repeat (refine aO (bg rfl rfl rfl rfl rfl (Gq (cJ yA JA) a0 a1 gN gM nN E8 yw (cJ yx (cJ hlq hoq)))) ?_)); exact bn
 refine iO ?_
 refine xL ?_
 refine iO ?_
 refine gI ?_
 exact h2.kp kt
theorem xM {b : Nat} {d i n : Int} {s t : ByteArray} {kids qs : List Tr} {x : Value} {k : Int} {m : WM} (hk : k = 7 ∨ k = 8 ∨ k = 9 ∨ k = 10 ∨ k = 13) (hc : ∀ x, Writes (aP b (kH k n s t kids qs) x) b d i 64 [.pointer (some ⟨b, 0, none⟩), x] m) :
  Writes (aP b (kH k n s t kids qs) x) b d i 23 [.pointer (some ⟨b, 0, none⟩), x] m := by
 intro σ s0 t0 td tl hx h
 have hlt := h.lt
 obtain ⟨vk, vq, rfl, rk, rq⟩ := qL hx
 have o4 := ay rk
 have o5 := ay rq
 replace rk : aP b (sl 6 kids) vk σ := rk
 replace rq : aP b (sl 10 qs) vq σ := rq
 have kp : Kp σ ((σ.push ⟨1, 48, 0, [.pointer (some ⟨b, 0, none⟩)]⟩).push ⟨1, 42, 0, [.int .i64 k, .int .i64 n, .string s, .string t, vk, vq]⟩) := ((Kp.refl σ).push _).push _
 refine fG Tryz.func23 Tryz.ntmps23 Tryz.results23 fun A hz a0 a1 => ?_
 have c1 : (k == 1) = false := by simp only [beq_eq_false_iff_ne]; omega
 have c2 : (k == 2) = false := by simp only [beq_eq_false_iff_ne]; omega
 have c3 : (k == 3) = false := by simp only [beq_eq_false_iff_ne]; omega
 have c4 : (k == 4) = false := by simp only [beq_eq_false_iff_ne]; omega
 have c6 : (k == 6) = false := by simp only [beq_eq_false_iff_ne]; omega
 have c5 : (k == 5) = false := by simp only [beq_eq_false_iff_ne]; omega
 have c15 : (k == 15) = false := by simp only [beq_eq_false_iff_ne]; omega
 have c11 : (k == 11) = false := by simp only [beq_eq_false_iff_ne]; omega
 have c12 : (k == 12) = false := by simp only [beq_eq_false_iff_ne]; omega
 have c14 : (k == 14) = false := by simp only [beq_eq_false_iff_ne]; omega
 refine aY a0 a1 o4 o5 c1 c2 c3 (cJ c4 (cJ c6 (cJ c5 (cJ c15 (cJ c11 (cJ c12 c14)))))) ?_
 refine xL ?_
 refine dV a0 a1 o4 o5 ?_
 refine aj (bP a0 a1) ?_
 refine C.mono (hc _ _ _ _ _ _ (aP.wk (yI rk rq) (kp.wk b)) (h.kp kp)) ?_
 rintro _ σ1 h1
 refine iO ?_
 refine xL ?_
 refine iO ?_
 refine gI ?_
 exact h1.kp kp
section
variable (T : ByteArray → Bool)
def OkE (n : Nat) (p : Tr) : Prop := (bT b0 n).e p ∧ (eP T n).e p = true
def OkQ (n : Nat) (p : Tr) : Prop := (bT b0 n).q p ∧ (eP T n).q p = true
def OkF (n : Nat) (p : Tr) : Prop := (bT b0 n).f p ∧ (eP T n).f p = true
def Zq (n : Nat) : Prop := ∀ (b d : Nat) (i : Int) (p : Tr), d ≤ 40 → OkE T n p → ∀ x, Writes (aP b p x) b d i 23 [.pointer (some ⟨b, 0, none⟩), x] ((jY n).e d p)
def QOK (n : Nat) : Prop := ∀ (b d : Nat) (i : Int) (p : Tr), d ≤ 40 → OkQ T n p → (∀ x, Writes (aP b p x) b d i 143 [.pointer (some ⟨b, 0, none⟩), x] ((jY n).q d p)) ∧ (uY (cellV p 0) = 1 → ∀ x, Writes (aP b p x) b d i 175 [.pointer (some ⟨b, 0, none⟩), x] ((jY n).q d p))
def FOK (n : Nat) : Prop := ∀ (b d : Nat) (i : Int) (p : Tr), d ≤ 40 → OkF T n p → ∀ x, Writes (aP b p x) b d i 197 [.pointer (some ⟨b, 0, none⟩), x] ((jY n).f d p)
end
variable {T : ByteArray → Bool} {n b d : Nat} {i : Int}
theorem FM {β : Bd} {p : Tr} (h : (bT β n).e p) : ∃ k m s t kids qs, p = kH k m s t kids qs := by
 cases n with
 | zero => exact h.elim
 | succ n => obtain ⟨k, m, s, t, kids, qs, rfl, _⟩ := h; exact ⟨_, _, _, _, _, _, rfl⟩
theorem abR {β : Bd} {p : Tr} (h : (bT β n).q p) : ∃ k di m items froms wh gr ha or kids, p = DL k di m items froms wh gr ha or kids := by
 cases n with
 | zero => exact h.elim
 | succ n => obtain ⟨k, di, m, items, froms, wh, gr, ha, or, kids, rfl, _⟩ := h; exact ⟨_, _, _, _, _, _, _, _, _, _, rfl⟩
theorem Zr {β : Bd} {p : Tr} (h : (bT β n).f p) : ∃ k v t a q kids on, p = DZ k v t a q kids on := by
 cases n with
 | zero => exact h.elim
 | succ n => obtain ⟨k, v, t, a, q, kids, on, rfl, _⟩ := h; exact ⟨_, _, _, _, _, _, _, rfl⟩
theorem tN {β : Bd} {p : Tr} (h : (bT β n).e p) : ShT 6 p := by obtain ⟨_, _, _, _, _, _, rfl⟩ := FM h; exact shE
theorem kL {β : Bd} {p : Tr} (h : (bT β n).q p) : ShT 10 p := by obtain ⟨_, _, _, _, _, _, _, _, _, _, rfl⟩ := abR h; exact shQ
theorem wF {β : Bd} {p : Tr} (h : (bT β n).f p) : ShT 7 p := by obtain ⟨_, _, _, _, _, _, _, rfl⟩ := Zr h; exact shF
theorem rZ (hE : Zq T n) (hd : d ≤ 40) {p : Tr} (hp : OkE T n p) : ∀ x, Writes (aP b p x) b d i 101 [.pointer (some ⟨b, 0, none⟩), x] (fE (jY n).e d p) := by
 intro x σ s t td tl hx h
 obtain ⟨l, rfl, hl, ho⟩ := eG (tN hp.1) hx
 unfold fE
 rw [xJ]
 exact Wj fU (by omega) (by omega) hl ho (fun hd4 => by
  have := hE b (d + 1) i p (by omega) hp (.agg ⟨l⟩)
  exact this) σ s t td tl hx h
theorem Ik (hQ : QOK T n) (hd : d ≤ 40) {p : Tr} (hp : OkQ T n p) : ∀ x, Writes (aP b p x) b d i 103 [.pointer (some ⟨b, 0, none⟩), x] (tJ (jY n).q d p) := by
 intro x σ s t td tl hx h
 obtain ⟨l, rfl, hl, ho⟩ := eG (kL hp.1) hx
 unfold tJ
 rw [xJ]
 exact SG fU (by omega) (by omega) hl ho (fun hd4 => by
  have := (hQ b (d + 1) i p (by omega) hp).1 (.agg ⟨l⟩)
  exact this) σ s t td tl hx h
theorem OV (hQ : QOK T n) (hd : d ≤ 40) {p : Tr} (hp : OkQ T n p) : ∀ x, Writes (aP b p x) b d i 63 [.pointer (some ⟨b, 0, none⟩), x] (Aw (jY n).q d p) := by
 intro x σ s t td tl hx h
 obtain ⟨l, rfl, hl, ho⟩ := eG (kL hp.1) hx
 exact abG fU hl ho (Ik hQ hd hp _) σ s t td tl hx h
theorem FN (hE : Zq T n) (hd : d ≤ 40) {p : Tr} (hp : OkE T n p) : ∀ x, Writes (aP b p x) b d i 105 [.pointer (some ⟨b, 0, none⟩), x] (jk (jY n).e d p) := by
 intro x σ s t td tl hx h
 obtain ⟨k, m, s1, t1, kids, qs, rfl⟩ := FM hp.1
 obtain ⟨vk, vq, rfl, rk, rq⟩ := qL hx
 exact OH fU rfl rfl rfl (ay rk) (ay rq) (rZ hE hd hp _) (hE b d i _ hd hp _) σ s t td tl hx h
theorem Zt {l : List Tr} (h : LL b0 (bT b0 n).e l) (hr : ∀ p ∈ l, (eP T n).e p = true) : ∀ p ∈ l, OkE T n p := fun p hp => ⟨h.2 p hp, hr p hp⟩
theorem Zu {l : List Tr} (h : LL b0 (bT b0 n).q l) (hr : ∀ p ∈ l, (eP T n).q p = true) : ∀ p ∈ l, OkQ T n p := fun p hp => ⟨h.2 p hp, hr p hp⟩
theorem ad9 {l : List Tr} (h : LL b0 (bT b0 n).f l) (hr : ∀ p ∈ l, (eP T n).f p = true) : ∀ p ∈ l, OkF T n p := fun p hp => ⟨h.2 p hp, hr p hp⟩
theorem oD {l : List Tr} {z : Tr} (h : 0 < l.length) : l.getD 0 z = l[0] := by simp [List.getD, h]
theorem Ci {l : List Tr} {z : Tr} (h : 1 < l.length) : l.getD 1 z = l[1] := by simp [List.getD, h]
theorem sH {E : AW → Prop} {b : Nat} {d i : Int} {g : Nat} {xs : List Value} {m m' : WM} (e : m' = m) (h : Writes E b d i g xs m) : Writes E b d i g xs m' := e ▸ h
theorem Tj (hE : Zq T n) (hQ : QOK T n) : Zq T (n + 1) := by
 intro b d i p hd hp x
 obtain ⟨⟨k, m, s, t, kids, qs, rfl, hk, hm, hs, ht, hkids, yK⟩, hr⟩ := hp
 replace hr : FI T (eP T n) k m s t kids qs = true := hr
 obtain ⟨rk, rq, lo, hi, one, two, three, query⟩ := OM hr
 have okk := Zt hkids rk
 have okq := Zu yK rq
 have s6 : ∀ p ∈ kids, ShT 6 p := fun p hp => tN (hkids.2 p hp)
 have s10 : ∀ p ∈ qs, ShT 10 p := fun p hp => kL (yK.2 p hp)
 have hs' : s.size ≤ 1200 := hs
 have ht' : t.size ≤ 1200 := ht
 have hm0 := hm.1
 have hm1 := hm.2
 have h0 : (0 : Int) ≤ (d : Int) := by omega
 have hd4 : (d : Int) ≤ 40 := by omega
 have hop : oL b d i 105 (jk (jY n).e d) kids := fun p hp x => FN hE hd (okk p hp) x
 have hop1 : (d : Int) < 40 → oL b (d + 1) i 105 (jk (jY n).e (d + 1)) kids := fun hd4 p hp x => FN (d := d + 1) hE (by omega) (okk p hp) x
 have hin : oK b d i (fE (jY n).e d) kids := fun p hp x => rZ hE hd (okk p hp) x
 have hq : oL b d i 63 (Aw (jY n).q d) qs := fun p hp x => OV hQ hd (okq p hp) x
 show Writes _ b d i _ _ (V3 (jY n).e (jY n).q d k m s t kids qs)
 rcases (by omega : k = 1 ∨ k = 2 ∨ k = 3 ∨ k = 4 ∨ k = 5 ∨ k = 6 ∨ k = 7 ∨ k = 8 ∨ k = 9 ∨ k = 10 ∨ k = 11 ∨ k = 12 ∨ k = 13 ∨ k = 14 ∨ k = 15) with rfl | rfl | rfl | rfl | rfl | rfl | rfl | rfl | rfl | rfl | rfl | rfl | rfl | rfl | rfl
 ·exact WZ
 ·exact W9
 ·exact Xa hm0 hm1
 ·exact Xb (by omega)
 ·exact Xc (by omega) (by omega)
 ·exact Xd (by omega) (by omega)
 ·have hl := one (by omega)
  refine sH ?_ (xM (by omega) fun x => WG s6 (by omega) h0 hd4 hop1)
  show fK [aK [jq], OA, wC d fun d => jk (jY n).e d (kids.getD 0 zE)] = _
  rw [xJ, oD (by omega)]
  simp only [fK, List.foldr, jv]
 ·have hl := one (by omega)
  refine sH ?_ (xM (by omega) fun x => WH s6 (by omega) h0 hd4 hop1)
  show fK [aK [iT], wC d fun d => jk (jY n).e d (kids.getD 0 zE)] = _
  rw [xJ, oD (by omega)]
  simp only [fK, List.foldr, jv]
 ·have hl := one (by omega)
  refine sH ?_ (xM (by omega) fun x => WI s6 (by omega) hop)
  show fK [jk (jY n).e d (kids.getD 0 zE), aK [uh], tK m, aK [kZ]] = _
  rw [oD (by omega)]
  simp only [fK, List.foldr, jv]
 ·have hl := two (by omega)
  refine sH ?_ (xM (by omega) fun x => SV s6 (by omega) (by omega) (show s.size ≤ 70000 by omega) hop)
  show fK [jk (jY n).e d (kids.getD 0 zE), aK [s], jk (jY n).e d (kids.getD 1 zE)] = _
  rw [oD (by omega), Ci (by omega)]
  simp only [fK, List.foldr, jv]
 ·have hl := three (by omega)
  refine Td fun v => sH ?_ (SX s6 hl hin)
  obtain ⟨x0, x1, x2, rfl⟩ : ∃ x0 x1 x2, kids = [x0, x1, x2] := by
   match kids, hl with
   | [a, b, c], _ => exact ⟨a, b, c, rfl⟩
  show fK [aK [vK], aK [lX], fE (jY n).e d x0, aK [lY], fE (jY n).e d x1, aK [jP], fE (jY n).e d x2, aK [EO]] = _
  simp only [fK, List.foldr, jv]
  rfl
 ·have hl := query (by omega)
  refine sH ?_ (Tf s10 (by omega) hq)
  show aQ (aK [og]) (Aw (jY n).q d (qs.getD 0 zQ)) = _
  rw [oD (by omega)]
 ·have hl := one (by omega)
  have hl2 := query (by omega)
  refine sH ?_ (xM (by omega) fun x => SN s6 (by omega) hop s10 (by omega) hq)
  show fK [jk (jY n).e d (kids.getD 0 zE), tK m, aK [uO], Aw (jY n).q d (qs.getD 0 zQ)] = _
  rw [oD (by omega), oD (by omega)]
  simp only [fK, List.foldr, jv]
 ·have hl := query (by omega)
  refine sH ?_ (Ti s10 (by omega) hq)
  show Aw (jY n).q d (qs.getD 0 zQ) = _
  rw [oD (by omega)]
 ·refine sH ?_ (Tc (by omega) s6 hin)
  show vZ s (Hz (jY n).e d kids) = vZ s (Qq (fE (jY n).e d) kids)
  cases kids <;> rfl
theorem Tm (hE : Zq T n) (hQ : QOK T n) (hF : FOK T n) : FOK T (n + 1) := by
 intro b d i p hd hp x
 obtain ⟨⟨k, v, t, a, q, kids, on, rfl, hk, ht, ha, hq, hkids, hon⟩, hr⟩ := hp
 replace hr : yJ (eP T n) k v t a q kids on = true := hr
 obtain ⟨rq, rk, ro, lo, hi, query, two⟩ := OO hr
 have s10 : ∀ p ∈ q, ShT 10 p := fun p hp => kL (hq.2 p hp)
 have s7 : ∀ p ∈ kids, ShT 7 p := fun p hp => wF (hkids.2 p hp)
 have s6 : ∀ p ∈ on, ShT 6 p := fun p hp => tN (hon.2 p hp)
 have ht' : t.size ≤ 1200 := ht
 have ha' : a.size ≤ 1200 := ha
 have hol : on.length ≤ 1000 := hon.1
 have hin : oK b d i (fE (jY n).e d) on := fun p hp x => rZ hE hd (Zt hon ro p hp) x
 have hqb : oL b d i 63 (Aw (jY n).q d) q := fun p hp x => OV hQ hd (Zu hq rq p hp) x
 have hf : oL b d i 197 ((jY n).f d) kids := fun p hp x => hF b d i p hd (ad9 hkids rk p hp) x
 show Writes _ b d i _ _ (V5 (jY n).e (jY n).q (jY n).f d k v t a q kids on)
 rcases (by omega : k = 1 ∨ k = 2 ∨ k = 3 ∨ k = 4) with rfl | rfl | rfl | rfl
 ·refine sH ?_ (WV (by omega) (by omega))
  show fK [aK [t], if v then aK [fO] else dW, if a = t then dW else aK [mM, a]] = _
  simp only [fK, List.foldr, jv]
 ·have hl := query rfl
  refine sH ?_ (WW (by omega) s10 (by omega) hqb)
  show aQ (Aw (jY n).q d (q.getD 0 zQ)) (aK [mM, a]) = _
  rw [oD (by omega)]
 ·have hl := two (by omega)
  refine sH ?_ (WX hl s7 hf (by omega) s6 hin)
  show fK [(jY n).f d (kids.getD 0 zE), aK [lZ], (jY n).f d (kids.getD 1 zE), yj (jY n).e d on [BD]] = _
  rw [oD (by omega), Ci (by omega)]
  simp only [fK, List.foldr, jv, yj]
 ·have hl := two (by omega)
  refine sH ?_ (WY hl s7 hf (by omega) s6 hin)
  show fK [(jY n).f d (kids.getD 0 zE), aK [o8, lZ], (jY n).f d (kids.getD 1 zE), yj (jY n).e d on [BD]] = _
  rw [oD (by omega), Ci (by omega)]
  simp only [fK, List.foldr, jv, yj]
theorem Zv (hE : Zq T n) (hd : d ≤ 40) {items : List Tr} (h : ∀ p ∈ items, KI b0 (bT b0 n).e p) (hr : ∀ p ∈ items, (eP T n).e (Dp p) = true) : oL b d i 196 (V4 (jY n).e d) items := by
 intro p hp x
 obtain ⟨y, nm, rfl, hn, hy⟩ := h p hp
 obtain ⟨k, m, s, t, kids, qs, rfl⟩ := FM hy
 have hr' : (eP T n).e (kH k m s t kids qs) = true := hr _ hp
 have hn' : nm.size ≤ 1200 := hn
 exact Zg (fi := fE (jY n).e d) ⟨_, _, _, _, _, _, rfl⟩ (by omega) (fun q hq x => by rw [List.mem_singleton.1 hq]; exact rZ hE hd ⟨hy, hr'⟩ x)
theorem abS (hE : Zq T n) (hd : d ≤ 40) {or : List Tr} (h : ∀ p ∈ or, KK (bT b0 n).e p) (hr : ∀ p ∈ or, (eP T n).e (Dp p) = true) : oL b d i 199 (abC (jY n).e d) or := by
 intro p hp x
 obtain ⟨y, fl, rfl, hy⟩ := h p hp
 obtain ⟨k, m, s, t, kids, qs, rfl⟩ := FM hy
 have hr' : (eP T n).e (kH k m s t kids qs) = true := hr _ hp
 exact abI (fi := fE (jY n).e d) ⟨_, _, _, _, _, _, rfl⟩ (fun q hq x => by rw [List.mem_singleton.1 hq]; exact rZ hE hd ⟨hy, hr'⟩ x)
theorem Tn {β : Bd} {l : List Tr} (h : ∀ p ∈ l, KI β (bT β n).e p) : ∀ p ∈ l, ShT 7 p := fun p hp => by
 obtain ⟨y, nm, rfl, hn, hy⟩ := h p hp
 exact Zd (tN hy) _
theorem Tq {β : Bd} {l : List Tr} (h : ∀ p ∈ l, KK (bT β n).e p) : ∀ p ∈ l, ShT 7 p := fun p hp => by
 obtain ⟨y, nm, rfl, hy⟩ := h p hp
 exact Ze (tN hy) _
theorem OW (hE : Zq T n) (hQ : QOK T n) (hF : FOK T n) : QOK T (n + 1) := by
 intro b d i p hd hp
 obtain ⟨⟨k, di, m, items, froms, wh, gr, ha, or, kids, rfl, hk, hm, hit, hfr, hwh, hgr, hha, hor, hkids⟩, hr⟩ := hp
 replace hr : rX (eP T n) k di m items froms wh gr ha or kids = true := hr
 have e6 : ∀ {l : List Tr}, LL b0 (bT b0 n).e l → ∀ p ∈ l, ShT 6 p := fun h p hp => tN (h.2 p hp)
 have hl : ∀ {K : Tr → Prop} {l : List Tr}, LL b0 K l → l.length ≤ 1000000 := fun h => by have : _ ≤ 1000 := h.1; omega
 have hin : ∀ {l : List Tr}, LL b0 (bT b0 n).e l → (∀ p ∈ l, (eP T n).e p = true) → oK b d i (fE (jY n).e d) l := fun h hr p hp x => rZ hE hd (Zt h hr p hp) x
 have hsel : k = 1 → ∀ x, Writes (aP b (DL k di m items froms wh gr ha or kids) x) b d i 175 [.pointer (some ⟨b, 0, none⟩), x] ((jY (n + 1)).q d (DL k di m items froms wh gr ha or kids)) := by
  rintro rfl x
  obtain ⟨_, h1, h2, h3, h4, h5, h6⟩ | ⟨h, _⟩ := Dv hr
  ·refine sH ?_ (ML (fit := V4 (jY n).e d) (fky := abC (jY n).e d) (fi := fE (jY n).e d) (ff := (jY n).f d) (hl hit) (Tn hit.2) (Zv hE hd hit.2 h1) (hl hfr) (fun p hp => wF (hfr.2 p hp)) (fun p hp x => hF b d i p hd (ad9 hfr h2 p hp) x) (hl hor) (Tq hor.2) (abS hE hd hor.2 h6) (hl hwh) (e6 hwh) (hin hwh h3) (hl hgr) (e6 hgr) (hin hgr h4) (hl hha) (e6 hha) (hin hha h5) hm.1 hm.2)
   show Jt (jY n).e (jY n).f d di m items froms wh gr ha or = _
   unfold Jt
   rw [Az, Az]
   simp only [fK, List.foldr, jv, seq_assoc, yj]
  ·exact absurd rfl h
 refine ⟨fun x => ?_, hsel⟩
 obtain ⟨rfl, _⟩ | ⟨hk1, hlen, hkr⟩ := Dv hr
 ·exact SY rfl (hsel rfl)
 ·have okq := Zu hkids hkr
  obtain ⟨k1, hq1⟩ : ∃ k1, ∃ e1 f1 g1 g2 g3 g4 g5 g6 g7, kids[1] = DL k1 e1 f1 g1 g2 g3 g4 g5 g6 g7 := abR (hkids.2 _ (List.getElem_mem (by omega)))
  have hk0 : uY (cellV kids[1] 0) = k1 := by obtain ⟨e1, f1, g1, g2, g3, g4, g5, g6, g7, h⟩ := hq1; rw [h]; rfl
  have o0 := hQ b d i kids[0] hd (okq _ (List.getElem_mem _))
  have o1 := hQ b d i kids[1] hd (okq _ (List.getElem_mem _))
  refine sH ?_ (S9 (m1 := if k1 = 1 then (jY n).q d kids[1] else Aw (jY n).q d kids[1]) hk1 hlen (fun p hp => kL (hkids.2 p hp)) o0.1 hq1 (fun h x => ?_) (fun h x => ?_))
  ·show (if k = 1 then _ else fK [(jY n).q d (kids.getD 0 zQ), uZ k, if uY (cellV (kids.getD 1 zQ) 0) = 1 then (jY n).q d (kids.getD 1 zQ) else Aw (jY n).q d (kids.getD 1 zQ)]) = _
   rw [if_neg hk1, oD (by omega), Ci (by omega), hk0]
   simp only [fK, List.foldr, jv, seq_assoc]
  ·rw [if_pos h]
   exact o1.2 (hk0.trans h) x
  ·rw [if_neg h]
   exact OV hQ hd (okq _ (List.getElem_mem _)) x
theorem OX (T : ByteArray → Bool) : ∀ n, Zq T n ∧ QOK T n ∧ FOK T n
 | 0 => ⟨fun _ _ _ _ _ h => h.1.elim, fun _ _ _ _ _ h => h.1.elim, fun _ _ _ _ _ h => h.1.elim⟩
 | n + 1 => have ⟨h1, h2, h3⟩ := OX T n; ⟨Tj h1 h2, OW h1 h2 h3, Tm h1 h2 h3⟩
end Go.Proofs.YthogkmcahnkkoaaGreatDoor
