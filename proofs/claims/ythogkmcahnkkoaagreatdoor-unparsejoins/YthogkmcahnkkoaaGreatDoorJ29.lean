/- The program's writer: what has operands, kind by kind. The program's writer: choices. The program's writer: what queries are from. The program's writer: what is selected. -/
import Derived.Test.YthogkmcahnkkoaaGreatDoorJ28
namespace Go.Proofs.YthogkmcahnkkoaaGreatDoor
open Go.RowKit
set_option maxRecDepth 10000
set_option linter.unusedSimpArgs false
set_option linter.unusedVariables false
theorem Zk {b N : Nat} {d i k n : Int} {s t : ByteArray} {kids : List Tr} {vk vq : Value} (o5 : gu vq = true) (hs : ∀ p ∈ kids, ShT 6 p) (hk : 0 < kids.length) {fo : Tr → WM} (hop : oL b d i 105 fo kids) (hNb : N ≠ b) (hMb : N + 1 ≠ b) :
  Writes (fun σ' => aP b (sl 6 kids) vk σ' ∧ σ'.get N = ⟨1, 48, 0, [.pointer (some ⟨b, 0, none⟩)]⟩ ∧ σ'.get (N + 1) = ⟨1, 42, 0, [.int .i64 k, .int .i64 n, .string s, .string t, vk, vq]⟩ ∧ N + 2 ≤ σ'.next) b d i 104 ([] ++ [.pointer (some ⟨N, 0, none⟩), .pointer (some ⟨N + 1, 0, none⟩)]) (fo kids[0]) := by
 intro σ s0 t0 td tl ⟨rk, gN, gM, hn⟩ h
 have hlt := h.lt
 obtain ⟨bb, p, q, c, cs, l, e, hrow, hel, htk, hx, hl, ho⟩ := jl rk oM (j := 0) rfl (i := 0) (hk) (hs _ (List.getElem_mem _))
 subst e
 have hr := hrow _ (Wk.refl b σ)
 refine fG Tryz.func104 Tryz.ntmps104 Tryz.results104 fun A hz a0 a1 => ?_
 refine bY mixed (by kernel_rfl) (by kernel_rfl) ?_
 refine NZ hr a0 a1 gN gM hel htk hl ho ?_
 refine bD (dD) ?_
 refine C.mono (hop _ (List.getElem_mem _) _ σ _ _ _ _ hx h) ?_
 rintro _ σ1 h1
 have nN := (h1.2.get N (by omega) (hNb) (by rw [gN]; show (48 : Nat) ≠ 5; decide)).trans gN
 have E8 := (h1.2.get (N + 1) (by omega) (hMb) (by rw [gM]; show (42 : Nat) ≠ 5; decide)).trans gM
 have hr1 := hrow _ h1.2
 refine NW ?_
 refine oW [(0, 0), (2, 0), (4, 0)] ?_ ?_
 ·(repeat (refine aO (bg rfl rfl rfl rfl rfl (Gq (cJ hr hr1) a0 a1 gN gM nN E8 hel (cJ htk (cJ hl ho)))) ?_)); exact bn
 refine iO ?_
 refine gI ?_
 exact h1
theorem Zl {b N : Nat} {d i k n : Int} {s t : ByteArray} {kids : List Tr} {vk vq : Value} (o5 : gu vq = true) (hs : ∀ p ∈ kids, ShT 6 p) (hk : 0 < kids.length) {fo : Tr → WM} (hop : oL b d i 105 fo kids) (hNb : N ≠ b) (hMb : N + 1 ≠ b) :
  Writes (fun σ' => aP b (sl 6 kids) vk σ' ∧ σ'.get N = ⟨1, 48, 0, [.pointer (some ⟨b, 0, none⟩)]⟩ ∧ σ'.get (N + 1) = ⟨1, 42, 0, [.int .i64 k, .int .i64 n, .string s, .string t, vk, vq]⟩ ∧ N + 2 ≤ σ'.next) b d i 106 ([] ++ [.pointer (some ⟨N, 0, none⟩), .pointer (some ⟨N + 1, 0, none⟩)]) (fo kids[0]) := by
 intro σ s0 t0 td tl ⟨rk, gN, gM, hn⟩ h
 have hlt := h.lt
 obtain ⟨bb, p, q, c, cs, l, e, hrow, hel, htk, hx, hl, ho⟩ := jl rk oM (j := 0) rfl (i := 0) (hk) (hs _ (List.getElem_mem _))
 subst e
 have hr := hrow _ (Wk.refl b σ)
 refine fG Tryz.func106 Tryz.ntmps106 Tryz.results106 fun A hz a0 a1 => ?_
 refine bY mixed (by kernel_rfl) (by kernel_rfl) ?_
 refine NZ hr a0 a1 gN gM hel htk hl ho ?_
 refine bD (dD) ?_
 refine C.mono (hop _ (List.getElem_mem _) _ σ _ _ _ _ hx h) ?_
 rintro _ σ1 h1
 have nN := (h1.2.get N (by omega) (hNb) (by rw [gN]; show (48 : Nat) ≠ 5; decide)).trans gN
 have E8 := (h1.2.get (N + 1) (by omega) (hMb) (by rw [gM]; show (42 : Nat) ≠ 5; decide)).trans gM
 have hr1 := hrow _ h1.2
 refine NW ?_
 refine oW [(0, 0), (2, 0), (4, 0)] ?_ ?_
 ·(repeat (refine aO (bg rfl rfl rfl rfl rfl (Gq (cJ hr hr1) a0 a1 gN gM nN E8 hel (cJ htk (cJ hl ho)))) ?_)); exact bn
 refine iO ?_
 refine gI ?_
 exact h1
theorem WG {b : Nat} {d i n : Int} {s t : ByteArray} {kids qs : List Tr} {x : Value} (hs : ∀ p ∈ kids, ShT 6 p) (hk : 0 < kids.length) (h0 : 0 ≤ d) (hd : d ≤ 40) {fo : Tr → WM} (hop : d < 40 → oL b (d + 1) i 105 fo kids) :
  Writes (aP b (kH 7 n s t kids qs) x) b d i 64 [.pointer (some ⟨b, 0, none⟩), x] (aQ (aK [jq]) (aQ OA (if d = 40 then fun t => ([], t, true) else fo kids[0]))) := by
 intro σ s0 t0 td tl hx h
 have hlt := h.lt
 obtain ⟨vk, vq, rfl, rk, rq⟩ := qL hx
 have o4 := ay rk
 have o5 := ay rq
 replace rk : aP b (sl 6 kids) vk σ := rk
 replace rq : aP b (sl 10 qs) vq σ := rq
 have kp : Kp σ ((σ.push ⟨1, 48, 0, [.pointer (some ⟨b, 0, none⟩)]⟩).push ⟨1, 42, 0, [.int .i64 7, .int .i64 n, .string s, .string t, vk, vq]⟩) := ((Kp.refl σ).push _).push _
 refine fG Tryz.func64 Tryz.ntmps64 Tryz.results64 fun A hz a0 a1 => ?_
 refine jy a0 a1 o4 o5 (eQ 7) ?_
 refine aj (bP a0 a1) ?_
 refine C.mono (cZ (h.kp kp) _ _ jq (by decide)) ?_
 rintro _ σ1 h1
 obtain ⟨gN, gM, hn⟩ := iP hlt h1.2 (by decide) (by decide)
 refine dS a0 a1 gN ?_
 refine aj (bP a0 a1) ?_
 refine C.mono (Wi (E := fun _ => True) σ1 _ _ _ _ trivial h1.1) ?_
 rintro _ σ2 h2
 obtain ⟨kU, sF, hn2⟩ := iP hlt (h1.2.trans h2.2) (by decide) (by decide)
 refine dS a0 a1 kU ?_
 refine aj (bP a0 a1) ?_
 have k2 := (kp.wk b).trans (h1.2.trans h2.2)
 refine C.mono (qU (E := fun σ' => aP b (sl 6 kids) vk σ' ∧ σ'.get σ.next = ⟨1, 48, 0, [.pointer (some ⟨b, 0, none⟩)]⟩ ∧ σ'.get (σ.next + 1) = ⟨1, 42, 0, [.int .i64 7, .int .i64 n, .string s, .string t, vk, vq]⟩ ∧ σ.next + 2 ≤ σ'.next) (fs := []) (dR fU hlt (by decide) (by decide)) h0 hd (m := fo kids[0]) (fun hd4 => Zk (vq := vq) (k := 7) (n := n) (s := s) (t := t) o5 hs hk (hop hd4) (by omega) (by omega)) _ _ _ _ _ ⟨aP.wk rk k2, kU, sF, hn2⟩ h2.1) ?_
 rintro _ σ3 h3
 refine iO ?_
 refine gI ?_
 exact (h1.trans (h2.trans h3)).kp kp
theorem WH {b : Nat} {d i n : Int} {s t : ByteArray} {kids qs : List Tr} {x : Value} (hs : ∀ p ∈ kids, ShT 6 p) (hk : 0 < kids.length) (h0 : 0 ≤ d) (hd : d ≤ 40) {fo : Tr → WM} (hop : d < 40 → oL b (d + 1) i 105 fo kids) :
  Writes (aP b (kH 8 n s t kids qs) x) b d i 64 [.pointer (some ⟨b, 0, none⟩), x] (aQ (aK [iT]) (if d = 40 then fun t => ([], t, true) else fo kids[0])) := by
 intro σ s0 t0 td tl hx h
 have hlt := h.lt
 obtain ⟨vk, vq, rfl, rk, rq⟩ := qL hx
 have o4 := ay rk
 have o5 := ay rq
 replace rk : aP b (sl 6 kids) vk σ := rk
 replace rq : aP b (sl 10 qs) vq σ := rq
 have kp : Kp σ ((σ.push ⟨1, 48, 0, [.pointer (some ⟨b, 0, none⟩)]⟩).push ⟨1, 42, 0, [.int .i64 8, .int .i64 n, .string s, .string t, vk, vq]⟩) := ((Kp.refl σ).push _).push _
 refine fG Tryz.func64 Tryz.ntmps64 Tryz.results64 fun A hz a0 a1 => ?_
 refine kR a0 a1 o4 o5 (nQ 8 7) (eQ 8) ?_
 refine aj (bP a0 a1) ?_
 refine C.mono (cZ (h.kp kp) _ _ iT (by decide)) ?_
 rintro _ σ1 h1
 obtain ⟨gN, gM, hn⟩ := iP hlt h1.2 (by decide) (by decide)
 refine dS a0 a1 gN ?_
 refine aj (bP a0 a1) ?_
 have k1 := (kp.wk b).trans h1.2
 refine C.mono (qU (E := fun σ' => aP b (sl 6 kids) vk σ' ∧ σ'.get σ.next = ⟨1, 48, 0, [.pointer (some ⟨b, 0, none⟩)]⟩ ∧ σ'.get (σ.next + 1) = ⟨1, 42, 0, [.int .i64 8, .int .i64 n, .string s, .string t, vk, vq]⟩ ∧ σ.next + 2 ≤ σ'.next) (fs := []) (dR fU hlt (by decide) (by decide)) h0 hd (m := fo kids[0]) (fun hd4 => Zl (vq := vq) (k := 8) (n := n) (s := s) (t := t) o5 hs hk (hop hd4) (by omega) (by omega)) _ _ _ _ _ ⟨aP.wk rk k1, gN, gM, hn⟩ h1.1) ?_
 rintro _ σ3 h3
 refine iO ?_
 refine gI ?_
 exact (h1.trans h3).kp kp
theorem WI {b : Nat} {d i n : Int} {s t : ByteArray} {kids qs : List Tr} {x : Value} (hs : ∀ p ∈ kids, ShT 6 p) (hk : 0 < kids.length) {fo : Tr → WM} (hop : oL b d i 105 fo kids) :
  Writes (aP b (kH 9 n s t kids qs) x) b d i 64 [.pointer (some ⟨b, 0, none⟩), x] (aQ (fo kids[0]) (aQ (aK [uh]) (aQ (tK n) (aK [kZ])))) := by
 intro σ s0 t0 td tl hx h
 have hlt := h.lt
 obtain ⟨vk, vq, rfl, rk, rq⟩ := qL hx
 have o4 := ay rk
 have o5 := ay rq
 replace rk : aP b (sl 6 kids) vk σ := rk
 replace rq : aP b (sl 10 qs) vq σ := rq
 have kp : Kp σ ((σ.push ⟨1, 48, 0, [.pointer (some ⟨b, 0, none⟩)]⟩).push ⟨1, 42, 0, [.int .i64 9, .int .i64 n, .string s, .string t, vk, vq]⟩) := ((Kp.refl σ).push _).push _
 refine fG Tryz.func64 Tryz.ntmps64 Tryz.results64 fun A hz a0 a1 => ?_
 obtain ⟨bb, p, q, c, cs, l, e, hrow, hel, htk, hx0, hl, ho⟩ := jl rk oM (j := 0) rfl (i := 0) (hk) (hs _ (List.getElem_mem _))
 subst e
 have hr := hrow _ (kp.wk b)
 have gK : ∀ B, (σ.push B).get (σ.next) = B := fun _ => aA
 refine nH a0 a1 o4 o5 (nQ 9 7) (nQ 9 8) (eQ 9) ?_
 refine bY mixed (by kernel_rfl) (by kernel_rfl) ?_
 refine aa8 hr a0 a1 hel htk hl ho ?_
 refine bD (dD) ?_
 refine C.mono (hop _ (List.getElem_mem _) _ _ _ _ _ _ (aP.wk hx0 (kp.wk b)) (h.kp kp)) ?_
 rintro _ σ1 h1
 obtain ⟨gN, gM, hn⟩ := iP hlt h1.2 (by decide) (by decide)
 have hr1 := hrow _ ((kp.wk b).trans h1.2)
 refine NW ?_
 refine oW [(0, 0), (2, 0), (4, 0)] ?_ ?_
 ·(repeat (refine aO (bg rfl rfl rfl rfl rfl (Gq (cJ hr hr1) a0 a1 gN gM hel htk hl ho)) ?_)); exact bn
 refine dV a0 a1 gN gM ?_
 refine aj (bP a0 a1) ?_
 refine C.mono (cZ h1.1 _ _ uh (by decide)) ?_
 rintro _ σ2 h2
 clear gN gM hn
 obtain ⟨gN, gM, hn⟩ := iP hlt (h1.2.trans h2.2) (by decide) (by decide)
 refine dV a0 a1 gN gM ?_
 refine aj (bP a0 a1) ?_
 refine C.mono (Ii (E := fun _ => True) σ2 _ _ _ _ trivial h2.1) ?_
 rintro _ σ3 h3
 clear gN gM hn
 obtain ⟨gN, gM, hn⟩ := iP hlt (h1.2.trans (h2.2.trans h3.2)) (by decide) (by decide)
 refine dV a0 a1 gN gM ?_
 refine aj (bP a0 a1) ?_
 refine C.mono (cZ h3.1 _ _ kZ (by decide)) ?_
 rintro _ σ4 h4
 refine iO ?_
 refine gI ?_
 exact (h1.trans (h2.trans (h3.trans h4))).kp kp
theorem SN {b : Nat} {d i n : Int} {s t : ByteArray} {kids qs : List Tr} {x : Value} (hs : ∀ p ∈ kids, ShT 6 p) (hk : 0 < kids.length) {fo : Tr → WM} (hop : oL b d i 105 fo kids) (yK : ∀ p ∈ qs, ShT 10 p) (hq0 : 0 < qs.length) {fq : Tr → WM} (hq : oL b d i 63 fq qs) :
  Writes (aP b (kH 13 n s t kids qs) x) b d i 64 [.pointer (some ⟨b, 0, none⟩), x] (aQ (fo kids[0]) (aQ (tK n) (aQ (aK [uO]) (fq qs[0])))) := by
 intro σ s0 t0 td tl hx h
 have hlt := h.lt
 obtain ⟨vk, vq, rfl, rk, rq⟩ := qL hx
 have o4 := ay rk
 have o5 := ay rq
 replace rk : aP b (sl 6 kids) vk σ := rk
 replace rq : aP b (sl 10 qs) vq σ := rq
 have kp : Kp σ ((σ.push ⟨1, 48, 0, [.pointer (some ⟨b, 0, none⟩)]⟩).push ⟨1, 42, 0, [.int .i64 13, .int .i64 n, .string s, .string t, vk, vq]⟩) := ((Kp.refl σ).push _).push _
 refine fG Tryz.func64 Tryz.ntmps64 Tryz.results64 fun A hz a0 a1 => ?_
 obtain ⟨bb, p, q, c, cs, l, e, hrow, hel, htk, hx0, hl, ho⟩ := jl rk oM (j := 0) rfl (i := 0) (hk) (hs _ (List.getElem_mem _))
 subst e
 have hr := hrow _ (kp.wk b)
 have gK : ∀ B, (σ.push B).get (σ.next) = B := fun _ => aA
 refine aY a0 a1 o4 o5 (nQ 13 7) (nQ 13 8) (nQ 13 9) (eQ 13) ?_
 refine bY mixed (by kernel_rfl) (by kernel_rfl) ?_
 refine aa8 hr a0 a1 hel htk hl ho ?_
 refine bD (dD) ?_
 refine C.mono (hop _ (List.getElem_mem _) _ _ _ _ _ _ (aP.wk hx0 (kp.wk b)) (h.kp kp)) ?_
 rintro _ σ1 h1
 obtain ⟨gN, gM, hn⟩ := iP hlt h1.2 (by decide) (by decide)
 have hr1 := hrow _ ((kp.wk b).trans h1.2)
 refine NW ?_
 refine oW [(0, 0), (2, 0), (4, 0)] ?_ ?_
 ·(repeat (refine aO (bg rfl rfl rfl rfl rfl (Gq (cJ hr hr1) a0 a1 gN gM hel htk hl ho)) ?_)); exact bn
 refine dV a0 a1 gN gM ?_
 refine aj (bP a0 a1) ?_
 refine C.mono (Ii (E := fun _ => True) σ1 _ _ _ _ trivial h1.1) ?_
 rintro _ σ2 h2
 clear gN gM hn
 obtain ⟨gN, gM, hn⟩ := iP hlt (h1.2.trans h2.2) (by decide) (by decide)
 refine dV a0 a1 gN gM ?_
 refine aj (bP a0 a1) ?_
 refine C.mono (cZ h2.1 _ _ uO (by decide)) ?_
 rintro _ σ3 h3
 clear gN gM hn
 obtain ⟨gN, gM, hn⟩ := iP hlt (h1.2.trans (h2.2.trans h3.2)) (by decide) (by decide)
 obtain ⟨bbq, pq, qq, cq, csq, lq, eq, oQ, yw, yx, SQ, hlq, hoq⟩ := jl (aP.wk rq ((kp.wk b).trans (h1.2.trans (h2.2.trans h3.2)))) rE (j := 0) rfl (i := 0) (hq0) (yK _ (List.getElem_mem _))
 subst eq
 have yA := oQ _ (Wk.refl b _)
 refine gQ a0 a1 ?_
 refine bY mixed (by kernel_rfl) (by kernel_rfl) ?_
 refine NZ yA a0 a1 gN gM yw yx hlq hoq ?_
 refine bD (dD) ?_
 refine C.mono (hq _ (List.getElem_mem _) _ _ _ _ _ _ SQ h3.1) ?_
 rintro _ σ4 h4
 have JA := oQ _ h4.2
 have Vo := gN
 have YR := gM
 clear gN gM hn
 obtain ⟨gN, gM, hn⟩ := iP hlt (h1.2.trans (h2.2.trans (h3.2.trans h4.2))) (by decide) (by decide)
 refine NW ?_
 refine oW [(0, 0), (2, 0), (4, 0)] ?_ ?_
 ·(repeat (refine aO (bg rfl rfl rfl rfl rfl (Gq (cJ yA JA) a0 a1 gN gM Vo YR yw (cJ yx (cJ hlq hoq)))) ?_)); exact bn
 refine iO ?_
 refine gI ?_
 exact (h1.trans (h2.trans (h3.trans h4))).kp kp
theorem SV {b : Nat} {d i n : Int} {s t : ByteArray} {kids qs : List Tr} {x : Value} (hs : ∀ p ∈ kids, ShT 6 p) (hk : 0 < kids.length) (hk1 : 1 < kids.length) (hss : s.size ≤ 70000) {fo : Tr → WM} (hop : oL b d i 105 fo kids) :
  Writes (aP b (kH 10 n s t kids qs) x) b d i 64 [.pointer (some ⟨b, 0, none⟩), x] (aQ (fo kids[0]) (aQ (aK [s]) (fo kids[1]))) := by
 intro σ s0 t0 td tl hx h
 have hlt := h.lt
 obtain ⟨vk, vq, rfl, rk, rq⟩ := qL hx
 have o4 := ay rk
 have o5 := ay rq
 replace rk : aP b (sl 6 kids) vk σ := rk
 replace rq : aP b (sl 10 qs) vq σ := rq
 have kp : Kp σ ((σ.push ⟨1, 48, 0, [.pointer (some ⟨b, 0, none⟩)]⟩).push ⟨1, 42, 0, [.int .i64 10, .int .i64 n, .string s, .string t, vk, vq]⟩) := ((Kp.refl σ).push _).push _
 refine fG Tryz.func64 Tryz.ntmps64 Tryz.results64 fun A hz a0 a1 => ?_
 obtain ⟨bb, p, q, c, cs, l, e, hrow, hel, htk, hx0, hl, ho⟩ := jl rk oM (j := 0) rfl (i := 0) (hk) (hs _ (List.getElem_mem _))
 subst e
 have hr := hrow _ (kp.wk b)
 have gK : ∀ B, (σ.push B).get (σ.next) = B := fun _ => aA
 refine aY a0 a1 o4 o5 (nQ 10 7) (nQ 10 8) (nQ 10 9) (cJ (nQ 10 13) (eQ 10)) ?_
 refine bY mixed (by kernel_rfl) (by kernel_rfl) ?_
 refine aa8 hr a0 a1 hel htk hl ho ?_
 refine bD (dD) ?_
 refine C.mono (hop _ (List.getElem_mem _) _ _ _ _ _ _ (aP.wk hx0 (kp.wk b)) (h.kp kp)) ?_
 rintro _ σ1 h1
 obtain ⟨gN, gM, hn⟩ := iP hlt h1.2 (by decide) (by decide)
 have hr1 := hrow _ ((kp.wk b).trans h1.2)
 refine NW ?_
 refine oW [(0, 0), (2, 0), (4, 0)] ?_ ?_
 ·(repeat (refine aO (bg rfl rfl rfl rfl rfl (Gq (cJ hr hr1) a0 a1 gN gM hel htk hl ho)) ?_)); exact bn
 refine dV a0 a1 gN gM ?_
 refine aj (bP a0 a1) ?_
 refine C.mono (cZ h1.1 _ _ s (hss)) ?_
 rintro _ σ2 h2
 clear gN gM hn
 obtain ⟨gN, gM, hn⟩ := iP hlt (h1.2.trans h2.2) (by decide) (by decide)
 have rk0 : aP b (sl 6 kids) _ σ2 := aP.wk rk ((kp.wk b).trans (h1.2.trans h2.2))
 obtain ⟨bbq, pq, qq, cq, csq, lq, eq, oQ, yw, yx, SQ, hlq, hoq⟩ := jl rk0 oM (j := 1) rfl (i := 1) (hk1) (hs _ (List.getElem_mem _))
 cases eq
 have yA := oQ _ (Wk.refl b _)
 refine gQ a0 a1 ?_
 refine bY mixed (by kernel_rfl) (by kernel_rfl) ?_
 refine NZ yA a0 a1 gN gM yw yx hlq hoq ?_
 refine bD (dD) ?_
 refine C.mono (hop _ (List.getElem_mem _) _ _ _ _ _ _ SQ h2.1) ?_
 rintro _ σ3 h3
 have JA := oQ _ h3.2
 have Vo := gN
 have YR := gM
 clear gN gM hn
 obtain ⟨gN, gM, hn⟩ := iP hlt (h1.2.trans (h2.2.trans h3.2)) (by decide) (by decide)
 refine NW ?_
 refine oW [(0, 0), (2, 0), (4, 0)] ?_ ?_
 ·(repeat (refine aO (bg rfl rfl rfl rfl rfl (Gq (cJ yA JA) a0 a1 gN gM Vo YR yw (cJ yx (cJ hlq hoq)))) ?_)); exact bn
 refine iO ?_
 refine gI ?_
 exact (h1.trans (h2.trans h3)).kp kp
def Zm := kQ
theorem agA {A : Fr} {σ : AW} {d : Option Tmp} {ty : TypeId} {po : String} {af : Array Edge} {gd : Option (Nat × Bool)} {x y : Operand} : kQ Tryz.prog A σ ⟨d, .index 140 x y, ty, po, af, gd⟩ = match ev A x with
 | some (.agg ⟨[.string a, .string b, .string c]⟩) => match ev A y with
  | some (.int .i64 n) => if n = 0 then some (.string a, σ) else Zm Tryz.prog A σ ⟨d, .index 140 x y, ty, po, af, gd⟩
  | _ => Zm Tryz.prog A σ ⟨d, .index 140 x y, ty, po, af, gd⟩
 | _ => Zm Tryz.prog A σ ⟨d, .index 140 x y, ty, po, af, gd⟩ := by
 split
 ·rename_i a b c h1
  split
  ·rename_i n h2
   split
   ·rename_i hn
    subst hn
    simp only [kQ, h1, h2]
    have hb : byteAt Tryz.prog 140 (.agg ⟨[.string a, .string b, .string c]⟩) (.int .i64 0) = none := rfl
    rw [hb]
    unfold iD
    have hf : nS A ⟨d, .index 140 x y, ty, po, af, gd⟩ = true := by simp [nS, Op.operands, h1, h2, ni, uH]
    rw [if_pos hf]
    have he : aS Tryz.prog (execOp (CQ A) ⟨d, .index 140 x y, ty, po, af, gd⟩) = some (.value (.string a)) := by
     have e1 : CQ A x = .agg ⟨[.string a, .string b, .string c]⟩ := by unfold CQ; rw [h1]; rfl
     have e2 : CQ A y = .int .i64 0 := by unfold CQ; rw [h2]; rfl
     unfold execOp
     simp only [e1, e2]
     rfl
    rw [he]
    rfl
   ·rfl
  ·rfl
 ·rfl
theorem agB {A : Fr} {σ : AW} {d : Option Tmp} {ty : TypeId} {po : String} {af : Array Edge} {gd : Option (Nat × Bool)} {x y : Operand} : kQ Tryz.prog A σ ⟨d, .index 140 x y, ty, po, af, gd⟩ = match ev A x with
 | some (.agg ⟨[.string a, .string b, .string c]⟩) => match ev A y with
  | some (.int .i64 n) => if n = 1 then some (.string b, σ) else Zm Tryz.prog A σ ⟨d, .index 140 x y, ty, po, af, gd⟩
  | _ => Zm Tryz.prog A σ ⟨d, .index 140 x y, ty, po, af, gd⟩
 | _ => Zm Tryz.prog A σ ⟨d, .index 140 x y, ty, po, af, gd⟩ := by
 split
 ·rename_i a b c h1
  split
  ·rename_i n h2
   split
   ·rename_i hn
    subst hn
    simp only [kQ, h1, h2]
    have hb : byteAt Tryz.prog 140 (.agg ⟨[.string a, .string b, .string c]⟩) (.int .i64 1) = none := rfl
    rw [hb]
    unfold iD
    have hf : nS A ⟨d, .index 140 x y, ty, po, af, gd⟩ = true := by simp [nS, Op.operands, h1, h2, ni, uH]
    rw [if_pos hf]
    have he : aS Tryz.prog (execOp (CQ A) ⟨d, .index 140 x y, ty, po, af, gd⟩) = some (.value (.string b)) := by
     have e1 : CQ A x = .agg ⟨[.string a, .string b, .string c]⟩ := by unfold CQ; rw [h1]; rfl
     have e2 : CQ A y = .int .i64 1 := by unfold CQ; rw [h2]; rfl
     unfold execOp
     simp only [e1, e2]
     rfl
    rw [he]
    rfl
   ·rfl
  ·rfl
 ·rfl
theorem agC {A : Fr} {σ : AW} {d : Option Tmp} {ty : TypeId} {po : String} {af : Array Edge} {gd : Option (Nat × Bool)} {x y : Operand} : kQ Tryz.prog A σ ⟨d, .index 140 x y, ty, po, af, gd⟩ = match ev A x with
 | some (.agg ⟨[.string a, .string b, .string c]⟩) => match ev A y with
  | some (.int .i64 n) => if n = 2 then some (.string c, σ) else Zm Tryz.prog A σ ⟨d, .index 140 x y, ty, po, af, gd⟩
  | _ => Zm Tryz.prog A σ ⟨d, .index 140 x y, ty, po, af, gd⟩
 | _ => Zm Tryz.prog A σ ⟨d, .index 140 x y, ty, po, af, gd⟩ := by
 split
 ·rename_i a b c h1
  split
  ·rename_i n h2
   split
   ·rename_i hn
    subst hn
    simp only [kQ, h1, h2]
    have hb : byteAt Tryz.prog 140 (.agg ⟨[.string a, .string b, .string c]⟩) (.int .i64 2) = none := rfl
    rw [hb]
    unfold iD
    have hf : nS A ⟨d, .index 140 x y, ty, po, af, gd⟩ = true := by simp [nS, Op.operands, h1, h2, ni, uH]
    rw [if_pos hf]
    have he : aS Tryz.prog (execOp (CQ A) ⟨d, .index 140 x y, ty, po, af, gd⟩) = some (.value (.string c)) := by
     have e1 : CQ A x = .agg ⟨[.string a, .string b, .string c]⟩ := by unfold CQ; rw [h1]; rfl
     have e2 : CQ A y = .int .i64 2 := by unfold CQ; rw [h2]; rfl
     unfold execOp
     simp only [e1, e2]
     rfl
    rw [he]
    rfl
   ·rfl
  ·rfl
 ·rfl
theorem SX {b : Nat} {d i : Int} {kids : List Tr} {v : Value} (hs : ∀ p ∈ kids, ShT 6 p) (hk : kids.length = 3) {fi : Tr → WM} (hin : oK b d i fi kids) :
  Writes (aP b (sl 6 kids) v) b d i 62 [.pointer (some ⟨b, 0, none⟩), v] (aQ (aK [vK]) (aQ (aK [lX]) (aQ (fi kids[0]) (aQ (aK [lY]) (aQ (fi kids[1]) (aQ (aK [jP]) (aQ (fi kids[2]) (aK [EO])))))))) := by
 intro σ s0 t0 td tl hx h
 have hlt := h.lt
 refine fG Tryz.func62 Tryz.ntmps62 Tryz.results62 fun A hz a0 a1 => ?_
 refine gQ a0 a1 ?_
 refine aj (bP a0 a1) ?_
 refine C.mono (cZ h _ _ vK (by decide)) ?_
 rintro _ τ0 g0
 have k0 := g0.2
 refine gQ a0 a1 ?_
 apply dB
 apply nY
 refine dV a0 a1 (show decide ((0 : Int) < 3) = true from rfl) @agA ?_
 refine aj (bP a0 a1) ?_
 refine C.mono (cZ g0.1 _ _ lX (by decide)) ?_
 rintro _ τ1 g1
 have k1 := k0.trans g1.2
 obtain ⟨bb0, p0, q0, c0, cs0, l0, e0, hrow0, Zf, agD, hx0, hl0, ho0⟩ := jl (aP.wk hx k1) oM (j := 0) rfl (i := 0) (by omega) (hs _ (List.getElem_mem _))
 have hr0 := hrow0 _ (Wk.refl b _)
 have a10 := a1
 rw [e0] at a10
 refine Ve hr0 a0 a10 Zf agD hl0 ho0 ?_
 refine aj (bP a0 a1) ?_
 refine C.mono (hin _ (List.getElem_mem _) _ _ _ _ _ _ hx0 g1.1) ?_
 rintro _ τ2 g2
 have k2 := k1.trans g2.2
 have adS : aT .add (.int .i64 0) (.int .i64 1) = some (.int .i64 1) := rfl
 refine dS a0 a1 adS ?_
 apply nY
 refine dV a0 a1 (show decide ((1 : Int) < 3) = true from rfl) @agB ?_
 refine aj (bP a0 a1) ?_
 refine C.mono (cZ g2.1 _ _ lY (by decide)) ?_
 rintro _ τ3 g3
 have k3 := k2.trans g3.2
 obtain ⟨bb1, p1, q1, c1, cs1, l1, e1, hrow1, agE, agF, hx1, hl1, ho1⟩ := jl (aP.wk hx k3) oM (j := 1) rfl (i := 1) (by omega) (hs _ (List.getElem_mem _))
 have hr1 := hrow1 _ (Wk.refl b _)
 have a11 := a1
 rw [e1] at a11
 refine Ve hr1 a0 a11 agE agF hl1 ho1 ?_
 refine aj (bP a0 a1) ?_
 refine C.mono (hin _ (List.getElem_mem _) _ _ _ _ _ _ hx1 g3.1) ?_
 rintro _ τ4 g4
 have k4 := k3.trans g4.2
 have adT : aT .add (.int .i64 1) (.int .i64 1) = some (.int .i64 2) := rfl
 refine dS a0 a1 adT ?_
 apply nY
 refine dV a0 a1 (show decide ((2 : Int) < 3) = true from rfl) @agC ?_
 refine aj (bP a0 a1) ?_
 refine C.mono (cZ g4.1 _ _ jP (by decide)) ?_
 rintro _ τ5 g5
 have k5 := k4.trans g5.2
 obtain ⟨bb2, p2, q2, c2, cs2, l2, e2, hrow2, agG, agH, hx2, hl2, ho2⟩ := jl (aP.wk hx k5) oM (j := 2) rfl (i := 2) (by omega) (hs _ (List.getElem_mem _))
 have hr2 := hrow2 _ (Wk.refl b _)
 have a12 := a1
 rw [e2] at a12
 refine Ve hr2 a0 a12 agG agH hl2 ho2 ?_
 refine aj (bP a0 a1) ?_
 refine C.mono (hin _ (List.getElem_mem _) _ _ _ _ _ _ hx2 g5.1) ?_
 rintro _ τ6 g6
 have k6 := k5.trans g6.2
 have adU : aT .add (.int .i64 2) (.int .i64 1) = some (.int .i64 3) := rfl
 refine dS a0 a1 adU ?_
 apply nY
 refine dS a0 a1 (show decide ((3 : Int) < 3) = false from rfl) ?_
 refine iH ?_; simp only [Then, Out, iy, reduceIte, Nat.reduceEqDiff]
 refine gQ a0 a1 ?_
 refine aj (bP a0 a1) ?_
 refine C.mono (cZ g6.1 _ _ EO (by decide)) ?_
 rintro _ τ7 g7
 refine iO ?_
 refine gI ?_
 exact g0.trans (g1.trans (g2.trans (g3.trans (g4.trans (g5.trans (g6.trans g7))))))
theorem Qs {σ : AW} {D : Nat → Prop} {k : Int} {v : Bool} {t a : ByteArray} {q kids on : List Tr} {v1 v2 v3 : Value} (h1 : Rd σ D (sl 10 q) v1) (h2 : Rd σ D (sl 7 kids) v2) (h3 : Rd σ D (sl 6 on) v3) : Rd σ D (DZ k v t a q kids on) (.agg ⟨[.int .i64 k, .string t, .bool v, .string a, v1, v2, v3]⟩) := (BK h1 h2 h3).1
theorem WJ {σ : AW} {D : Nat → Prop} {k : Int} {d : Bool} {n : Int} {items froms wh gr ha or kids : List Tr} {v1 v2 v3 v4 v5 v6 v7 : Value} (h1 : Rd σ D (sl 7 items) v1) (h2 : Rd σ D (sl 7 froms) v2) (h3 : Rd σ D (sl 6 wh) v3) (h4 : Rd σ D (sl 6 gr) v4) (h5 : Rd σ D (sl 6 ha) v5) (h6 : Rd σ D (sl 7 or) v6) (h7 : Rd σ D (sl 10 kids) v7) : Rd σ D (DL k d n items froms wh gr ha or kids) (.agg ⟨[.int .i64 k, .bool d, v1, v2, v3, v4, v5, v6, .int .i64 n, v7]⟩) := (I9 h1 h2 h3 h4 h5 h6 h7).1
theorem zx {b w z : Nat} {ws : List ByteArray} {σ σ' : AW} (h : σ.get w = ⟨1, 9, z, ws.map Value.string⟩) (hn : w < σ.next) (hb : w ≠ b) (k : Wk b σ σ') : σ'.get w = ⟨1, 9, z, ws.map Value.string⟩ ∧ w < σ'.next :=
 ⟨(k.get w hn hb (by rw [h]; show (9 : Nat) ≠ 5; decide)).trans h, Nat.lt_of_lt_of_le hn k.next⟩
theorem WO {b : Nat} {d i k : Int} {v : Bool} {t a : ByteArray} {q kids on : List Tr} {x : Value} (ht : t.size ≤ 70000) (ha : a.size ≤ 70000) :
  Writes (aP b (DZ k v t a q kids on) x) b d i 209 [.pointer (some ⟨b, 0, none⟩), x] (aQ (aK [t]) (aQ (if v then aK [fO] else dW) (if a = t then dW else aK [mM, a]))) := by
 intro σ s0 t0 td tl hx h
 have hlt := h.lt
 obtain ⟨v1, v2, v3, rfl, r1, r2, r3⟩ := FD hx
 have o4 := ay r1
 have o5 := ay r2
 have o6 := ay r3
 replace r1 : aP b (sl 10 q) v1 σ := r1
 replace r2 : aP b (sl 7 kids) v2 σ := r2
 replace r3 : aP b (sl 6 on) v3 σ := r3
 have kp : Kp σ (σ.push ⟨1, 92, 0, [.int .i64 k, .string t, .bool v, .string a, v1, v2, v3]⟩) := (Kp.refl σ).push _
 refine fG Tryz.func209 Tryz.ntmps209 Tryz.results209 fun A hz a0 a1 => ?_
 refine jy a0 a1 o4 o5 o6 ?_
 refine aj (bP a0 a1) ?_
 refine C.mono (cZ (h.kp kp) _ _ t (by exact ht)) ?_
 rintro _ σ1 h1
 have gN := (box1 hlt h1.2 (by decide)).1
 have hn := (box1 hlt h1.2 (by decide)).2
 cases v with
 | true =>
  refine kR a0 a1 gN o4 o5 o6 ?_
  refine aj (bP a0 a1) ?_
  refine C.mono (cZ h1.1 _ _ fO (by decide)) ?_
  rintro _ σ2 h2
  have gN := (box1 hlt (h1.2.trans h2.2) (by decide)).1
  have hn := (box1 hlt (h1.2.trans h2.2) (by decide)).2
  by_cases hat : a = t
  ·rw [if_pos hat]
   have c1 : (!decide (a = t)) = false := by simp [hat]
   refine nH a0 a1 gN o4 o5 o6 c1 ?_
   have h3 := Wrote.nil (v := .tuple #[]) h2.1
   refine nH a0 a1 gN o4 o5 o6 c1 ?_
   refine gI ?_
   exact (h1.trans (h2.trans (h3))).kp kp
  ·rw [if_neg hat]
   have c1 : (!decide (a = t)) = true := by simp [hat]
   refine nH a0 a1 gN o4 o5 o6 c1 ?_
   refine aj (bP a0 a1) ?_
   have sz2 : ∀ z ∈ [mM, a], ByteArray.size z ≤ 70000 := fun z hz => by
    simp only [List.mem_cons, List.not_mem_nil, or_false] at hz
    rcases hz with rfl | rfl
    ·decide
    ·exact ha
   refine C.mono (mg h2.1 _ _ [mM, a] (show 2 ≤ 1000 by decide) sz2) ?_
   rintro _ σ3 h3
   have gN := (box1 hlt (h1.2.trans (h2.2.trans h3.2)) (by decide)).1
   have hn := (box1 hlt (h1.2.trans (h2.2.trans h3.2)) (by decide)).2
   refine kR a0 a1 gN o4 o5 o6 ?_
   refine gI ?_
   exact (h1.trans (h2.trans (h3))).kp kp
 | false =>
  refine kR a0 a1 gN o4 o5 o6 ?_
  have h2 := Wrote.nil (v := .tuple #[]) h1.1
  by_cases hat : a = t
  ·rw [if_pos hat]
   have c1 : (!decide (a = t)) = false := by simp [hat]
   refine nH a0 a1 gN o4 o5 o6 c1 ?_
   have h3 := Wrote.nil (v := .tuple #[]) h2.1
   refine nH a0 a1 gN o4 o5 o6 c1 ?_
   refine gI ?_
   exact (h1.trans (h2.trans (h3))).kp kp
  ·rw [if_neg hat]
   have c1 : (!decide (a = t)) = true := by simp [hat]
   refine nH a0 a1 gN o4 o5 o6 c1 ?_
   refine aj (bP a0 a1) ?_
   have sz2 : ∀ z ∈ [mM, a], ByteArray.size z ≤ 70000 := fun z hz => by
    simp only [List.mem_cons, List.not_mem_nil, or_false] at hz
    rcases hz with rfl | rfl
    ·decide
    ·exact ha
   refine C.mono (mg h2.1 _ _ [mM, a] (show 2 ≤ 1000 by decide) sz2) ?_
   rintro _ σ3 h3
   have gN := (box1 hlt (h1.2.trans (h2.2.trans h3.2)) (by decide)).1
   have hn := (box1 hlt (h1.2.trans (h2.2.trans h3.2)) (by decide)).2
   refine kR a0 a1 gN o4 o5 o6 ?_
   refine gI ?_
   exact (h1.trans (h2.trans (h3))).kp kp
theorem Qu {w c z : Nat} {ws : List ByteArray} {b : Nat} {d i k : Int} {v : Bool} {t a : ByteArray} {q kids on : List Tr} {x : Value} (hkl : kids.length = 2) (hks : ∀ p ∈ kids, ShT 7 p) {ff : Tr → WM} (hf : oL b d i 197 ff kids) {fi : Tr → WM} (hol : on.length ≤ 1000000) (hos : ∀ p ∈ on, ShT 6 p) (hin : oK b d i fi on) (hwl : ws.length ≤ 1000) (hwx : ∀ x ∈ ws, x.size ≤ 70000) :
  Writes (fun σ => aP b (DZ k v t a q kids on) x σ ∧ σ.get w = ⟨1, 9, z, ws.map Value.string⟩ ∧ w < σ.next ∧ w ≠ b) b d i 210 [.pointer (some ⟨b, 0, none⟩), x, .slice (some ⟨w, 0, none⟩) ws.length c] (aQ (ff kids[0]) (aQ (aK ws) (aQ (ff kids[1]) (if on = [] then dW else aQ (aK [BD]) (dh (on.map fi)))))) := by
 intro σ s0 t0 td tl ⟨hx, hw, hwn, hwb⟩ h
 have hlt := h.lt
 obtain ⟨v1, v2, v3, rfl, r1, r2, r3⟩ := FD hx
 have o4 := ay r1
 have o5 := ay r2
 have o6 := ay r3
 replace r1 : aP b (sl 10 q) v1 σ := r1
 replace r2 : aP b (sl 7 kids) v2 σ := r2
 replace r3 : aP b (sl 6 on) v3 σ := r3
 have kp : Kp σ (σ.push ⟨1, 92, 0, [.int .i64 k, .string t, .bool v, .string a, v1, v2, v3]⟩) := (Kp.refl σ).push _
 refine Ld Tryz.func210 Tryz.ntmps210 Tryz.results210 fun A hz a0 a1 a2 => ?_
 obtain ⟨bbA, pA, qA, cA, csA, lA, eA, MK, WR, WT, hxA, hlA, X7⟩ := jl (aP.wk r2 (kp.wk b)) yE (j := 0) rfl (i := 0) (by omega) (hks _ (List.getElem_mem _))
 have hrA := MK _ (Wk.refl b _)
 subst eA
 refine iC hrA a0 a1 a2 o4 o5 o6 WR (cJ WT (cJ hlA X7)) ?_
 refine aj (bP a0 a1) ?_
 refine C.mono (hf _ (List.getElem_mem _) _ _ _ _ _ _ hxA (h.kp kp)) ?_
 rintro _ σ1 h1
 have gN := (box1 hlt h1.2 (by decide)).1
 have hn := (box1 hlt h1.2 (by decide)).2
 have hw1 := zx hw hwn hwb ((kp.wk b).trans h1.2)
 refine nH a0 a1 gN a2 o4 o5 o6 ?_
 refine aj (bP a0 a2) ?_
 refine C.mono (OI h1.1 hw1.1 (by decide) hwb hw1.2 hwl hwx) ?_
 rintro _ σ2 h2
 have gN := (box1 hlt (h1.2.trans h2.2) (by decide)).1
 have hn := (box1 hlt (h1.2.trans h2.2) (by decide)).2
 have rk0 : aP b (sl 7 kids) _ σ2 := aP.wk r2 ((kp.wk b).trans (h1.2.trans h2.2))
 obtain ⟨bbB, pB, qB, cB, csB, lB, eB, WU, Zn, Zo, hxB, hlB, hoB⟩ := jl rk0 yE (j := 1) rfl (i := 1) (by omega) (hks _ (List.getElem_mem _))
 have hrB := WU _ (Wk.refl b _)
 cases eB
 refine iC hrB a0 a1 gN a2 o4 o5 o6 (cJ Zn (cJ Zo (cJ hlB hoB))) ?_
 refine aj (bP a0 a1) ?_
 refine C.mono (hf _ (List.getElem_mem _) _ _ _ _ _ _ hxB h2.1) ?_
 rintro _ σ3 h3
 have gN := (box1 hlt (h1.2.trans (h2.2.trans h3.2)) (by decide)).1
 have hn := (box1 hlt (h1.2.trans (h2.2.trans h3.2)) (by decide)).2
 refine nH a0 a1 gN a2 o4 o5 o6 ?_
 refine aj (bP a0 a1) ?_
 have OU : ∀ B, Kp σ3 (σ3.push B) := fun B => (Kp.refl _).push B
 have lb3 := h3.1.lt
 refine C.mono (wo (fi := fi) (ws := [BD]) hol hos hin (show 1 ≤ 1000 by decide) (by decide) _ _ _ _ _ ⟨aP.wk r3 (((kp.wk b).trans (h1.2.trans (h2.2.trans h3.2))).trans ((OU _).wk b)), aA, by rw [ah]; omega, by omega⟩ (h3.1.kp (OU _))) ?_
 rintro _ σ4 g4
 have h4 := g4.kp (OU _)
 have gN := (box1 hlt (h1.2.trans (h2.2.trans (h3.2.trans h4.2))) (by decide)).1
 have hn := (box1 hlt (h1.2.trans (h2.2.trans (h3.2.trans h4.2))) (by decide)).2
 refine nH a0 a1 gN a2 o4 o5 o6 ?_
 refine gI ?_
 exact (h1.trans (h2.trans (h3.trans (h4)))).kp kp
theorem WV {b : Nat} {d i : Int} {v : Bool} {t a : ByteArray} {q kids on : List Tr} {x : Value} (ht : t.size ≤ 70000) (ha : a.size ≤ 70000) :
  Writes (aP b (DZ 1 v t a q kids on) x) b d i 197 [.pointer (some ⟨b, 0, none⟩), x] (aQ (aK [t]) (aQ (if v then aK [fO] else dW) (if a = t then dW else aK [mM, a]))) := by
 intro σ s0 t0 td tl hx h
 have hlt := h.lt
 obtain ⟨v1, v2, v3, rfl, r1, r2, r3⟩ := FD hx
 have o4 := ay r1
 have o5 := ay r2
 have o6 := ay r3
 replace r1 : aP b (sl 10 q) v1 σ := r1
 replace r2 : aP b (sl 7 kids) v2 σ := r2
 replace r3 : aP b (sl 6 on) v3 σ := r3
 have kp : Kp σ (σ.push ⟨1, 92, 0, [.int .i64 1, .string t, .bool v, .string a, v1, v2, v3]⟩) := (Kp.refl σ).push _
 refine fG Tryz.func197 Tryz.ntmps197 Tryz.results197 fun A hz a0 a1 => ?_
 refine kR a0 a1 o4 o5 o6 (eQ 1) ?_
 refine aj (bP a0 a1) ?_
 refine C.mono (WO ht ha _ _ _ _ _ (aP.wk (Qs r1 r2 r3) (kp.wk b)) (h.kp kp)) ?_
 rintro _ σ1 h1
 have gN := (box1 hlt h1.2 (by decide)).1
 have hn := (box1 hlt h1.2 (by decide)).2
 refine kR a0 a1 gN o4 o5 o6 ?_
 refine gI ?_
 exact (h1).kp kp
theorem WW {b : Nat} {d i : Int} {v : Bool} {t a : ByteArray} {q kids on : List Tr} {x : Value} (ha : a.size ≤ 70000) (yK : ∀ p ∈ q, ShT 10 p) (hq0 : 0 < q.length) {fq : Tr → WM} (hq : oL b d i 63 fq q) :
  Writes (aP b (DZ 2 v t a q kids on) x) b d i 197 [.pointer (some ⟨b, 0, none⟩), x] (aQ (fq q[0]) (aK [mM, a])) := by
 intro σ s0 t0 td tl hx h
 have hlt := h.lt
 obtain ⟨v1, v2, v3, rfl, r1, r2, r3⟩ := FD hx
 have o4 := ay r1
 have o5 := ay r2
 have o6 := ay r3
 replace r1 : aP b (sl 10 q) v1 σ := r1
 replace r2 : aP b (sl 7 kids) v2 σ := r2
 replace r3 : aP b (sl 6 on) v3 σ := r3
 have kp : Kp σ (σ.push ⟨1, 92, 0, [.int .i64 2, .string t, .bool v, .string a, v1, v2, v3]⟩) := (Kp.refl σ).push _
 refine fG Tryz.func197 Tryz.ntmps197 Tryz.results197 fun A hz a0 a1 => ?_
 obtain ⟨bbA, pA, qA, cA, csA, lA, eA, MK, WR, WT, hxA, hlA, X7⟩ := jl (aP.wk r1 (kp.wk b)) rE (j := 0) rfl (i := 0) (hq0) (yK _ (List.getElem_mem _))
 have hrA := MK _ (Wk.refl b _)
 subst eA
 refine iC hrA a0 a1 o4 o5 o6 (nQ 2 1) (eQ 2) (cJ WR (cJ WT (cJ hlA X7))) ?_
 refine aj (bP a0 a1) ?_
 refine C.mono (hq _ (List.getElem_mem _) _ _ _ _ _ _ hxA (h.kp kp)) ?_
 rintro _ σ1 h1
 have gN := (box1 hlt h1.2 (by decide)).1
 have hn := (box1 hlt h1.2 (by decide)).2
 refine kR a0 a1 gN o4 o5 o6 ?_
 refine aj (bP a0 a1) ?_
 have sz1 : ∀ z ∈ [mM, a], ByteArray.size z ≤ 70000 := fun z hz => by
   simp only [List.mem_cons, List.not_mem_nil, or_false] at hz
   rcases hz with rfl | rfl
   ·decide
   ·exact ha
 refine C.mono (mg h1.1 _ _ [mM, a] (show 2 ≤ 1000 by decide) sz1) ?_
 rintro _ σ2 h2
 have gN := (box1 hlt (h1.2.trans h2.2) (by decide)).1
 have hn := (box1 hlt (h1.2.trans h2.2) (by decide)).2
 refine kR a0 a1 gN o4 o5 o6 ?_
 refine gI ?_
 exact (h1.trans (h2)).kp kp
theorem WX {b : Nat} {d i : Int} {v : Bool} {t a : ByteArray} {q kids on : List Tr} {x : Value} (hkl : kids.length = 2) (hks : ∀ p ∈ kids, ShT 7 p) {ff : Tr → WM} (hf : oL b d i 197 ff kids) {fi : Tr → WM} (hol : on.length ≤ 1000000) (hos : ∀ p ∈ on, ShT 6 p) (hin : oK b d i fi on) :
  Writes (aP b (DZ 3 v t a q kids on) x) b d i 197 [.pointer (some ⟨b, 0, none⟩), x] (aQ (ff kids[0]) (aQ (aK [lZ]) (aQ (ff kids[1]) (if on = [] then dW else aQ (aK [BD]) (dh (on.map fi)))))) := by
 intro σ s0 t0 td tl hx h
 have hlt := h.lt
 obtain ⟨v1, v2, v3, rfl, r1, r2, r3⟩ := FD hx
 have o4 := ay r1
 have o5 := ay r2
 have o6 := ay r3
 replace r1 : aP b (sl 10 q) v1 σ := r1
 replace r2 : aP b (sl 7 kids) v2 σ := r2
 replace r3 : aP b (sl 6 on) v3 σ := r3
 have kp : Kp σ (σ.push ⟨1, 92, 0, [.int .i64 3, .string t, .bool v, .string a, v1, v2, v3]⟩) := (Kp.refl σ).push _
 refine fG Tryz.func197 Tryz.ntmps197 Tryz.results197 fun A hz a0 a1 => ?_
 refine aY a0 a1 o4 o5 o6 (nQ 3 1) (nQ 3 2) (eQ 3) ?_
 refine aj (bP a0 a1) ?_
 have kq : ∀ B, Kp σ ((σ.push ⟨1, 92, 0, [.int .i64 3, .string t, .bool v, .string a, v1, v2, v3]⟩).push B) := fun B => kp.push B
 refine C.mono (Qu (ws := [lZ]) hkl hks hf hol hos hin (show 1 ≤ 1000 by decide) (by decide) _ _ _ _ _ ⟨aP.wk (Qs r1 r2 r3) ((kq _).wk b), aA, (show σ.next + 1 < σ.next + 2 by omega), (show σ.next + 1 ≠ b by omega)⟩ (h.kp (kq _))) ?_
 rintro _ σ1 h1
 refine iO ?_
 refine gI ?_
 exact h1.kp (kq _)
theorem WY {b : Nat} {d i : Int} {v : Bool} {t a : ByteArray} {q kids on : List Tr} {x : Value} (hkl : kids.length = 2) (hks : ∀ p ∈ kids, ShT 7 p) {ff : Tr → WM} (hf : oL b d i 197 ff kids) {fi : Tr → WM} (hol : on.length ≤ 1000000) (hos : ∀ p ∈ on, ShT 6 p) (hin : oK b d i fi on) :
  Writes (aP b (DZ 4 v t a q kids on) x) b d i 197 [.pointer (some ⟨b, 0, none⟩), x] (aQ (ff kids[0]) (aQ (aK [o8, lZ]) (aQ (ff kids[1]) (if on = [] then dW else aQ (aK [BD]) (dh (on.map fi)))))) := by
 intro σ s0 t0 td tl hx h
 have hlt := h.lt
 obtain ⟨v1, v2, v3, rfl, r1, r2, r3⟩ := FD hx
 have o4 := ay r1
 have o5 := ay r2
 have o6 := ay r3
 replace r1 : aP b (sl 10 q) v1 σ := r1
 replace r2 : aP b (sl 7 kids) v2 σ := r2
 replace r3 : aP b (sl 6 on) v3 σ := r3
 have kp : Kp σ (σ.push ⟨1, 92, 0, [.int .i64 4, .string t, .bool v, .string a, v1, v2, v3]⟩) := (Kp.refl σ).push _
 refine fG Tryz.func197 Tryz.ntmps197 Tryz.results197 fun A hz a0 a1 => ?_
 refine aY a0 a1 o4 o5 o6 (nQ 4 1) (nQ 4 2) (cJ (nQ 4 3) (eQ 4)) ?_
 refine aj (bP a0 a1) ?_
 have kq : ∀ B, Kp σ ((σ.push ⟨1, 92, 0, [.int .i64 4, .string t, .bool v, .string a, v1, v2, v3]⟩).push B) := fun B => kp.push B
 refine C.mono (Qu (ws := [o8, lZ]) hkl hks hf hol hos hin (show 2 ≤ 1000 by decide) (by decide) _ _ _ _ _ ⟨aP.wk (Qs r1 r2 r3) ((kq _).wk b), aA, (show σ.next + 1 < σ.next + 2 by omega), (show σ.next + 1 ≠ b by omega)⟩ (h.kp (kq _))) ?_
 rintro _ σ1 h1
 refine iO ?_
 refine gI ?_
 exact h1.kp (kq _)
theorem Ij {ps : List Tr} (g : Tr → WM) {j : Nat} (h : j < ps.length) : fK ((ps.take (j + 1)).map g) = aQ (fK ((ps.take j).map g)) (g ps[j]) := by
 have e : ps.take (j + 1) = ps.take j ++ [ps[j]] := by rw [List.take_add_one, List.getElem?_eq_getElem h]; rfl
 rw [e, List.map_append, Az]
 show aQ _ (aQ _ dW) = _
 rw [jv]
theorem ML {b : Nat} {d i k n : Int} {di : Bool} {items froms wh gr ha or kids : List Tr} {x : Value} {fit fky fi ff : Tr → WM} (Qv : items.length ≤ 1000000) (hsi : ∀ p ∈ items, ShT 7 p) (hit : oL b d i 196 fit items) (hlf : froms.length ≤ 1000000) (hsf : ∀ p ∈ froms, ShT 7 p) (FY : oL b d i 197 ff froms) (hlo : or.length ≤ 1000000) (hso : ∀ p ∈ or, ShT 7 p) (hky : oL b d i 199 fky or) (MN : wh.length ≤ 1000000) (MO : ∀ p ∈ wh, ShT 6 p) (MP : oK b d i fi wh) (adY : gr.length ≤ 1000000) (adZ : ∀ p ∈ gr, ShT 6 p) (ad4 : oK b d i fi gr) (ad5 : ha.length ≤ 1000000) (ad6 : ∀ p ∈ ha, ShT 6 p) (ad7 : oK b d i fi ha) (hn0 : -9223372036854775808 ≤ n) (hn1 : n ≤ 9223372036854775807) :
  Writes (aP b (DL k di n items froms wh gr ha or kids) x) b d i 175 [.pointer (some ⟨b, 0, none⟩), x] (aQ (aQ (aQ (aQ (aQ (aQ (aQ (aQ (aK [eX]) (if di then aK [eH] else dW)) (dh (items.map fit))) (fK (froms.map fun f => aQ (aK [lg]) (ff f)))) (if wh = [] then dW else aQ (aK [jm]) (dh (wh.map fi)))) (if gr = [] then dW else aQ (aK [lJ, xu]) (dh (gr.map fi)))) (if ha = [] then dW else aQ (aK [oh]) (dh (ha.map fi)))) (if or = [] then dW else aQ (aK [mW, xu]) (dh (or.map fky)))) (if n = -1 then dW else aK [oq, Gw n])) := by
 intro σ s0 t0 td tl hx h
 have hlt := h.lt
 obtain ⟨v1, v2, v3, v4, v5, v6, v7, rfl, r1, r2, r3, r4, r5, r6, r7⟩ := Jw hx
 have o1 := ay r1
 have o2 := ay r2
 have o3 := ay r3
 have o4 := ay r4
 have o5 := ay r5
 have o6 := ay r6
 have o7 := ay r7
 replace r1 : aP b (sl 7 items) v1 σ := r1
 replace r2 : aP b (sl 7 froms) v2 σ := r2
 replace r3 : aP b (sl 6 wh) v3 σ := r3
 replace r4 : aP b (sl 6 gr) v4 σ := r4
 replace r5 : aP b (sl 6 ha) v5 σ := r5
 replace r6 : aP b (sl 7 or) v6 σ := r6
 replace r7 : aP b (sl 10 kids) v7 σ := r7
 have kp : Kp σ (σ.push ⟨1, 61, 0, [.int .i64 k, .bool di, v1, v2, v3, v4, v5, v6, .int .i64 n, v7]⟩) := (Kp.refl σ).push _
 refine fG Tryz.func175 Tryz.ntmps175 Tryz.results175 fun A hz a0 a1 => ?_
 refine aY a0 a1 o1 o2 o3 o4 o5 (cJ o6 o7) ?_
 refine aj (bP a0 a1) ?_
 refine C.mono (cZ (h.kp kp) _ _ (eX) (by decide)) ?_
 rintro _ σ1 h1
 have H1 := h1
 have gN := (box1 hlt H1.2 (by decide)).1
 have hn := (box1 hlt H1.2 (by decide)).2
 repeat (first | apply C9 | apply zD | ((first | apply zC | (refine' zG rfl rfl ?_ ?_; rotate_left)); (focus (first | exact kC a0 a1 gN o1 o2 o3 o4 (cJ o5 (cJ o6 o7)) | fail)); with_reducible first | apply zF | apply g_1 | apply g_2 | apply jO | apply lV) | apply Dc | apply b_k | apply Bj | apply yD)
 refine WB (fun B σ1 => B.size = 71 ∧ B.get 0 = some (.pointer (some ⟨b, 0, none⟩)) ∧ B.get 3 = some (.pointer (some ⟨σ.next, 0, none⟩)) ∧ Wrote b d i (σ.push ⟨1, 61, 0, [.int .i64 k, .bool di, v1, v2, v3, v4, v5, v6, .int .i64 n, v7]⟩) s0 t0 td tl (aQ (aK [eX]) (if di then aK [eH] else dW)) (.tuple #[]) σ1) ?_ ?_
 ·cases di with
  | true =>
   refine aY a0 a1 gN o1 o2 o3 o4 (cJ o5 (cJ o6 o7)) ?_
   refine aj (bP a0 a1) ?_
   refine C.mono (cZ H1.1 _ _ (eH) (by decide)) ?_
   rintro _ σ2 h2
   have H2 := H1.trans h2
   have gN := (box1 hlt H2.2 (by decide)).1
   have hn := (box1 hlt H2.2 (by decide)).2
   refine aY a0 a1 gN o1 o2 o3 o4 (cJ o5 (cJ o6 o7)) ?_
   exact (by refine' ⟨?_, ?_, ?_, H2⟩; any_goals (first | exact kC a0 a1 gN o1 o2 o3 o4 (cJ o5 (cJ o6 o7)) | fail))
  | false =>
   refine aY a0 a1 gN o1 o2 o3 o4 (cJ o5 (cJ o6 o7)) ?_
   have H2 := H1.trans (Wrote.nil (v := .tuple #[]) H1.1)
   have gN := (box1 hlt H2.2 (by decide)).1
   have hn := (box1 hlt H2.2 (by decide)).2
   refine aY a0 a1 gN o1 o2 o3 o4 (cJ o5 (cJ o6 o7)) ?_
   exact (by refine' ⟨?_, ?_, ?_, H2⟩; any_goals (first | exact kC a0 a1 gN o1 o2 o3 o4 (cJ o5 (cJ o6 o7)) | fail))
 rintro B σ2 ⟨hz, a0, a3, H2⟩
 have gN := (box1 hlt H2.2 (by decide)).1
 have hn := (box1 hlt H2.2 (by decide)).2
 refine aY a0 a3 gN o1 o2 o3 o4 (cJ o5 (cJ o6 o7)) ?_
 refine aj (bP a0 a3) ?_
 refine C.mono (Wv (E := fun _ => True) (fs := [.pointer (some ⟨b, 0, none⟩)]) (cs := []) ou Qv hsi (fun p hp x => (hit p hp x).weak fun _ h => h.2) _ _ _ _ _ ⟨trivial, aP.wk r1 ((kp.wk b).trans H2.2)⟩ H2.1) ?_
 rintro _ σ3 h3
 have H3 := H2.trans h3
 have gN := (box1 hlt H3.2 (by decide)).1
 have hn := (box1 hlt H3.2 (by decide)).2
 have l2 : ∀ τ, fF Tryz.prog τ 58 v2 = some (.int .i64 froms.length) := fun τ => by obtain ⟨a, c, rfl⟩ := aG r2; exact PW τ a _ c
 refine aY a0 a3 gN o1 o2 o3 o4 (cJ o5 (cJ o6 (cJ o7 l2))) ?_
 refine dB (dI (fun m B σ1 => ∃ j, j ≤ froms.length ∧ m = froms.length - j ∧ B.size = 71 ∧ B.get 0 = some (.pointer (some ⟨b, 0, none⟩)) ∧ B.get 3 = some (.pointer (some ⟨σ.next, 0, none⟩)) ∧ B.get 21 = some v2 ∧ B.get 22 = some (.int .i64 (froms.length : Int)) ∧ B.get 23 = some (.int .i64 (j : Int)) ∧ Wrote b d i (σ.push ⟨1, 61, 0, [.int .i64 k, .bool di, v1, v2, v3, v4, v5, v6, .int .i64 n, v7]⟩) s0 t0 td tl (aQ (aQ (aQ (aK [eX]) (if di then aK [eH] else dW)) (dh (items.map fit))) (fK ((froms.take j).map fun f => aQ (aK [lg]) (ff f)))) (.tuple #[]) σ1) ?_ (m := froms.length) (by refine' ⟨0, Nat.zero_le _, rfl, ?_, ?_, ?_, ?_, ?_, ?_, by rw [List.take_zero]; show Wrote b d i _ s0 t0 td tl (aQ _ dW) _ _; rw [jv]; exact H3⟩; any_goals (first | exact bP a0 a3 | fail)))
 rintro m B4 σ4 ⟨j, hj, rfl, hz, b0, b3, b21, b22, b23, G⟩
 by_cases hjl : j < froms.length
 ·have c1 : decide ((j : Int) < (froms.length : Int)) = true := by simp [hjl]
  have rf := aP.wk r2 ((kp.wk b).trans G.2)
  obtain ⟨bb, p, q, c, cs, l, e, hrow, hel, htk, hx1, hl, ho⟩ := jl rf yE (j := (j : Int)) rfl hjl (hsf _ (List.getElem_mem _))
  subst e
  have hr := hrow _ (Wk.refl b _)
  have hblt := G.1.lt
  have hadd : aT .add (.int .i64 (j : Int)) (.int .i64 1) = some (.int .i64 ((j + 1 : Nat) : Int)) := by rw [aH (by omega) (by omega)]; rfl
  refine iC hr b0 b3 b21 b22 b23 c1 hel (cJ htk (cJ hl ho)) ?_
  refine aj (aU b0) ?_
  have kz : Kp σ4 ((σ4.push ⟨1, 92, 0, [.int .i64 0, .string ⟨#[]⟩, .bool false, .string ⟨#[]⟩, .slice none 0 0, .slice none 0 0, .slice none 0 0]⟩).set σ4.next ⟨1, 92, 0, l⟩) := ((Kp.refl σ4).push _).set (Nat.le_refl _) _
  refine C.mono (cZ (G.1.kp kz) _ _ lg (by decide)) ?_
  rintro _ ω2 g2
  have gZ : ω2.get σ4.next = ⟨1, 92, 0, l⟩ := (g2.2.get σ4.next (Nat.lt_succ_self _) (by omega) (by rw [bF]; show (92 : Nat) ≠ 5; decide)).trans bF
  refine aY b0 b3 b21 b22 b23 gZ hl ho ?_
  refine aj (aU b0) ?_
  have k2 := (kz.wk b).trans g2.2
  refine C.mono (FY _ (List.getElem_mem _) _ _ _ _ _ _ (aP.wk hx1 k2) g2.1) ?_
  rintro _ ω3 g3
  refine kR b0 b3 b21 b22 b23 hadd ?_
  refine ⟨froms.length - (j + 1), by omega, j + 1, hjl, rfl, (dD), (aU b0), (aU b3), (aU b21), (aU b22), (dD), ?_⟩
  rw [Ij (fun f => aQ (aK [lg]) (ff f)) hjl, ← seq_assoc]
  exact G.trans ((g2.trans g3).kp kz)
 ·have c1 : decide ((j : Int) < (froms.length : Int)) = false := by simp [hjl]
  have ej : froms.take j = froms := List.take_of_length_le (by omega)
  rw [ej] at G
  refine kR b0 b3 b21 b22 b23 c1 ?_
  refine xL ?_
  have H4 := G
  have gN := (box1 hlt H4.2 (by decide)).1
  have hn := (box1 hlt H4.2 (by decide)).2
  refine aY b0 b3 gN o1 o2 o3 o4 (cJ o5 (cJ o6 o7)) ?_
  refine aj (bP b0 b3) ?_
  have kq4 : ∀ B, Kp σ4 (σ4.push B) := fun B => (Kp.refl _).push B
  have lb4 := H4.1.lt
  refine C.mono (wo (fi := fi) (ws := [jm]) MN MO MP (show 1 ≤ 1000 by decide) (by decide) _ _ _ _ _ ⟨aP.wk r3 (((kp.wk b).trans H4.2).trans ((kq4 _).wk b)), aA, (show σ4.next < σ4.next + 1 by omega), by omega⟩ (H4.1.kp (kq4 _))) ?_
  rintro _ σ5 h5
  have H5 := H4.trans (h5.kp (kq4 _))
  have gN := (box1 hlt H5.2 (by decide)).1
  have hn := (box1 hlt H5.2 (by decide)).2
  refine aY b0 b3 gN o1 o2 o3 o4 (cJ o5 (cJ o6 o7)) ?_
  refine aj (bP b0 b3) ?_
  have kq5 : ∀ B, Kp σ5 (σ5.push B) := fun B => (Kp.refl _).push B
  have lb5 := H5.1.lt
  refine C.mono (wo (fi := fi) (ws := [lJ, xu]) adY adZ ad4 (show 2 ≤ 1000 by decide) (by decide) _ _ _ _ _ ⟨aP.wk r4 (((kp.wk b).trans H5.2).trans ((kq5 _).wk b)), aA, (show σ5.next < σ5.next + 1 by omega), by omega⟩ (H5.1.kp (kq5 _))) ?_
  rintro _ σ6 h6
  have H6 := H5.trans (h6.kp (kq5 _))
  have gN := (box1 hlt H6.2 (by decide)).1
  have hn := (box1 hlt H6.2 (by decide)).2
  refine aY b0 b3 gN o1 o2 o3 o4 (cJ o5 (cJ o6 o7)) ?_
  refine aj (bP b0 b3) ?_
  have Zp : ∀ B, Kp σ6 (σ6.push B) := fun B => (Kp.refl _).push B
  have lb6 := H6.1.lt
  refine C.mono (wo (fi := fi) (ws := [oh]) ad5 ad6 ad7 (show 1 ≤ 1000 by decide) (by decide) _ _ _ _ _ ⟨aP.wk r5 (((kp.wk b).trans H6.2).trans ((Zp _).wk b)), aA, (show σ6.next < σ6.next + 1 by omega), by omega⟩ (H6.1.kp (Zp _))) ?_
  rintro _ σ7 h7
  have H7 := H6.trans (h7.kp (Zp _))
  have gN := (box1 hlt H7.2 (by decide)).1
  have hn := (box1 hlt H7.2 (by decide)).2
  have l6 : ∀ τ, fF Tryz.prog τ 59 v6 = some (.int .i64 or.length) := fun τ => by obtain ⟨a, c, rfl⟩ := aG r6; exact PX τ a _ c
  repeat (first | apply C9 | apply zD | ((first | apply zC | (refine' zG rfl rfl ?_ ?_; rotate_left)); (focus (first | exact kC b0 b3 gN o1 o2 o3 o4 (cJ o5 (cJ o6 (cJ o7 l6))) | fail)); with_reducible first | apply zF | apply g_1 | apply g_2 | apply jO | apply lV) | apply Dc | apply b_k | apply Bj | apply yD)
  refine WB (fun B σ1 => B.size = 71 ∧ B.get 0 = some (.pointer (some ⟨b, 0, none⟩)) ∧ B.get 3 = some (.pointer (some ⟨σ.next, 0, none⟩)) ∧ Wrote b d i (σ.push ⟨1, 61, 0, [.int .i64 k, .bool di, v1, v2, v3, v4, v5, v6, .int .i64 n, v7]⟩) s0 t0 td tl (aQ (aQ (aQ (aQ (aQ (aQ (aQ (aK [eX]) (if di then aK [eH] else dW)) (dh (items.map fit))) (fK (froms.map fun f => aQ (aK [lg]) (ff f)))) (if wh = [] then dW else aQ (aK [jm]) (dh (wh.map fi)))) (if gr = [] then dW else aQ (aK [lJ, xu]) (dh (gr.map fi)))) (if ha = [] then dW else aQ (aK [oh]) (dh (ha.map fi)))) (if or = [] then dW else aQ (aK [mW, xu]) (dh (or.map fky)))) (.tuple #[]) σ1) ?_ ?_
  ·by_cases ho0 : or = []
   ·have c1 : decide ((0 : Int) < (or.length : Int)) = false := by simp [ho0]
    rw [if_pos ho0]
    refine aY b0 b3 gN o1 o2 o3 o4 (cJ o5 (cJ o6 (cJ o7 (cJ l6 c1)))) ?_
    have H8 := H7.trans (Wrote.nil (v := .tuple #[]) H7.1)
    have gN := (box1 hlt H8.2 (by decide)).1
    have hn := (box1 hlt H8.2 (by decide)).2
    refine aY b0 b3 gN o1 o2 o3 o4 (cJ o5 (cJ o6 (cJ o7 c1))) ?_
    exact (by refine' ⟨?_, ?_, ?_, H8⟩; any_goals (first | exact kC b0 b3 gN o1 o2 o3 o4 (cJ o5 (cJ o6 o7)) | fail))
   ·have c1 : decide ((0 : Int) < (or.length : Int)) = true := by
     have := List.length_pos_iff.2 ho0
     simp only [decide_eq_true_eq]; omega
    rw [if_neg ho0]
    refine aY b0 b3 gN o1 o2 o3 o4 (cJ o5 (cJ o6 (cJ o7 (cJ l6 c1)))) ?_
    refine aj (bP b0 b3) ?_
    have sz7 : ∀ z ∈ [mW, xu], ByteArray.size z ≤ 70000 := fun z hz => by
      simp only [List.mem_cons, List.not_mem_nil, or_false] at hz
      rcases hz with rfl | rfl
      ·decide
      ·decide
    refine C.mono (mg H7.1 _ _ [mW, xu] (show 2 ≤ 1000 by decide) sz7) ?_
    rintro _ σ8 h8
    have H8 := H7.trans h8
    have gN := (box1 hlt H8.2 (by decide)).1
    have hn := (box1 hlt H8.2 (by decide)).2
    refine aY b0 b3 gN o1 o2 o3 o4 (cJ o5 (cJ o6 o7)) ?_
    refine aj (bP b0 b3) ?_
    refine C.mono (Wx (E := fun _ => True) (fs := [.pointer (some ⟨b, 0, none⟩)]) (cs := []) ou hlo hso (fun p hp x => (hky p hp x).weak fun _ h => h.2) _ _ _ _ _ ⟨trivial, aP.wk r6 ((kp.wk b).trans H8.2)⟩ H8.1) ?_
    rintro _ σ9 h9
    have H9 := H8.trans h9
    have gN := (box1 hlt H9.2 (by decide)).1
    have hn := (box1 hlt H9.2 (by decide)).2
    rw [seq_assoc] at H9
    refine aY b0 b3 gN o1 o2 o3 o4 (cJ o5 (cJ o6 o7)) ?_
    exact (by refine' ⟨?_, ?_, ?_, H9⟩; any_goals (first | exact kC b0 b3 gN o1 o2 o3 o4 (cJ o5 (cJ o6 o7)) | fail))
  rintro B σ8 ⟨hz, a0, a3, H8⟩
  have gN := (box1 hlt H8.2 (by decide)).1
  have hn := (box1 hlt H8.2 (by decide)).2
  repeat (first | apply C9 | apply zD | ((first | apply zC | (refine' zG rfl rfl ?_ ?_; rotate_left)); (focus (first | exact kC a0 a3 gN o1 o2 o3 o4 (cJ o5 (cJ o6 o7)) | fail)); with_reducible first | apply zF | apply g_1 | apply g_2 | apply jO | apply lV) | apply Dc | apply b_k | apply Bj | apply yD)
  by_cases hlim : n = -1
  ·have c1 : (n != -1) = false := by simp [hlim]
   rw [if_pos hlim]
   refine aY a0 a3 gN o1 o2 o3 o4 (cJ o5 (cJ o6 (cJ o7 c1))) ?_
   have H9 := H8.trans (Wrote.nil (v := .tuple #[]) H8.1)
   have gN := (box1 hlt H9.2 (by decide)).1
   have hn := (box1 hlt H9.2 (by decide)).2
   refine gI ?_
   exact H9.kp kp
  ·have c1 : (n != -1) = true := by simp [hlim]
   rw [if_neg hlim]
   refine aY a0 a3 gN o1 o2 o3 o4 (cJ o5 (cJ o6 (cJ o7 c1))) ?_
   refine aj (bP a0 a3) ?_
   refine C.mono (Wq n hn0 hn1) ?_
   rintro _ _ ⟨rfl, rfl⟩
   refine aY a0 a3 gN o1 o2 o3 o4 (cJ o5 (cJ o6 o7)) ?_
   refine aj (bP a0 a3) ?_
   have sz8 : ∀ z ∈ [oq, Gw n], ByteArray.size z ≤ 70000 := fun z hz => by
     simp only [List.mem_cons, List.not_mem_nil, or_false] at hz
     rcases hz with rfl | rfl
     ·decide
     ·have := Ie hn0 hn1; omega
   refine C.mono (mg H8.1 _ _ [oq, Gw n] (show 2 ≤ 1000 by decide) sz8) ?_
   rintro _ σ9 h9
   have H9 := H8.trans h9
   have gN := (box1 hlt H9.2 (by decide)).1
   have hn := (box1 hlt H9.2 (by decide)).2
   refine aY a0 a3 gN o1 o2 o3 o4 (cJ o5 (cJ o6 o7)) ?_
   refine gI ?_
   exact H9.kp kp
end Go.Proofs.YthogkmcahnkkoaaGreatDoor
