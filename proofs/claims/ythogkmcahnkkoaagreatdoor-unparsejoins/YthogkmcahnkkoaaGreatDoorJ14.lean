/- Contracts of the program's takeMark and takeText. Contract of the program's take. Contract of the document's Same. -/
import Derived.Test.YthogkmcahnkkoaaGreatDoorJ13
namespace Go.Proofs.YthogkmcahnkkoaaGreatDoor
open Go.RowKit Go.Sort
def vW : List UInt8 → Nat
 | [] => 0
 | x :: _ => x.toNat
theorem Aj {c : UInt8} {k : Nat} (h : ¬ c.toNat = k) (hk : k < 256) : (UInt8.ofNat k == c) = false := by
 rw [beq_eq_false_iff_ne]
 intro e
 apply h
 rw [← e]
 simp; omega
theorem tH {c : UInt8} {k : Nat} (h : c.toNat = k) : c = UInt8.ofNat k := by
 subst h; simp
theorem RV (c : UInt8) (r : List UInt8) : rF.find? (fun m => m.isPrefixOf (c :: r)) = if aN c.toNat (vW r) = 0 then none else some ((c :: r).take (aN c.toNat (vW r))) := by
 rcases zn c.toNat with h | h | h | h | h | h | h | h | h | h | h | h | h | h | h | h | h | h
 ·have hc := tH h; subst hc
  cases r with
  | nil => rfl
  | cons x q =>
   by_cases hx : x.toNat = 124
   ·have := tH hx; subst this; rfl
   ·have e : ((124 : UInt8) == x) = false := Aj hx (by decide)
    have e2 : aN (UInt8.ofNat 124).toNat (vW (x :: q)) = 0 := by show aN 124 x.toNat = 0; simp [aN, hx]
    rw [e2]
    simp [rF, List.find?, List.isPrefixOf, e]
 ·have hc := tH h; subst hc
  cases r with
  | nil => rfl
  | cons x q =>
   by_cases hx : x.toNat = 62
   ·have := tH hx; subst this; rfl
   ·by_cases hy : x.toNat = 61
    ·have := tH hy; subst this; rfl
    ·have e : ((62 : UInt8) == x) = false := Aj hx (by decide)
     have e' : ((61 : UInt8) == x) = false := Aj hy (by decide)
     have e2 : aN (UInt8.ofNat 60).toNat (vW (x :: q)) = 1 := by show aN 60 x.toNat = 1; simp [aN, hx, hy]
     rw [e2]
     simp [rF, List.find?, List.isPrefixOf, e, e']
 ·have hc := tH h; subst hc
  cases r with
  | nil => rfl
  | cons x q =>
   by_cases hy : x.toNat = 61
   ·have := tH hy; subst this; rfl
   ·have e' : ((61 : UInt8) == x) = false := Aj hy (by decide)
    have e2 : aN (UInt8.ofNat 62).toNat (vW (x :: q)) = 1 := by show aN 62 x.toNat = 1; simp [aN, hy]
    rw [e2]
    simp [rF, List.find?, List.isPrefixOf, e']
 iterate 14
  ·have hc := tH h; subst hc
   rfl
 ·have e2 : aN c.toNat (vW r) = 0 := by unfold aN; simp only [h, false_or, if_false]
  rw [e2, if_pos rfl]
  have hall : ∀ m ∈ rF, ∃ k q, m = UInt8.ofNat k :: q ∧ k < 256 ∧ (k = 124 ∨ k = 60 ∨ k = 62 ∨ k = 40 ∨ k = 41 ∨ k = 44 ∨ k = 59 ∨ k = 46 ∨ k = 42 ∨ k = 43 ∨ k = 45 ∨ k = 47 ∨ k = 37 ∨ k = 61 ∨ k = 123 ∨ k = 125 ∨ k = 58) := by
   intro m hm
   simp only [rF, List.mem_cons, List.not_mem_nil, or_false] at hm
   rcases hm with rfl | rfl | rfl | rfl | rfl | rfl | rfl | rfl | rfl | rfl | rfl | rfl | rfl | rfl | rfl | rfl | rfl | rfl | rfl | rfl
   ·exact ⟨124, _, rfl, by decide, by decide⟩
   ·exact ⟨60, _, rfl, by decide, by decide⟩
   ·exact ⟨60, _, rfl, by decide, by decide⟩
   ·exact ⟨62, _, rfl, by decide, by decide⟩
   ·exact ⟨40, _, rfl, by decide, by decide⟩
   ·exact ⟨41, _, rfl, by decide, by decide⟩
   ·exact ⟨44, _, rfl, by decide, by decide⟩
   ·exact ⟨59, _, rfl, by decide, by decide⟩
   ·exact ⟨46, _, rfl, by decide, by decide⟩
   ·exact ⟨42, _, rfl, by decide, by decide⟩
   ·exact ⟨43, _, rfl, by decide, by decide⟩
   ·exact ⟨45, _, rfl, by decide, by decide⟩
   ·exact ⟨47, _, rfl, by decide, by decide⟩
   ·exact ⟨37, _, rfl, by decide, by decide⟩
   ·exact ⟨61, _, rfl, by decide, by decide⟩
   ·exact ⟨60, _, rfl, by decide, by decide⟩
   ·exact ⟨62, _, rfl, by decide, by decide⟩
   ·exact ⟨123, _, rfl, by decide, by decide⟩
   ·exact ⟨125, _, rfl, by decide, by decide⟩
   ·exact ⟨58, _, rfl, by decide, by decide⟩
  rw [List.find?_eq_none]
  intro m hm hp
  obtain ⟨k, q, rfl, hk, hor⟩ := hall m hm
  rw [List.isPrefixOf] at hp
  have hne : ¬ c.toNat = k := by omega
  rw [Aj hne hk] at hp
  simp at hp
theorem lN (s : ByteArray) (h : 0 < s.size) : s.data.toList = s[0] :: s.data.toList.drop 1 := by
 have := byte_at s h
 simpa using this
theorem RX (s : ByteArray) : vW (s.data.toList.drop 1) = if h : 1 < s.size then s[1].toNat else 0 := by
 by_cases h : 1 < s.size
 ·rw [dif_pos h, byte_at s h]; rfl
 ·rw [dif_neg h, List.drop_eq_nil_of_le (by simp; omega)]; rfl
def Ak (l : List UInt8) : (Int × List UInt8 × Nat × Nat) ⊕ Nat := match rF.find? (fun m => m.isPrefixOf l) with
 | some m => .inl (4, m, 0, m.length)
 | none => .inr 0
set_option maxHeartbeats 1000000 in
theorem Jm (w : World) (s : ByteArray) (h0 : 0 < s.size) (hs : s.size ≤ 1000000) :
  Calls Tryz.prog 123 #[.string s] w fun e w' => e = .returned (gX (Ak s.data.toList)) ∧ Below w.heap.size w w' := by
 have a1 := Jl (w.alloc (.cells #[.int .i64 0, .string ⟨#[]⟩, .int .i64 0, .int .i64 0] 100)) s h0 hs
 have HF := RV s[0] (s.data.toList.drop 1)
 rw [← lN s h0, RX] at HF
 have hle : aN s[0].toNat (if h : 1 < s.size then s[1].toNat else 0) ≤ s.size := by
  refine Classical.byContradiction fun hn => ?_
  have h2 : aN s[0].toNat (if h : 1 < s.size then s[1].toNat else 0) ≤ 2 := by unfold aN; (repeat' split) <;> omega
  have h1 : s.size = 1 := by omega
  rw [dif_neg (by omega)] at hn
  have : aN s[0].toNat 0 ≤ 1 := by unfold aN; (repeat' split) <;> omega
  omega
 generalize aN s[0].toNat (if h : 1 < s.size then s[1].toNat else 0) = n at a1 HF hle
 have i0 : (0 : Int) ≤ (n : Int) := by omega
 have i1 : (n : Int) ≤ (s.size : Int) := by omega
 have HE : Hid (s.extract 0 n = ⟨(s.data.toList.take n).toArray⟩) := pR s n
 by_cases h : n = 0
 ·have q : ((n : Int) == 0) = true := by rw [h]; rfl
  have HM : Hid (Ak s.data.toList = .inr 0) := by show Ak _ = _; unfold Ak; rw [HF, if_pos h]
  clear HF h
  go_enter Tryz.func123, Tryz.ntmps123
  go_wp2_with fail
  refine a1.mono ?_
  rintro e w1 ⟨rfl, hw1⟩
  subst w1
  go_wp2_with fail
  exact bodyPost_ret (v := gX (.inr 0)) (by simp [results, Tryz.results123, go_sem, gX]) rfl ⟨by rw [HM.out], ((Below.refl _ _).alloc (Nat.le_refl _) _)⟩
 ·have q : ((n : Int) == 0) = false := by rw [beq_eq_false_iff_ne]; omega
  have HM : Hid (Ak s.data.toList = .inl (4, s.data.toList.take n, 0, n)) := by
   show Ak _ = _
   unfold Ak
   rw [HF, if_neg h]
   simp only [List.length_take, Array.length_toList]
   rw [Nat.min_eq_left (by simpa using hle)]
  clear HF h
  go_enter Tryz.func123, Tryz.ntmps123
  go_wp2_with fail
  refine a1.mono ?_
  rintro e w1 ⟨rfl, hw1⟩
  subst w1
  go_wp2_with fail
  exact bodyPost_ret (v := gX (.inl (4, s.data.toList.take n, 0, n))) (by simp [results, Tryz.results123, go_sem, gX, HE.out]) rfl ⟨by rw [HM.out], ((Below.refl _ _).alloc (Nat.le_refl _) _)⟩
def mZ (l : List UInt8) : (Int × List UInt8 × Nat × Nat) ⊕ Nat := match Dh l with
 | .inl (b, n) => .inl (3, b, 0, n)
 | .inr k => .inr k
def uw (w : World) : Prop := ∃ m : Int, w.cell? ⟨1, 0, none⟩ = some (.int .i64 m)
theorem uw.keep {w w' : World} (h : uw w) (k : Below w.heap.size w w') : uw w' := by
 obtain ⟨m, hm⟩ := h
 exact ⟨m, o9 hm k⟩
theorem xH {a b : World} {q : Nat} (h : Below a.heap.size a b) (hq : a.heap.size ≤ q) (x0 x1 x2 x3 : Value) : Below a.heap.size a ((((b.setCell ⟨q, 0, none⟩ x0).setCell ⟨q, 1, none⟩ x1).setCell ⟨q, 2, none⟩ x2).setCell ⟨q, 3, none⟩ x3) :=
 (((h.setCell hq x0).setCell hq x1).setCell hq x2).setCell hq x3
set_option maxRecDepth 100000 in
set_option maxHeartbeats 4000000 in
theorem Jo (w : World) (hm : uw w) (s : ByteArray) (h0 : 0 < s.size) (Nh : s[0].toNat = 39) (hs : s.size ≤ 1000000) :
  Calls Tryz.prog 122 #[.string s] w fun e w' => e = .returned (gX (mZ s.data.toList)) ∧ Below w.heap.size w w' := by
 have a1 := RJ (w.alloc (.cells #[.int .i64 0, .string ⟨#[]⟩, .int .i64 0, .int .i64 0] 100)) s hs
 rw [show (w.alloc (.cells #[.int .i64 0, .string ⟨#[]⟩, .int .i64 0, .int .i64 0] 100)).heap.size = w.heap.size + 1 from by simp] at a1
 have hle : (jw false s.data.toList).1 ≤ s.size := by have := zW false s.data.toList; simpa using this
 have h2 : (jw false s.data.toList).2 = false → 2 ≤ (jw false s.data.toList).1 := by rw [lN s h0]; exact KW Nh
 have HQ : Hid (Dh s.data.toList = if (jw false s.data.toList).2 = true then .inr 0
  else if 1000 < (EK s.data.toList).length then .inr 0
  else if runN EJ (s.data.toList.take (jw false s.data.toList).1) < (jw false s.data.toList).1 then .inr (runN EJ (s.data.toList.take (jw false s.data.toList).1))
  else .inl (EK s.data.toList, (jw false s.data.toList).1)) := rfl
 have HS : Hid (EK s.data.toList = Lib.replaceAll ((s.data.toList.take ((jw false s.data.toList).1 - 1)).drop 1) [39, 39] [39]) := rfl
 generalize jw false s.data.toList = nb at a1 hle h2 HQ HS
 obtain ⟨n, o⟩ := nb
 dsimp only at a1 hle h2 HQ HS
 cases o
 ·replace h2 := h2 rfl
  simp only [Bool.false_eq_true, if_false] at HQ
  have HX : Hid ((s.extract 1 (n - 1)).data.toList = (s.data.toList.take (n - 1)).drop 1) := by
   show (s.extract 1 (n - 1)).data.toList = _
   rw [xG]
   simp [List.drop_take]
  have hxs : (s.extract 1 (n - 1)).size ≤ 1000000 := by simp; omega
  have hW : Below w.heap.size w ((w.alloc (.cells #[.int .i64 0, .string ⟨#[]⟩, .int .i64 0, .int .i64 0] 100)).alloc (.cells #[.bool false] 4)) := ((Below.refl _ _).alloc (Nat.le_refl _) _).alloc (by simp) _
  obtain ⟨m, hm'⟩ := hm.keep hW
  have a2 := Tryz.strings_ReplaceAll (s.extract 1 (n - 1)) ⟨#[39, 39]⟩ ⟨#[39]⟩ m _ (by omega) hm' (by decide) (by
   have := Lib.countB_le ⟨#[39, 39]⟩ (by decide) _ (s.extract 1 (n - 1)) (Nat.le_refl _)
   show _ + _ * 1 ≤ _
   omega)
  rw [HX.out] at a2
  have e3 : Lib.replaceAll ((s.data.toList.take (n - 1)).drop 1) (⟨#[39, 39]⟩ : ByteArray).data.toList (⟨#[39]⟩ : ByteArray).data.toList = EK s.data.toList := HS.out.symm
  rw [e3] at a2
  clear e3 HS HX hm'
  generalize EK s.data.toList = sd at a2 HQ
  have j0 : (1 : Int) ≤ (n : Int) - 1 := by omega
  have j1 : (n : Int) - 1 ≤ (s.size : Int) := by omega
  have j2 : (n : Int) ≤ (s.size : Int) := by omega
  have j3 : (0 : Int) ≤ (n : Int) := by omega
  have hsz : (⟨sd.toArray⟩ : ByteArray).size = sd.length := by simp [ByteArray.size]
  have a3 := fun w' => VG w' (s.extract 0 n) (by simp; omega)
  rw [show (s.extract 0 n).data.toList = s.data.toList.take n from by rw [pR]] at a3
  have hrl : runN EJ (s.data.toList.take n) ≤ n := by have := qE EJ (s.data.toList.take n); simp at this; omega
  generalize runN EJ (s.data.toList.take n) = r at a3 HQ hrl
  by_cases hl : 1000 < sd.length
  ·have q : decide ((1000 : Int) < ((⟨sd.toArray⟩ : ByteArray).size : Int)) = true := by rw [hsz]; simp; omega
   have HR : Hid (mZ s.data.toList = .inr 0) := by show mZ _ = _; unfold mZ; rw [HQ.out, if_pos hl]
   clear HQ h2 hl hsz
   generalize (⟨sd.toArray⟩ : ByteArray) = sb at *
   go_enter Tryz.func122, Tryz.ntmps122
   go_wp2_with fail
   refine a1.mono ?_
   rintro e w1 ⟨rfl, hw1⟩
   subst w1
   go_wp2_with fail
   refine a2.mono ?_
   rintro e w3 ⟨rfl, b3⟩
   have t0 : dN w3 w.heap.size 0 ⟨#[]⟩ 0 0 := dN.keep (dN.alloc (heap_alloc_new w _) _) b3
   obtain ⟨c0, c1, c2, c3⟩ := t0.cells
   have hf := t0.frozen
   clear t0
   go_wp2_with fail
   exact bodyPost_ret (v := gX (.inr 0)) (by simp [results, Tryz.results122, go_sem, gX, c0, c1, c2, c3]) rfl ⟨by rw [HR.out], xH (lC hW b3) (Nat.le_refl _) _ _ _ _⟩
  ·have q : decide ((1000 : Int) < ((⟨sd.toArray⟩ : ByteArray).size : Int)) = false := by rw [hsz]; simp; omega
   by_cases hr : r < n
   ·have q2 : decide ((r : Int) < (n : Int)) = true := by simp; omega
    have HR : Hid (mZ s.data.toList = .inr r) := by show mZ _ = _; unfold mZ; rw [HQ.out, if_neg hl, if_pos hr]
    clear HQ h2 hl hsz
    generalize (⟨sd.toArray⟩ : ByteArray) = sb at *
    go_enter Tryz.func122, Tryz.ntmps122
    go_wp2_with fail
    refine a1.mono ?_
    rintro e w1 ⟨rfl, hw1⟩
    subst w1
    go_wp2_with fail
    refine a2.mono ?_
    rintro e w3 ⟨rfl, b3⟩
    have t0 : dN w3 w.heap.size 0 ⟨#[]⟩ 0 0 := dN.keep (dN.alloc (heap_alloc_new w _) _) b3
    obtain ⟨c0, c1, c2, c3⟩ := t0.cells
    have hf := t0.frozen
    clear t0
    go_wp2_with fail
    refine (a3 w3).mono ?_
    rintro e w1 ⟨rfl, hw1⟩
    subst w1
    go_wp2_with fail
    exact bodyPost_ret (v := gX (.inr r)) (by simp [results, Tryz.results122, go_sem, gX, c0, c1, c2, c3]) rfl ⟨by rw [HR.out], xH (lC hW b3) (Nat.le_refl _) _ _ _ _⟩
   ·have q2 : decide ((r : Int) < (n : Int)) = false := by simp; omega
    have HR : Hid (gX (mZ s.data.toList) = .tuple #[T4 3 ⟨sd.toArray⟩ 0 0, .int .i64 (n : Int), .int .i64 (-1)]) := by show gX (mZ _) = _; unfold mZ; rw [HQ.out, if_neg hl, if_neg hr]; rfl
    clear HQ h2 hl hsz
    generalize (⟨sd.toArray⟩ : ByteArray) = sb at *
    go_enter Tryz.func122, Tryz.ntmps122
    go_wp2_with fail
    refine a1.mono ?_
    rintro e w1 ⟨rfl, hw1⟩
    subst w1
    go_wp2_with fail
    refine a2.mono ?_
    rintro e w3 ⟨rfl, b3⟩
    have t0 : dN w3 w.heap.size 0 ⟨#[]⟩ 0 0 := dN.keep (dN.alloc (heap_alloc_new w _) _) b3
    obtain ⟨c0, c1, c2, c3⟩ := t0.cells
    have hf := t0.frozen
    clear t0
    go_wp2_with fail
    refine (a3 w3).mono ?_
    rintro e w1 ⟨rfl, hw1⟩
    subst w1
    go_wp2_with fail
    exact bodyPost_ret (v := .tuple #[T4 3 sb 0 0, .int .i64 (n : Int), .int .i64 (-1)]) (by simp [results, Tryz.results122, go_sem, c0, c1, c2, c3]) rfl ⟨by rw [HR.out], xH (lC hW b3) (Nat.le_refl _) _ _ _ _⟩
 ·have HR : Hid (mZ s.data.toList = .inr 0) := by show mZ _ = _; unfold mZ; rw [HQ.out]; rfl
  clear HQ HS h2
  go_enter Tryz.func122, Tryz.ntmps122
  go_wp2_with fail
  refine a1.mono ?_
  rintro e w1 ⟨rfl, hw1⟩
  subst w1
  go_wp2_with fail
  exact bodyPost_ret (v := gX (.inr 0)) (by simp [results, Tryz.results122, go_sem, gX]) rfl ⟨by rw [HR.out], ((Below.refl _ _).alloc (Nat.le_refl _) _).alloc (by simp) _⟩
theorem take_nil (w : World) : Calls Tryz.prog 83 #[.string ⟨#[]⟩] w fun e w' => e = .returned (.tuple #[T4 0 ⟨#[]⟩ 0 0, .int .i64 0, .int .i64 (-1)]) ∧ Below w.heap.size w w' := by
 go_enter Tryz.func83, Tryz.ntmps83
 go_wp2_with fail
 exact bodyPost_ret (v := .tuple #[T4 0 ⟨#[]⟩ 0 0, .int .i64 0, .int .i64 (-1)]) (by simp [results, Tryz.results83, go_sem]) rfl ⟨rfl, (Below.refl _ _).alloc (Nat.le_refl _) _⟩
theorem VH {s : ByteArray} (h0 : 0 < s.size) : (s.toList == ([] : List UInt8)) = false := by
 rw [beq_eq_false_iff_ne]
 intro h
 rw [empty_of h] at h0
 exact absurd h0 (by decide)
set_option maxRecDepth 100000 in
set_option maxHeartbeats 4000000 in
theorem take_any (w : World) (s : ByteArray) (h0 : 0 < s.size) (hm : uw w ∨ s[0].toNat ≠ 39) (hs : s.size ≤ 1000000) :
  Calls Tryz.prog 83 #[.string s] w fun e w' => e = .returned (gX (oI s.data.toList)) ∧ Below w.heap.size w w' := by
 have hl := Fb (w.alloc (.cells #[.int .i64 0, .string ⟨#[]⟩, .int .i64 0, .int .i64 0] 100)) s[0]
 have hd := BR (w.alloc (.cells #[.int .i64 0, .string ⟨#[]⟩, .int .i64 0, .int .i64 0] 100)) s[0]
 have hne := VH h0
 have i0 : (0 : Int) < (s.size : Int) := by omega
 have HO : Hid (oI s.data.toList = zX s[0] (s.data.toList.drop 1)) := by
  show oI _ = _
  conv => lhs; rw [lN s h0]
  rfl
 have hW : Below w.heap.size w (w.alloc (.cells #[.int .i64 0, .string ⟨#[]⟩, .int .i64 0, .int .i64 0] 100)) := (Below.refl _ _).alloc (Nat.le_refl _) _
 cases hL : pI s[0]
 ·rw [hL] at hl
  cases hD : dM s[0]
  ·rw [hD] at hd
   by_cases Nh : s[0].toNat = 39
   ·have q : ((s[0].toNat : Int) == 39) = true := by rw [Nh]; rfl
    have a := Jo (w.alloc (.cells #[.int .i64 0, .string ⟨#[]⟩, .int .i64 0, .int .i64 0] 100)) ((hm.resolve_right (fun h => h Nh)).keep hW) s h0 Nh hs
    have HR : Hid (oI s.data.toList = mZ s.data.toList) := by
     show oI _ = _
     rw [HO.out]
     unfold zX mZ
     rw [hL, hD, ← lN s h0]
     simp only [Nh, Bool.false_eq_true, if_false, if_true]
     generalize Dh s.data.toList = z
     rcases z with ⟨b, n⟩ | k <;> rfl
    clear Nh hL hD hm
    rw [← HR.out] at a
    generalize oI s.data.toList = R at a
    clear HO HR
    match R, a with
    | .inl (kind, tx, n, len), a =>
     simp only [gX] at a ⊢
     go_enter Tryz.func83, Tryz.ntmps83
     go_wp2_with fail
     refine hl.mono ?_
     rintro e w1 ⟨rfl, hw1⟩
     subst w1
     go_wp2_with fail
     refine hd.mono ?_
     rintro e w1 ⟨rfl, hw1⟩
     subst w1
     go_wp2_with fail
     refine a.mono ?_
     rintro e w3 ⟨rfl, b3⟩
     have t0 : dN w3 w.heap.size 0 ⟨#[]⟩ 0 0 := dN.keep (heap_alloc_new w _) b3
     obtain ⟨c0, c1, c2, c3⟩ := t0.cells
     have hf := t0.frozen
     clear t0
     go_wp2_with fail
     exact bodyPost_ret (v := .tuple #[T4 kind ⟨tx.toArray⟩ (n : Int) 0, .int .i64 (len : Int), .int .i64 (-1)]) (by simp [results, Tryz.results83, go_sem, c0, c1, c2, c3]) rfl ⟨rfl, xH (lC hW b3) (Nat.le_refl _) _ _ _ _⟩
    | .inr d, a =>
     simp only [gX] at a ⊢
     go_enter Tryz.func83, Tryz.ntmps83
     go_wp2_with fail
     refine hl.mono ?_
     rintro e w1 ⟨rfl, hw1⟩
     subst w1
     go_wp2_with fail
     refine hd.mono ?_
     rintro e w1 ⟨rfl, hw1⟩
     subst w1
     go_wp2_with fail
     refine a.mono ?_
     rintro e w3 ⟨rfl, b3⟩
     have t0 : dN w3 w.heap.size 0 ⟨#[]⟩ 0 0 := dN.keep (heap_alloc_new w _) b3
     obtain ⟨c0, c1, c2, c3⟩ := t0.cells
     have hf := t0.frozen
     clear t0
     go_wp2_with fail
     exact bodyPost_ret (v := .tuple #[T4 0 ⟨#[]⟩ 0 0, .int .i64 0, .int .i64 (d : Int)]) (by simp [results, Tryz.results83, go_sem, c0, c1, c2, c3]) rfl ⟨rfl, xH (lC hW b3) (Nat.le_refl _) _ _ _ _⟩
   ·have q : ((s[0].toNat : Int) == 39) = false := by rw [beq_eq_false_iff_ne]; omega
    have a := Jm (w.alloc (.cells #[.int .i64 0, .string ⟨#[]⟩, .int .i64 0, .int .i64 0] 100)) s h0 hs
    have HR : Hid (oI s.data.toList = Ak s.data.toList) := by
     show oI _ = _
     rw [HO.out]
     unfold zX Ak
     rw [hL, hD, ← lN s h0]
     simp only [Nh, Bool.false_eq_true, if_false]
     generalize rF.find? (fun m => m.isPrefixOf s.data.toList) = z
     cases z <;> rfl
    clear Nh hL hD hm
    rw [← HR.out] at a
    generalize oI s.data.toList = R at a
    clear HO HR
    match R, a with
    | .inl (kind, tx, n, len), a =>
     simp only [gX] at a ⊢
     go_enter Tryz.func83, Tryz.ntmps83
     go_wp2_with fail
     refine hl.mono ?_
     rintro e w1 ⟨rfl, hw1⟩
     subst w1
     go_wp2_with fail
     refine hd.mono ?_
     rintro e w1 ⟨rfl, hw1⟩
     subst w1
     go_wp2_with fail
     refine a.mono ?_
     rintro e w3 ⟨rfl, b3⟩
     have t0 : dN w3 w.heap.size 0 ⟨#[]⟩ 0 0 := dN.keep (heap_alloc_new w _) b3
     obtain ⟨c0, c1, c2, c3⟩ := t0.cells
     have hf := t0.frozen
     clear t0
     go_wp2_with fail
     exact bodyPost_ret (v := .tuple #[T4 kind ⟨tx.toArray⟩ (n : Int) 0, .int .i64 (len : Int), .int .i64 (-1)]) (by simp [results, Tryz.results83, go_sem, c0, c1, c2, c3]) rfl ⟨rfl, xH (lC hW b3) (Nat.le_refl _) _ _ _ _⟩
    | .inr d, a =>
     simp only [gX] at a ⊢
     go_enter Tryz.func83, Tryz.ntmps83
     go_wp2_with fail
     refine hl.mono ?_
     rintro e w1 ⟨rfl, hw1⟩
     subst w1
     go_wp2_with fail
     refine hd.mono ?_
     rintro e w1 ⟨rfl, hw1⟩
     subst w1
     go_wp2_with fail
     refine a.mono ?_
     rintro e w3 ⟨rfl, b3⟩
     have t0 : dN w3 w.heap.size 0 ⟨#[]⟩ 0 0 := dN.keep (heap_alloc_new w _) b3
     obtain ⟨c0, c1, c2, c3⟩ := t0.cells
     have hf := t0.frozen
     clear t0
     go_wp2_with fail
     exact bodyPost_ret (v := .tuple #[T4 0 ⟨#[]⟩ 0 0, .int .i64 0, .int .i64 (d : Int)]) (by simp [results, Tryz.results83, go_sem, c0, c1, c2, c3]) rfl ⟨rfl, xH (lC hW b3) (Nat.le_refl _) _ _ _ _⟩
  ·rw [hD] at hd
   have a := LH (w.alloc (.cells #[.int .i64 0, .string ⟨#[]⟩, .int .i64 0, .int .i64 0] 100)) s hs
   have HR : Hid (oI s.data.toList = if 18 < runN dM s.data.toList then .inr 0 else .inl (2, s.data.toList.take (runN dM s.data.toList), xk (s.data.toList.take (runN dM s.data.toList)), runN dM s.data.toList)) := by
    show oI _ = _
    rw [HO.out]
    unfold zX
    rw [hL, hD, ← lN s h0]
    simp
   clear hL hD hm
   rw [← HR.out] at a
   generalize oI s.data.toList = R at a
   clear HO HR
   match R, a with
   | .inl (kind, tx, n, len), a =>
    simp only [gX] at a ⊢
    go_enter Tryz.func83, Tryz.ntmps83
    go_wp2_with fail
    refine hl.mono ?_
    rintro e w1 ⟨rfl, hw1⟩
    subst w1
    go_wp2_with fail
    refine hd.mono ?_
    rintro e w1 ⟨rfl, hw1⟩
    subst w1
    go_wp2_with fail
    refine a.mono ?_
    rintro e w3 ⟨rfl, b3⟩
    have t0 : dN w3 w.heap.size 0 ⟨#[]⟩ 0 0 := dN.keep (heap_alloc_new w _) b3
    obtain ⟨c0, c1, c2, c3⟩ := t0.cells
    have hf := t0.frozen
    clear t0
    go_wp2_with fail
    exact bodyPost_ret (v := .tuple #[T4 kind ⟨tx.toArray⟩ (n : Int) 0, .int .i64 (len : Int), .int .i64 (-1)]) (by simp [results, Tryz.results83, go_sem, c0, c1, c2, c3]) rfl ⟨rfl, xH (lC hW b3) (Nat.le_refl _) _ _ _ _⟩
   | .inr d, a =>
    simp only [gX] at a ⊢
    go_enter Tryz.func83, Tryz.ntmps83
    go_wp2_with fail
    refine hl.mono ?_
    rintro e w1 ⟨rfl, hw1⟩
    subst w1
    go_wp2_with fail
    refine hd.mono ?_
    rintro e w1 ⟨rfl, hw1⟩
    subst w1
    go_wp2_with fail
    refine a.mono ?_
    rintro e w3 ⟨rfl, b3⟩
    have t0 : dN w3 w.heap.size 0 ⟨#[]⟩ 0 0 := dN.keep (heap_alloc_new w _) b3
    obtain ⟨c0, c1, c2, c3⟩ := t0.cells
    have hf := t0.frozen
    clear t0
    go_wp2_with fail
    exact bodyPost_ret (v := .tuple #[T4 0 ⟨#[]⟩ 0 0, .int .i64 0, .int .i64 (d : Int)]) (by simp [results, Tryz.results83, go_sem, c0, c1, c2, c3]) rfl ⟨rfl, xH (lC hW b3) (Nat.le_refl _) _ _ _ _⟩
 ·rw [hL] at hl
  have a := Jk (w.alloc (.cells #[.int .i64 0, .string ⟨#[]⟩, .int .i64 0, .int .i64 0] 100)) s hs
  have HR : Hid (oI s.data.toList = if 30 < runN nameB s.data.toList then .inr 0 else .inl (1, s.data.toList.take (runN nameB s.data.toList), 0, runN nameB s.data.toList)) := by
   show oI _ = _
   rw [HO.out]
   unfold zX
   rw [hL, ← lN s h0]
   simp only [if_true]
   rfl
  clear hL hm
  rw [← HR.out] at a
  generalize oI s.data.toList = R at a
  clear HO HR
  match R, a with
  | .inl (kind, tx, n, len), a =>
   simp only [gX] at a ⊢
   go_enter Tryz.func83, Tryz.ntmps83
   go_wp2_with fail
   refine hl.mono ?_
   rintro e w1 ⟨rfl, hw1⟩
   subst w1
   go_wp2_with fail
   refine a.mono ?_
   rintro e w3 ⟨rfl, b3⟩
   have t0 : dN w3 w.heap.size 0 ⟨#[]⟩ 0 0 := dN.keep (heap_alloc_new w _) b3
   obtain ⟨c0, c1, c2, c3⟩ := t0.cells
   have hf := t0.frozen
   clear t0
   go_wp2_with fail
   exact bodyPost_ret (v := .tuple #[T4 kind ⟨tx.toArray⟩ (n : Int) 0, .int .i64 (len : Int), .int .i64 (-1)]) (by simp [results, Tryz.results83, go_sem, c0, c1, c2, c3]) rfl ⟨rfl, xH (lC hW b3) (Nat.le_refl _) _ _ _ _⟩
  | .inr d, a =>
   simp only [gX] at a ⊢
   go_enter Tryz.func83, Tryz.ntmps83
   go_wp2_with fail
   refine hl.mono ?_
   rintro e w1 ⟨rfl, hw1⟩
   subst w1
   go_wp2_with fail
   refine a.mono ?_
   rintro e w3 ⟨rfl, b3⟩
   have t0 : dN w3 w.heap.size 0 ⟨#[]⟩ 0 0 := dN.keep (heap_alloc_new w _) b3
   obtain ⟨c0, c1, c2, c3⟩ := t0.cells
   have hf := t0.frozen
   clear t0
   go_wp2_with fail
   exact bodyPost_ret (v := .tuple #[T4 0 ⟨#[]⟩ 0 0, .int .i64 0, .int .i64 (d : Int)]) (by simp [results, Tryz.results83, go_sem, c0, c1, c2, c3]) rfl ⟨rfl, xH (lC hW b3) (Nat.le_refl _) _ _ _ _⟩
end Go.Proofs.YthogkmcahnkkoaaGreatDoor
