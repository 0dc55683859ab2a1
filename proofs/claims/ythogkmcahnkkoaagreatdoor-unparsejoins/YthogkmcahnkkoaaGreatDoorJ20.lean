/- The document's comparison of trees: two that read as the same tree are the same. -/
import Derived.Test.YthogkmcahnkkoaaGreatDoorJ19
namespace Go.Proofs.YthogkmcahnkkoaaGreatDoor
open Go.RowKit
set_option maxRecDepth 10000
set_option linter.unusedSimpArgs false
set_option linter.unusedVariables false
theorem Rd.kp {σ σ' : AW} {D : Nat → Prop} {v p : Value} (h : Rd σ D p v) (k : Kp σ σ') : Rd σ' D p v := h.ks k.ks
theorem Jq {n : Nat} : ∀ {l : List Value} {i : Nat}, (∀ x ∈ l, (aF x).length = n) → (h : i < l.length) → ((l.flatMap aF).drop (i * n)).take n = aF l[i]
 | x :: l, 0, hl, _ => by
  have h1 := hl x (List.mem_cons_self ..)
  rw [List.flatMap_cons, Nat.zero_mul, List.drop_zero, List.take_left' h1]
  rfl
 | x :: l, i + 1, hl, h => by
  have h1 := hl x (List.mem_cons_self ..)
  rw [List.flatMap_cons, List.drop_append, h1, List.drop_of_length_le (by rw [h1, Nat.add_mul]; omega), List.nil_append, show (i + 1) * n - n = i * n by rw [Nat.add_mul]; omega]
  exact Jq (fun y hy => hl y (List.mem_cons_of_mem _ hy)) (by simpa using h)
theorem nG.at {σ : AW} {D : Nat → Prop} : ∀ {ps l : List Value} {i : Nat}, nG σ D ps l → (h : i < ps.length) → (h' : i < l.length) → Rd σ D ps[i] l[i]
 | _ :: _, _, 0, ⟨v, l', rfl, h2, h3⟩, _, _ => h2
 | _ :: _, _, i + 1, ⟨v, l', rfl, h2, h3⟩, h, h' => nG.at (i := i) h3 (by simpa using h) (by simpa using h')
theorem aG {σ : AW} {D : Nat → Prop} {n : Nat} {ps : List Value} {v : Value} (h : Rd σ D (sl n ps) v) : ∃ a c, v = .slice a ps.length c := by
 obtain ⟨m, h1, hs⟩ := oO.1 h
 have hl := h1.length
 rcases hs with ⟨rfl, a, c, rfl⟩ | ⟨b, o, c, k, e, z, cs, rfl, _⟩
 ·exact ⟨a, c, by rw [← hl]; rfl⟩
 ·exact ⟨_, c, by rw [hl]⟩
end Go.Proofs.YthogkmcahnkkoaaGreatDoor
