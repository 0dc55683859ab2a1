/- The program's reader: what is assigned is parted into names and expressions. The program's reader: what a statement is filled with. -/
import Derived.Test.YthogkmcahnkkoaaGreatDoorJ20
namespace Go.Proofs.YthogkmcahnkkoaaGreatDoor
open Go.RowKit
set_option maxRecDepth 10000
set_option linter.unusedSimpArgs false
set_option linter.unusedVariables false
def Fp (σ : AW) (N e : Nat) (v : Value) (ws : List ByteArray) : Prop := (ws = [] ∧ v = .slice none 0 0) ∨ Hu σ N e v ws
theorem Fp.gr {r : Nat} {σ σ' : AW} {N e : Nat} {v : Value} {ws : List ByteArray} (h : Fp σ N e v ws) (g : Gr r σ σ') (hr : r < N) : Fp σ' N e v ws := h.imp id (fun h => h.gr g hr)
theorem Fp.rd {σ : AW} {N e : Nat} {v : Value} {ws : List ByteArray} (h : Fp σ N e v ws) : Rd σ (fun k => N ≤ k) (sl 1 (ws.map Value.string)) v := by
 rcases h with ⟨rfl, rfl⟩ | h
 ·exact aW _ _ _
 ·exact h.rd
def VU (σ : AW) (N : Nat) (D : Nat → Prop) (e n : Nat) (v : Value) (vs ps : List Value) : Prop := (vs = [] ∧ ps = [] ∧ v = .slice none 0 0) ∨ ∃ B c k z, v = .slice (some ⟨B, 0, none⟩) vs.length c ∧ σ.get B = ⟨k, e, z, vs.flatMap aF⟩ ∧ ((k = 1 ∧ c = 2 * vs.length ∧ z = 1) ∨ (k = 2 ∧ c = 1 ∧ z = n)) ∧ N ≤ B ∧ B < σ.next ∧ nG σ D ps vs ∧ ∀ v ∈ vs, Sh n v
theorem VU.same {σ σ' : AW} {N : Nat} {D : Nat → Prop} {e n : Nat} {v : Value} {vs ps : List Value} (h : VU σ N D e n v vs ps) (hD : ∀ k, D k → k < N) (nx : σ.next ≤ σ'.next) (kp : ∀ k, k < N → k < σ.next → (σ.get k).esz ≠ 0 → σ'.get k = σ.get k) (he : ∀ j, j < σ.next → N ≤ j → (σ.get j).elem = e → σ'.get j = σ.get j) : VU σ' N D e n v vs ps := by
 rcases h with h | ⟨B, c, k, z, h1, h2, h3, h4, h5, h6, h7⟩
 ·exact .inl h
 ·exact .inr ⟨B, c, k, z, h1, by rw [he B h5 h4 (by rw [h2])]; exact h2, h3, h4, Nat.lt_of_lt_of_le h5 nx, h6.keep (fun j hj hlt hz => kp j (hD j hj) hlt hz) nx (fun _ h _ => h), h7⟩
theorem Ow.gr {σ σ' : AW} (h : Ow σ.next σ σ') (r : Nat) : Gr r σ σ' := ⟨h.next, fun k h1 _ => h.get k h1 h1⟩
def Gr2 (r M : Nat) (σ σ' : AW) : Prop := σ.next ≤ σ'.next ∧ ∀ k, k < σ.next → k ≠ r → k ≠ M → σ'.get k = σ.get k
theorem Gr.two {r : Nat} {σ σ' : AW} (h : Gr r σ σ') (M : Nat) : Gr2 r M σ σ' := ⟨h.next, fun k h1 h2 _ => h.get k h1 h2⟩
theorem Gr2.trans {r M : Nat} {σ σ1 σ2 : AW} (h : Gr2 r M σ σ1) (k : Gr2 r M σ1 σ2) : Gr2 r M σ σ2 := ⟨Nat.le_trans h.1 k.1, fun j h1 h2 h3 => (k.2 j (Nat.lt_of_lt_of_le h1 h.1) h2 h3).trans (h.2 j h1 h2 h3)⟩
theorem Gr2.set {r M : Nat} {σ : AW} (B : fZ) : Gr2 r M σ (σ.set M B) := ⟨Nat.le_refl _, fun _ _ _ h => bG h⟩
section
variable {r b : Nat} {T : List Tk}
end
end Go.Proofs.YthogkmcahnkkoaaGreatDoor
