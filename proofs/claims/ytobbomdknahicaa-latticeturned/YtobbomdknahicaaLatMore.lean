/- Edges turned round, in another order, or with such as follow: what becomes of a lattice. -/
import Derived.Test.YtobbomdknahicaaLatPure
import Derived.Test.YtobbomdknahicaaNewSpec
namespace Go.Proofs.Ytobbomdknahicaa

def backE (E : List (ByteArray × ByteArray)) : List (ByteArray × ByteArray) := E.map fun e => (e.2, e.1)
theorem edgesOk_iff {L : List ByteArray} {E : List (ByteArray × ByteArray)} : edgesOk L E = true ↔ ∀ e ∈ E, hasB L e.1 = true ∧ hasB L e.2 = true := by
  unfold edgesOk
  rw [List.all_eq_true]
  exact ⟨fun h e he => by simpa using h e he, fun h e he => by simpa using h e he⟩
theorem bool_ext {a b : Bool} (h : a = true ↔ b = true) : a = b := by
  cases a <;> cases b <;> simp at h <;> rfl
theorem edgesOk_back (L : List ByteArray) (E : List (ByteArray × ByteArray)) : edgesOk L (backE E) = edgesOk L E := by
  refine bool_ext ?_
  rw [edgesOk_iff, edgesOk_iff]
  refine ⟨fun h e he => ?_, fun h e he => ?_⟩
  · have := h (e.2, e.1) (List.mem_map.2 ⟨e, he, rfl⟩)
    exact ⟨this.2, this.1⟩
  · obtain ⟨x, hx, rfl⟩ := List.mem_map.1 he
    exact ⟨(h x hx).2, (h x hx).1⟩
theorem leL_back {L : List ByteArray} {E : List (ByteArray × ByteArray)} (h : edgesOk L E = true) : leL L (backE E) = flipI (leL L E) := by
  have h' : edgesOk L (backE E) = true := by rw [edgesOk_back]; exact h
  refine leI_flip (ixE_lt h) (ixE_lt h') fun a b => ⟨fun g => ?_, fun g => ?_⟩
  · refine g.rev fun e he => ?_
    simp only [ixE, List.mem_map] at he
    obtain ⟨x, hx, rfl⟩ := he
    simp only [ixE, backE, List.mem_map]
    exact ⟨(x.2, x.1), ⟨x, hx, rfl⟩, rfl⟩
  · refine g.rev fun e he => ?_
    simp only [ixE, backE, List.mem_map] at he
    obtain ⟨x, ⟨y, hy, rfl⟩, rfl⟩ := he
    simp only [ixE, List.mem_map]
    exact ⟨y, hy, rfl⟩
theorem latErr_same {L : List ByteArray} {E F : List (ByteArray × ByteArray)} (hlen : 64 < F.length ↔ 64 < E.length) (he : edgesOk L F = edgesOk L E) (hok : edgesOk L E = true → latOk (leL L F) L.length = latOk (leL L E) L.length) : latErr L F = latErr L E := by
  unfold latErr
  simp only [hlen, he]
  by_cases h1 : 16 < L.length ∨ 64 < E.length
  · rw [if_pos h1, if_pos h1]
  · rw [if_neg h1, if_neg h1]
    by_cases h2 : namesOk L = false ∨ edgesOk L E = false
    · rw [if_pos h2, if_pos h2]
    · rw [if_neg h2, if_neg h2]
      have h3 : edgesOk L E = true := by
        cases c : edgesOk L E with
        | true => rfl
        | false => exact absurd (.inr c) h2
      rw [hok h3]
theorem latErr_back (L : List ByteArray) (E : List (ByteArray × ByteArray)) : latErr L (backE E) = latErr L E :=
  latErr_same (by simp [backE]) (edgesOk_back L E) fun h => by rw [leL_back h, latOk_flip]

/-- Edges that follow from others, and no edge left out. -/
def Follows (E F : List (ByteArray × ByteArray)) : Prop :=
  (∀ e ∈ E, e ∈ F) ∧ ∀ f ∈ F, f ∈ E ∨ ∃ e ∈ E, ∃ g ∈ E, e.2 = g.1 ∧ f = (e.1, g.2)
theorem edgesOk_follows {L : List ByteArray} {E F : List (ByteArray × ByteArray)} (h : Follows E F) : edgesOk L F = edgesOk L E := by
  refine bool_ext ?_
  rw [edgesOk_iff, edgesOk_iff]
  refine ⟨fun g e he => g e (h.1 e he), fun g f hf => ?_⟩
  rcases h.2 f hf with h1 | ⟨e, he, x, hx, _, rfl⟩
  · exact g f h1
  · exact ⟨(g e he).1, (g x hx).2⟩
theorem leL_follows {L : List ByteArray} {E F : List (ByteArray × ByteArray)} (h : Follows E F) (hE : edgesOk L E = true) : leL L F = leL L E := by
  have hF : edgesOk L F = true := by rw [edgesOk_follows h]; exact hE
  refine leI_congr (ixE_lt hF) (ixE_lt hE) fun a b => ⟨fun g => g.sub fun e he => ?_, fun g => g.sub fun e he => ?_⟩
  · simp only [ixE, List.mem_map] at he
    obtain ⟨f, hf, rfl⟩ := he
    rcases h.2 f hf with h1 | ⟨e, he, x, hx, hm, rfl⟩
    · exact Reach.edge (E := ixE L E) (e := (posN L f.1, posN L f.2)) (List.mem_map.2 ⟨f, h1, rfl⟩)
    · have r1 := Reach.edge (E := ixE L E) (e := (posN L e.1, posN L e.2)) (List.mem_map.2 ⟨e, he, rfl⟩)
      have r2 := Reach.edge (E := ixE L E) (e := (posN L x.1, posN L x.2)) (List.mem_map.2 ⟨x, hx, rfl⟩)
      rw [← hm] at r2
      exact r1.trans r2
  · simp only [ixE, List.mem_map] at he
    obtain ⟨x, hx, rfl⟩ := he
    exact Reach.edge (E := ixE L F) (e := (posN L x.1, posN L x.2)) (List.mem_map.2 ⟨x, h.1 x hx, rfl⟩)
theorem latErr_follows {L : List ByteArray} {E F : List (ByteArray × ByteArray)} (h : Follows E F) (hlen : 64 < F.length ↔ 64 < E.length) : latErr L F = latErr L E :=
  latErr_same hlen (edgesOk_follows h) fun g => by rw [leL_follows h g]

end Go.Proofs.Ytobbomdknahicaa
