/- Rows that are gone through are fair. -/
import Derived.Test.YtcnbbmgclphfdaaDoorOwnV
namespace Go.Proofs.YtcnbbmgclphfdaaDoor
open Go.RowKit Go.Sort

theorem fair_of_few {l : List Ent} (h : fewB l = true) (hr : ∀ e ∈ l, inR e.1 ∧ inR e.2.1) : Fair l ∧ l.length ≤ 60 := by
  simp only [fewB, Bool.and_eq_true, decide_eq_true_eq, List.all_eq_true] at h
  exact ⟨fun e he => ⟨h.1 e he, hr e he⟩, h.2⟩

end Go.Proofs.YtcnbbmgclphfdaaDoor
