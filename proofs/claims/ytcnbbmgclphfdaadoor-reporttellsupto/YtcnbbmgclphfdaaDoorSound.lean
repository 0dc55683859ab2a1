/- Rows whose values are all right. -/
import Derived.Test.YtcnbbmgclphfdaaDoorRows2
import Derived.Laws.Strings
namespace Go.Proofs.YtcnbbmgclphfdaaDoor
open Go.RowKit Go.Sort

/-- A right value, of numbers of the machine. -/
def Sound (e : Ent) : Prop := rightE e.1 e.2.1 e.2.2 = 0 ∧ inR e.1 ∧ inR e.2.1

theorem sound_of {l : List Ent} (h : encErr l = 0) (hf : Fair l) : ∀ e ∈ l, Sound e := by
  intro e he
  have h0 : rowErr l = 0 := by
    by_cases c : rowErr l = 0
    · exact c
    · unfold encErr at h; rw [if_neg c] at h; exact absurd h c
  exact ⟨rowErr_zero h0 e he, (hf e he).2⟩
theorem encS_list {l : List Ent} (h : encErr l = 0) : (encS l).toList = encRow l := by
  rw [encS, if_pos h]; exact ByteArray.toList_mk _

end Go.Proofs.YtcnbbmgclphfdaaDoor
