/- What the calls of layer 23 find in memory: the library's table of powers of ten, and its number; contracts of the error's words, the document's and the program's. -/
import Derived.Test.YtcnbbmgclphfdaaDoorRpDec
import Derived.Test.YtcnbbmgclphfdaaDoorRpShelf
import Derived.Lib.LaidTab
namespace Go.Proofs.YtcnbbmgclphfdaaDoor
open Go.RowKit Go.Sort

/-- The library's table and its number are as they are laid. -/
def Glob (w : World) : Prop := Lib.TabIs Tryd.prog w "internal/strconv.uint64pow10" .u64 Lib.pow10Tab ∧ ∃ m : Int, w.cell? ⟨0, 0, none⟩ = some (.int .i64 m)
theorem var_keep {w w' : World} {name : String} {cs : Array Value} (h : w.var? Tryd.prog name = some cs) (k : Below w.heap.size w w') : w'.var? Tryd.prog name = some cs := by
  unfold World.var? at h ⊢
  cases hg : Tryd.prog.globalNamed name with
  | none => rw [hg] at h; cases h
  | some g =>
    rw [hg] at h
    simp only [Option.bind_some] at h ⊢
    have hlt : g < w.heap.size := by
      rcases Nat.lt_or_ge g w.heap.size with hl | hl
      · exact hl
      · rw [Array.getElem?_eq_none hl] at h; cases h
    rw [k.block g hlt]
    exact h
theorem Glob.keep {w w' : World} (h : Glob w) (k : Below w.heap.size w w') : Glob w' :=
  ⟨var_keep h.1 k, h.2.imp fun _ hm => cell_keep hm k⟩

theorem IsB.keep {B b : Nat} {l : List UInt8} {w w' : World} (h : IsB B b l w) (k : Below w.heap.size w w') : IsB B b l w' := by
  have at_keep : ∀ {p : Value}, Lib.BuilderAtF 61 5 B b p (Lib.byteCells l) w → Lib.BuilderAtF 61 5 B b p (Lib.byteCells l) w' := by
    rintro p ⟨hB, v, hb, hown, hne⟩
    exact ⟨hB, v, (k.block b (Array.getElem?_eq_some_iff.1 hb).1).trans hb, hown.kept (grownBy_of_below k) (by cases v.ownBlock <;> simp), hne⟩
  exact h.imp at_keep at_keep

theorem itoa_any (w : World) (hG : Glob w) (n : Int) (h0 : -9223372036854775808 ≤ n) (h1 : n ≤ 9223372036854775807) :
    Calls Tryd.prog 30 #[.int .i64 n] w fun e w' => e = .returned (.string (decB n)) ∧ Below w.heap.size w w' := by
  refine (Tryd.strconv_Itoa n h0 h1 w hG.1).mono ?_
  rintro e w' ⟨rfl, k, os, rfl⟩
  exact ⟨rfl, below_regrown w (w.drawn + k) os⟩

end Go.Proofs.YtcnbbmgclphfdaaDoor
