/- The law ValueLaws at any three values: it answers true; nothing that was there has turned. -/
import Derived.Test.YtpmkmemdammiaaaLawsOut
import Derived.Test.YtpmkmemdammiaaaLawsMain
namespace Go.Proofs.Ytpmkmemdammiaaa
open Go.RowKit Go.Sort

theorem empty_of {s : ByteArray} (h : s.toList = []) : s = E0 := by
  rw [ByteArray.toList_eq] at h
  cases s with
  | mk d => simp at h; subst h; rfl

theorem tri_of {t n : Int} {s : ByteArray} (h : (rightE t n s == 0) = true) (g : t ≤ 1) : ∃ x : Option Bool, V t n s = VT x := by
  have h' : rightE t n s = 0 := by simpa using h
  unfold rightE at h'
  by_cases t0 : t = 0
  · subst t0
    simp at h'
    exact ⟨none, by rw [h'.1, empty_of h'.2]; rfl⟩
  by_cases t1 : t = 1
  · subst t1
    simp at h'
    rcases h' with ⟨rfl | rfl, e⟩
    · exact ⟨some false, by rw [empty_of e]; rfl⟩
    · exact ⟨some true, by rw [empty_of e]; rfl⟩
  rw [if_neg t0, if_neg t1, if_neg (by omega), if_neg (by omega)] at h'
  omega

theorem laws_law (t0 n0 : Int) (s0 : ByteArray) (t1 n1 : Int) (s1 : ByteArray) (t2 n2 : Int) (s2 : ByteArray) (_ : inR t0) (_ : inR n0) (_ : s0.size ≤ maxLen) (_ : inR t1) (_ : inR n1) (_ : s1.size ≤ maxLen) (_ : inR t2) (_ : inR n2) (_ : s2.size ≤ maxLen) (w : World) :
    Calls Try.prog 4 #[V t0 n0 s0, V t1 n1 s1, V t2 n2 s2] w fun e w' => e = .returned (.bool true) ∧ Below w.heap.size w w' := by
  cases r0 : (rightE t0 n0 s0 == 0)
  · exact laws0a t0 n0 s0 t1 n1 s1 t2 n2 s2 r0 w
  by_cases g0 : 1 < t0
  · exact laws0b t0 n0 s0 t1 n1 s1 t2 n2 s2 r0 g0 w
  cases r1 : (rightE t1 n1 s1 == 0)
  · exact laws1a t0 n0 s0 t1 n1 s1 t2 n2 s2 r0 (by omega) r1 w
  by_cases g1 : 1 < t1
  · exact laws1b t0 n0 s0 t1 n1 s1 t2 n2 s2 r0 (by omega) r1 g1 w
  cases r2 : (rightE t2 n2 s2 == 0)
  · exact laws2a t0 n0 s0 t1 n1 s1 t2 n2 s2 r0 (by omega) r1 (by omega) r2 w
  by_cases g2 : 1 < t2
  · exact laws2b t0 n0 s0 t1 n1 s1 t2 n2 s2 r0 (by omega) r1 (by omega) r2 g2 w
  obtain ⟨x, hx⟩ := tri_of r0 (by omega)
  obtain ⟨y, hy⟩ := tri_of r1 (by omega)
  obtain ⟨z, hz⟩ := tri_of r2 (by omega)
  rw [hx, hy, hz]
  exact lawsMain x y z w

end Go.Proofs.Ytpmkmemdammiaaa
