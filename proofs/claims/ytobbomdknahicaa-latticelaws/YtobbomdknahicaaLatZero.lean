/- The program's lattice as it is made, ahead of all that New lays into it. -/
import Derived.Test.YtobbomdknahicaaLatMem
namespace Go.Proofs.Ytobbomdknahicaa
open Go.RowKit Go.Sort

/-- A lattice as it is made: nothing in it. -/
def zeroLat : Array Value := #[.slice none 0 0, .map none] ++ Array.replicate 32 (.int .u32 0) ++ Array.replicate 514 (.int .i64 0)
theorem zeroLat_info : (Try.prog.info? 60).bind (·.zero) = some (.agg zeroLat) := by kernel_rfl
theorem zeroLat_run (w : World) : (zeroValue 60).run Try.prog w = .ok (.agg zeroLat) w := by
  have h := zeroLat_info
  cases hi : Try.prog.info? 60 with
  | none => rw [hi] at h; cases h
  | some i =>
    rw [hi] at h
    have hz : i.zero = some (.agg zeroLat) := h
    simp [zeroValue, typeInfo, hi, hz]
theorem zeroLat_size : zeroLat.size = 548 := by decide +kernel
theorem zeroLat_lat : LatC zeroLat (.slice none 0 0) (.map none) (fun _ => 0) (fun _ => 0) (fun _ _ => 0) (fun _ _ => 0) 0 0 := by
  have h1 : ∀ i, 2 ≤ i → i < 34 → zeroLat[i]? = some (.int .u32 0) := fun i h1 h2 => by
    unfold zeroLat
    rw [Array.getElem?_append_left (by simp; omega), Array.getElem?_append_right (by simp; omega), Array.getElem?_replicate, if_pos (by simp; omega)]
  have h2 : ∀ i, 34 ≤ i → i < 548 → zeroLat[i]? = some (.int .i64 0) := fun i h1 h2 => by
    unfold zeroLat
    rw [Array.getElem?_append_right (by simp; omega), Array.getElem?_replicate, if_pos (by simp; omega)]
  have h0 : ∀ i, i < 2 → zeroLat[i]? = (#[.slice none 0 0, .map none] : Array Value)[i]? := fun i h => by
    unfold zeroLat
    rw [Array.getElem?_append_left (by simp; omega), Array.getElem?_append_left (by simp; omega)]
  refine ⟨zeroLat_size, h0 0 (by omega), h0 1 (by omega), fun a ha => h1 _ (by omega) (by omega), fun a ha => h1 _ (by omega) (by omega), fun a b ha hb => h2 _ (by omega) (by omega), fun a b ha hb => h2 _ (by omega) (by omega), h2 _ (by omega) (by omega), h2 _ (by omega) (by omega)⟩

end Go.Proofs.Ytobbomdknahicaa
