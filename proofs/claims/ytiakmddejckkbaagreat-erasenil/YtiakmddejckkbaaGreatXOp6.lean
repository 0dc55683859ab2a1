/- Runs of closed code, reckoned: new slices, copy, lengths, maps. -/
import Derived.Test.YtiakmddejckkbaaGreatXOp5
namespace Go.Proofs.YtiakmddejckkbaaGreat

/-- n times the zero value's cells. -/
def repL : Nat → List Value → List Value
  | 0, _ => []
  | n + 1, z => z ++ repL n z
theorem repL_length (z : List Value) : ∀ n, (repL n z).length = n * z.length
  | 0 => by simp [repL]
  | n + 1 => by rw [repL, List.length_append, repL_length z n, Nat.add_mul, Nat.one_mul, Nat.add_comm]
theorem repL_get {z : List Value} : ∀ (n i : Nat), i < n * z.length → (repL n z)[i]? = z[i % z.length]?
  | 0, i, h => by simp at h
  | n + 1, i, h => by
    rw [repL]
    by_cases hi : i < z.length
    · rw [List.getElem?_append_left hi, Nat.mod_eq_of_lt hi]
    · have h' : i < n * z.length + z.length := by rw [Nat.add_mul, Nat.one_mul] at h; exact h
      rw [List.getElem?_append_right (by omega), repL_get n (i - z.length) (by omega), Nat.mod_eq_sub_mod (a := i) (by omega)]
theorem zeros_eq (z : Array Value) (n m : Nat) (hz : z.size = m) : ((Array.range (n * m)).map (z[· % z.size]!)) = (repL n z.toList).toArray := by
  apply Array.ext'
  apply List.ext_getElem?
  intro i
  by_cases hi : i < n * m
  · have h1 : i < n * z.toList.length := by simpa [hz] using hi
    have h2 : i % z.size < z.size := Nat.mod_lt _ (by
      rcases Nat.eq_zero_or_pos z.size with h | h
      · rw [← hz, h] at hi; simp at hi
      · exact h)
    rw [List.toList_toArray, repL_get n i h1]
    simp [hi, h2, Array.length_toList]
  · have h1 : (repL n z.toList).length ≤ i := by rw [repL_length]; simpa [hz] using hi
    simp [hi, h1]
theorem mem_repL {D : Value → Prop} {z : List Value} (h : ∀ v ∈ z, D v) : ∀ n, ∀ v ∈ repL n z, D v
  | 0, v, hv => by cases hv
  | n + 1, v, hv => by
    rcases List.mem_append.1 hv with hv | hv
    · exact h v hv
    · exact mem_repL h n v hv
theorem repL_map (f : Value → Value) {z : List Value} (h : z.map f = z) : ∀ n, (repL n z).map f = repL n z
  | 0 => rfl
  | n + 1 => by rw [repL, List.map_append, h, repL_map f h n]

/-- A new row, closed. -/
theorem newRow_ok {P : Program} {ρ : Rn} {σ : AW} {w : World} (h : Rel ρ σ w) (t : TypeId) {cs : List Value} (hs : ∀ v ∈ cs, Sc σ.dom v) {len c : Nat} :
    ∃ ρ' w', (newRow t (cs.map (ren ρ)).toArray).run P w = .ok (renB ρ' ⟨σ.next, 0, none⟩) w' ∧ Step ρ σ w ρ' (σ.push ⟨1, t, 0, cs⟩) w' ∧
      ren ρ' (.slice (some ⟨σ.next, 0, none⟩) len (2 * c)) = .slice (some (renB ρ' ⟨σ.next, 0, none⟩)) len c := by
  obtain ⟨ρ', h1, h2⟩ := step_new (cap := 0) (b := ⟨1, t, 0, cs⟩) (o := .cells (cs.map (ren ρ)).toArray t) h (by simp) hs (fun ρ' e w' hw => by
    show w'.heap[w.heap.size]? = _
    rw [hw, map_sc hs (fun k hk => e k hk.1)])
  refine ⟨ρ', _, ?_, h2, by rw [ren_slice, capR_even]⟩
  unfold newRow
  simp only [renB, h1]
  rfl
/-- A literal of a slice. -/
def buildSliceA (P : Program) (σ : AW) (t : TypeId) (len : Nat) (ps : List (Nat × Value)) : Option (Value × AW) := match P.underlying t with
  | some (.slice e) => match szOf P e with
    | none => none
    | some n => if len * n > 16777216 ∨ n = 0 then none else match zeroOf P e with
      | none => none
      | some z => if (cellsL z).length ≠ n then none else match fillL (fun i => some (i * n, n)) (repL len (cellsL z)) ps with
        | none => none
        | some cs => some (.slice (some ⟨σ.next, 0, none⟩) len (2 * len), σ.push ⟨1, e, 0, cs⟩)
  | _ => none
theorem buildSlice_ok {P : Program} {ρ : Rn} {σ σ' : AW} {w : World} (hR : Rel ρ σ w) {t : TypeId} {len : Nat} {ps : List (Nat × Value)} {r : Value} (hp : ∀ p ∈ ps, Sc σ.dom p.2) (h : buildSliceA P σ t len ps = some (r, σ')) :
    ∃ ρ' w', (Instr.buildSlice t len (ps.map fun p => (p.1, ren ρ p.2)).toArray).run P w = .ok (ren ρ' r) w' ∧ Step ρ σ w ρ' σ' w' ∧ Sc σ'.dom r := by
  unfold buildSliceA at h
  split at h
  · rename_i e hu
    split at h
    · cases h
    · rename_i n hn
      split at h
      · cases h
      · rename_i hc
        split at h
        · cases h
        · rename_i z hz
          split at h
          · cases h
          · rename_i hzl
            split at h
            · cases h
            · rename_i cs hcs
              injection h with h
              injection h with h1 h2
              subst h1 h2
              have hzn : (cellsL z).length = n := Decidable.byContradiction hzl
              obtain ⟨hz1, hz2⟩ := zeroOf_run hz w
              have hm := fillL_map ρ (fun i => some (i * n, n)) ps (repL len (cellsL z))
              rw [hcs, repL_map _ (zero_map hz2 ρ)] at hm
              have hsc : ∀ v ∈ cs, Sc σ.dom v := mem_fillL (mem_repL (zero_sc hz2 _) len) hp hcs
              obtain ⟨ρ', w', hrow, hst, hr⟩ := newRow_ok (P := P) hR e hsc (len := len) (c := len)
              refine ⟨ρ', w', ?_, hst, sc_slice (push_dom (by simp))⟩
              have hzc : z.cells.size = n := by rw [← hzn, ← cellsL_cells, Array.length_toList]
              have hze := zeros_eq z.cells len n hzc
              rw [cellsL_cells] at hze
              have hc1 : ¬ (len * n > 2 ^ 24) := fun x => hc (.inl (by omega))
              have hn0 : ¬ n = 0 := fun x => hc (.inr x)
              rw [hr]
              unfold Instr.buildSlice
              by_cases hl0 : len * n = 0
              · have hl : len = 0 := by rcases Nat.mul_eq_zero.1 hl0 with h | h; exact h; exact absurd h hn0
                subst hl
                have e0 : fillL (fun i => some (i * n, n)) [] (ps.map fun p => (p.1, ren ρ p.2)) = some (cs.map (ren ρ)) := hm
                have e1 : ((Array.range 0).map fun (x : Nat) => (#[] : Array Value)[x % (#[] : Array Value).size]!) = (([] : List Value).toArray) := by simp
                simp only [Sem.run_bind, underlying, run_program, hu, Result.andThen_ok, Sem.run_pure, sizeOf_run hn, Nat.zero_mul, if_true]
                simp only [show ¬ (0 > 2 ^ 24) by omega, if_false, Sem.run_bind, Sem.run_pure, Result.andThen_ok, e1, fill_eq, e0, Option.map_some, hrow]
              · simp only [Sem.run_bind, underlying, run_program, hu, Result.andThen_ok, Sem.run_pure, sizeOf_run hn, hc1, if_false, hl0, hz1, hze, fill_eq, hm, Option.map_some, hrow]
  · cases h
/-- make of a slice. -/
def makeSliceA (P : Program) (σ : AW) (t : TypeId) (len cap : Value) : Option (Value × AW) := match P.underlying t, len, cap with
  | some (.slice e), .int _ l, .int _ c => match P.info? e with
    | none => none
    | some i => match zeroOf P e with
      | none => none
      | some z => if 0 ≤ l ∧ l ≤ c ∧ c ≤ 1000000 ∧ i.bytes ≤ 100000 ∧ (cellsL z).length = i.size ∧ 0 < i.size then
          some (.slice (some ⟨σ.next, 0, none⟩) l.toNat (2 * c.toNat), σ.push ⟨1, e, 0, repL c.toNat (cellsL z)⟩) else none
  | _, _, _ => none
theorem wrap_small {n : Int} (h0 : 0 ≤ n) (h1 : n ≤ 1000000) : IntKind.i64.wrap n = n := by
  unfold IntKind.wrap
  simp [IntKind.bits, IntKind.signed]
  omega
theorem makeSlice_ok {P : Program} {ρ : Rn} {σ σ' : AW} {w : World} (hR : Rel ρ σ w) {t : TypeId} {len cap r : Value} (h : makeSliceA P σ t len cap = some (r, σ')) :
    ∃ ρ' w', (Instr.makeSlice t (ren ρ len) (ren ρ cap)).run P w = .ok (ren ρ' r) w' ∧ Step ρ σ w ρ' σ' w' ∧ Sc σ'.dom r := by
  unfold makeSliceA at h
  split at h
  · rename_i e k1 l k2 c hu
    split at h
    · cases h
    · rename_i i hi
      split at h
      · cases h
      · rename_i z hz
        split at h
        · rename_i hc
          obtain ⟨h0, h1, h2, h3, h4, h5⟩ := hc
          injection h with h
          injection h with e1 e2
          subst e1 e2
          obtain ⟨hz1, hz2⟩ := zeroOf_run hz w
          have hsc : ∀ v ∈ repL c.toNat (cellsL z), Sc σ.dom v := mem_repL (zero_sc hz2 _) _
          obtain ⟨ρ', w', hrow, hst, hr⟩ := newRow_ok (P := P) hR e hsc (len := l.toNat) (c := c.toNat)
          refine ⟨ρ', w', ?_, hst, sc_slice (push_dom (by simp))⟩
          rw [repL_map _ (zero_map hz2 ρ)] at hrow
          have hzc : z.cells.size = i.size := by rw [← h4, ← cellsL_cells, Array.length_toList]
          have hze := zeros_eq z.cells c.toNat i.size hzc
          rw [cellsL_cells] at hze
          have hb : ¬ ((281474976710656 : Int) < (i.bytes : Int) * c) := by
            have : (i.bytes : Int) * c ≤ 100000 * 1000000 := Int.mul_le_mul (by omega) h2 (by omega) (by omega)
            omega
          have hsz : (sizeOf e).run P w = .ok i.size w := by simp [sizeOf, typeInfo, hi]
          rw [hr]
          unfold Instr.makeSlice
          have hl0 : ¬ l < 0 := by omega
          have hc0 : ¬ c < 0 := by omega
          have hlc : ¬ c < l := by omega
          by_cases hn : c.toNat * i.size = 0
          · have hcz : c.toNat = 0 := by rcases Nat.mul_eq_zero.1 hn with h | h; exact h; omega
            rw [hcz] at hrow
            simp only [repL] at hrow
            have e1 : Array.map (fun (_ : Nat) => (default : Value)) (Array.range 0) = #[] := by apply Array.ext'; simp
            simp [ren_int, asInt, asIntOf, underlying, hu, typeInfo, hi, wrap_small h0 (by omega), wrap_small (by omega : 0 ≤ c) h2, hl0, hc0, hlc, hb, sizeOf, hcz, e1, hrow]
          · simp [ren_int, asInt, asIntOf, underlying, hu, typeInfo, hi, wrap_small h0 (by omega), wrap_small (by omega : 0 ≤ c) h2, hl0, hc0, hlc, hb, sizeOf, hn, hz1, hze, hrow]
        · cases h
  · cases h

end Go.Proofs.YtiakmddejckkbaaGreat
