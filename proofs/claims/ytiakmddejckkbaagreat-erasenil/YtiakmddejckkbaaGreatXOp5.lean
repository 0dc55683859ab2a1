/- Runs of closed code, reckoned: literals, make, copy, lengths. -/
import Derived.Test.YtiakmddejckkbaaGreatXOp4
namespace Go.Proofs.YtiakmddejckkbaaGreat

/-- Parts laid into cells. -/
def putL (cs : List Value) (off : Nat) (vs : List Value) : List Value := match vs with
  | [] => cs
  | v :: l => putL (cs.set off v) (off + 1) l
def fillL (place : Nat → Option (Nat × Nat)) (cs : List Value) : List (Nat × Value) → Option (List Value)
  | [] => some cs
  | (i, v) :: rest => match place i with
    | none => none
    | some (off, size) => if (cellsL v).length ≠ size ∨ off + (cellsL v).length > cs.length then none else fillL place (putL cs off (cellsL v)) rest
theorem putL_length : ∀ (vs cs : List Value) (off : Nat), (putL cs off vs).length = cs.length
  | [], _, _ => rfl
  | v :: l, cs, off => by rw [putL, putL_length l]; simp
theorem putL_foldl (cs : List Value) (vs : List Value) : ∀ (off j : Nat), ((vs.zipIdx j).foldl (fun (cs : Array Value) (p : Value × Nat) => cs.setIfInBounds (off + p.2) p.1) cs.toArray) = (putL cs (off + j) vs).toArray := by
  induction vs generalizing cs with
  | nil => intro off j; rfl
  | cons v l ih =>
    intro off j
    rw [List.zipIdx_cons, List.foldl_cons, putL]
    have e : (cs.toArray.setIfInBounds (off + j) v) = (cs.set (off + j) v).toArray := by simp
    simp only [e]
    rw [ih, Nat.add_assoc]
theorem fill_eq (place : Nat → Option (Nat × Nat)) : ∀ (ps : List (Nat × Value)) (cs : List Value), Instr.fill place cs.toArray ps = (fillL place cs ps).map List.toArray
  | [], cs => rfl
  | (i, v) :: rest, cs => by
    unfold Instr.fill fillL
    cases place i with
    | none => rfl
    | some p =>
      obtain ⟨off, size⟩ := p
      have hs : v.cells.size = (cellsL v).length := by rw [← cellsL_cells, Array.length_toList]
      simp only [hs, List.size_toArray]
      by_cases hc : (cellsL v).length ≠ size ∨ off + (cellsL v).length > cs.length
      · rw [if_pos (by simpa using hc), if_pos hc]; rfl
      · rw [if_neg (by simpa using hc), if_neg hc, ← fill_eq place rest]
        congr 1
        have hv : v.cells = (cellsL v).toArray := by rw [← cellsL_cells]
        rw [hv]
        have := putL_foldl cs (cellsL v) off 0
        simp only [Nat.add_zero] at this
        rw [← this]
        simp
theorem putL_map (f : Value → Value) : ∀ (vs cs : List Value) (off : Nat), (putL cs off vs).map f = putL (cs.map f) off (vs.map f)
  | [], _, _ => rfl
  | v :: l, cs, off => by rw [putL, putL_map f l, List.map_cons, putL, List.map_set]
theorem cellsL_ren (ρ : Rn) (v : Value) : cellsL (ren ρ v) = (cellsL v).map (ren ρ) := by
  rw [← cellsL_cells, cells_ren]
theorem fillL_map (ρ : Rn) (place : Nat → Option (Nat × Nat)) : ∀ (ps : List (Nat × Value)) (cs : List Value), fillL place (cs.map (ren ρ)) (ps.map fun p => (p.1, ren ρ p.2)) = (fillL place cs ps).map (·.map (ren ρ))
  | [], cs => rfl
  | (i, v) :: rest, cs => by
    simp only [List.map_cons, fillL]
    cases place i with
    | none => rfl
    | some p =>
      obtain ⟨off, size⟩ := p
      simp only [cellsL_ren, List.length_map]
      split
      · rfl
      · rw [← putL_map, fillL_map ρ place rest]
theorem mem_putL {D : Value → Prop} : ∀ (vs cs : List Value) (off : Nat), (∀ v ∈ cs, D v) → (∀ v ∈ vs, D v) → ∀ v ∈ putL cs off vs, D v
  | [], _, _, h, _ => h
  | u :: l, cs, off, h, k => by
    rw [putL]
    refine mem_putL l _ _ (fun v hv => ?_) (fun v hv => k v (List.mem_cons_of_mem _ hv))
    rcases List.mem_or_eq_of_mem_set hv with hv | rfl
    · exact h v hv
    · exact k v (List.mem_cons_self ..)
theorem mem_fillL {D : Nat → Prop} {place : Nat → Option (Nat × Nat)} : ∀ {ps : List (Nat × Value)} {cs r : List Value}, (∀ v ∈ cs, Sc D v) → (∀ p ∈ ps, Sc D p.2) → fillL place cs ps = some r → ∀ v ∈ r, Sc D v
  | [], cs, r, h, _, e => by injection e with e; subst e; exact h
  | (i, v) :: rest, cs, r, h, k, e => by
    unfold fillL at e
    split at e
    · cases e
    · split at e
      · cases e
      · exact mem_fillL (mem_putL _ _ _ h (cellsL_sc (k (i, v) (List.mem_cons_self ..)))) (fun p hp => k p (List.mem_cons_of_mem _ hp)) e

/-- The parts of a literal. -/
def evParts (A : Fr) : List (Nat × Operand) → Option (List (Nat × Value))
  | [] => some []
  | (i, x) :: l => match ev A x with
    | none => none
    | some v => match evParts A l with
      | none => none
      | some vs => some ((i, v) :: vs)
/-- What is known of the operands of one operation. -/
def HE (ρ : Rn) (σ : AW) (A : Fr) (a : Act) (xs : List Operand) : Prop := ∀ x ∈ xs, ∀ v, ev A x = some v → a.eval x = ren ρ v ∧ Sc σ.dom v
theorem parts_ok {ρ : Rn} {σ : AW} {A : Fr} {a : Act} : ∀ {l : List (Nat × Operand)} {vs : List (Nat × Value)}, HE ρ σ A a (l.map (·.2)) → evParts A l = some vs →
    (l.map fun (i, x) => (i, a.eval x)) = vs.map (fun p => (p.1, ren ρ p.2)) ∧ ∀ p ∈ vs, Sc σ.dom p.2
  | [], vs, _, e => by injection e with e; subst e; exact ⟨rfl, fun v hv => by cases hv⟩
  | (i, x) :: l, vs, h, e => by
    simp only [evParts] at e
    split at e
    · cases e
    · rename_i v hv
      split at e
      · cases e
      · rename_i us hus
        injection e with e
        subst e
        obtain ⟨h1, h2⟩ := h x (List.mem_cons_self ..) v hv
        obtain ⟨h3, h4⟩ := parts_ok (fun y hy => h y (List.mem_cons_of_mem _ hy)) hus
        refine ⟨by rw [List.map_cons, List.map_cons, h3]; simp [h1], fun u hu => ?_⟩
        cases hu with
        | head => exact h2
        | tail _ hu => exact h4 u hu

def placesA (P : Program) : List Field → Option (List (Nat × Nat))
  | [] => some []
  | f :: l => match szOf P f.type with
    | none => none
    | some n => match placesA P l with
      | none => none
      | some r => some ((f.offset, n) :: r)
theorem places_run {P : Program} (w : World) : ∀ {l : List Field} {r : List (Nat × Nat)}, placesA P l = some r → (l.mapM (fun f => (do pure (f.offset, ← sizeOf f.type) : Sem (Nat × Nat)))).run P w = .ok r w
  | [], r, e => by injection e with e; subst e; rfl
  | f :: l, r, e => by
    unfold placesA at e
    split at e
    · cases e
    · rename_i n hn
      split at e
      · cases e
      · rename_i r' hr
        injection e with e
        subst e
        rw [List.mapM_cons]
        simp only [Sem.run_bind, sizeOf_run hn, Result.andThen_ok, Sem.run_pure, places_run w hr]
/-- A literal of a struct or an array. -/
def buildA (P : Program) (t : TypeId) (ps : List (Nat × Value)) : Option Value := match zeroOf P t with
  | none => none
  | some z => match P.underlying t with
    | some (.struct fs) => match placesA P fs.toList with
      | none => none
      | some pl => match fillL (fun i => pl[i]?) (cellsL z) ps with
        | none => none
        | some cs => some (.agg cs.toArray)
    | some (.array _ e) => match szOf P e with
      | none => none
      | some n => match fillL (fun i => some (i * n, n)) (cellsL z) ps with
        | none => none
        | some cs => some (.agg cs.toArray)
    | _ => none
theorem zero_sc {z : Value} (h : Fl z) (D : Nat → Prop) : ∀ v ∈ cellsL z, Sc D v := cellsL_sc (h.sc D)
theorem zero_map {z : Value} (h : Fl z) (ρ : Rn) : (cellsL z).map (ren ρ) = cellsL z := by rw [← cellsL_ren, h ρ]
theorem build_ok {P : Program} {ρ : Rn} {D : Nat → Prop} {t : TypeId} {ps : List (Nat × Value)} {r : Value} (hp : ∀ p ∈ ps, Sc D p.2) (h : buildA P t ps = some r) (w : World) :
    (Instr.build t (ps.map fun p => (p.1, ren ρ p.2)).toArray).run P w = .ok (ren ρ r) w ∧ Sc D r := by
  unfold buildA at h
  split at h
  · cases h
  · rename_i z hz
    obtain ⟨hz1, hz2⟩ := zeroOf_run hz w
    have hzc : z.cells = (cellsL z).toArray := by rw [← cellsL_cells]
    split at h
    · rename_i fs hu
      split at h
      · cases h
      · rename_i pl hpl
        split at h
        · cases h
        · rename_i cs hcs
          injection h with h
          subst h
          refine ⟨?_, sc_agg (fun v hv => mem_fillL (zero_sc hz2 D) hp hcs v (by simpa using hv))⟩
          have hm := fillL_map ρ (fun i => pl[i]?) ps (cellsL z)
          rw [hcs, zero_map hz2] at hm
          unfold Instr.build
          have hrun : (fs.mapM (fun f => (do pure (f.offset, ← sizeOf f.type) : Sem (Nat × Nat)))).run P w = .ok pl.toArray w := by
            rw [Array.mapM_eq_mapM_toList, Sem.run_map, places_run w hpl]
            rfl
          simp only [Sem.run_bind, hz1, Result.andThen_ok, underlying, run_program, hu, Sem.run_pure, hrun, hzc, List.getElem?_toArray, fill_eq, hm]
          simp [ren_agg]
    · rename_i len e hu
      split at h
      · cases h
      · rename_i n hn
        split at h
        · cases h
        · rename_i cs hcs
          injection h with h
          subst h
          refine ⟨?_, sc_agg (fun v hv => mem_fillL (zero_sc hz2 D) hp hcs v (by simpa using hv))⟩
          have hm := fillL_map ρ (fun i => some (i * n, n)) ps (cellsL z)
          rw [hcs, zero_map hz2] at hm
          unfold Instr.build
          simp only [Sem.run_bind, hz1, Result.andThen_ok, underlying, run_program, hu, Sem.run_pure, sizeOf_run hn, hzc, fill_eq, hm]
          simp [ren_agg]
    · cases h

end Go.Proofs.YtiakmddejckkbaaGreat
