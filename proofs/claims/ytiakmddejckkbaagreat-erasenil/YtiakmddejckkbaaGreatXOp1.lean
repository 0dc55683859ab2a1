/- Runs of closed code, reckoned: loads, stores, new variables, fields. -/
import Derived.Test.YtiakmddejckkbaaGreatXPure
import Derived.Laws.Cells
import Derived.Laws.CopyRow
namespace Go.Proofs.YtiakmddejckkbaaGreat

def isAggB (P : Program) (t : TypeId) : Option Bool := match P.underlying t with
  | some (.struct _) | some (.array _ _) => some true
  | some _ => some false
  | none => none
def szOf (P : Program) (t : TypeId) : Option Nat := match P.info? t with
  | some i => some i.size
  | none => none
def oneB : Value → Bool
  | .agg _ | .tuple _ => false
  | _ => true
def cellsL : Value → List Value
  | .agg ⟨l⟩ => l
  | v => [v]
theorem cells_ren (ρ : Rn) (v : Value) : (ren ρ v).cells = ((cellsL v).map (ren ρ)).toArray := by
  cases v with
  | agg a => obtain ⟨l⟩ := a; rw [ren_agg, List.map_toArray]; rfl
  | tuple a => rw [ren_tuple]; simp only [Value.cells, cellsL, List.map, ren_tuple]
  | func a b c => rw [ren_func]; simp only [Value.cells, cellsL, List.map, ren_func]
  | _ => rfl
theorem one_ren (ρ : Rn) (v : Value) (h : oneB v = true) : (ren ρ v).oneCell' = true := by
  cases v with
  | agg a => cases h
  | tuple a => cases h
  | func a b c => rw [ren_func]; rfl
  | _ => rfl
theorem cellsL_sc {D : Nat → Prop} {v : Value} (h : Sc D v) : ∀ u ∈ cellsL v, Sc D u := by
  cases v with
  | agg a => exact of_sc_agg h
  | _ => intro u hu; simp only [cellsL, List.mem_singleton] at hu; subst hu; exact h

/-- The cells of the row that an address leads into. -/
def rowOf (σ : AW) (a : Addr) : Option (List Value) := match a.spot with
  | some _ => none
  | none => match σ.get a.block with
    | ⟨1, _, _, cs⟩ => some cs
    | ⟨2, _, _, cs⟩ => some cs
    | _ => none
theorem row_ok {ρ : Rn} {σ : AW} {w : World} (h : Rel ρ σ w) {a : Addr} {cs : List Value} (hr : rowOf σ a = some cs) :
    σ.live a.block ∧ a.spot = none ∧ (σ.get a.block).cells = cs ∧ ∃ rest, w.heap[(ρ a.block).1]? = some (.cells (cs.map (ren ρ) ++ rest).toArray (σ.get a.block).elem (0, 0)) ∧
      (((σ.get a.block).kind = 1 ∧ rest = []) ∨ ((σ.get a.block).kind = 2 ∧ cs.length + rest.length = (ρ a.block).2 * (σ.get a.block).esz)) := by
  unfold rowOf at hr
  split at hr
  · cases hr
  · rename_i hs
    split at hr
    · rename_i e z c hg
      injection hr with hr
      subst hr
      have hl : σ.live a.block := by unfold AW.live; rw [hg]; exact ⟨by simp, by simp⟩
      have := h.blk _ hl
      rw [hg] at this ⊢
      exact ⟨hl, hs, rfl, [], by rw [List.append_nil]; exact this, .inl ⟨rfl, rfl⟩⟩
    · rename_i e z c hg
      injection hr with hr
      subst hr
      have hl : σ.live a.block := by unfold AW.live; rw [hg]; exact ⟨by simp, by simp⟩
      have := h.blk _ hl
      rw [hg] at this ⊢
      obtain ⟨rest, h1, h2⟩ := this
      exact ⟨hl, hs, rfl, rest, h1, .inr ⟨rfl, h2⟩⟩
    · cases hr
theorem cell_ok {ρ : Rn} {σ : AW} {w : World} (h : Rel ρ σ w) {a : Addr} {cs : List Value} (hr : rowOf σ a = some cs) {j : Nat} {v : Value} (hv : cs[j]? = some v) : w.cell? ⟨(ρ a.block).1, j, none⟩ = some (ren ρ v) := by
  obtain ⟨_, _, _, rest, hh, _⟩ := row_ok h hr
  simp only [World.cell?, hh]
  obtain ⟨hj, rfl⟩ := List.getElem?_eq_some_iff.1 hv
  simp [hj, List.getElem?_append_left]
theorem renB_add (ρ : Rn) (a : Addr) (n : Nat) : renB ρ (a.add n) = (renB ρ a).add n := by
  unfold Addr.add renB; split <;> rfl
theorem add_block (a : Addr) (n : Nat) : (a.add n).block = a.block := by unfold Addr.add; split <;> rfl
theorem renB_none (ρ : Rn) {a : Addr} (h : a.spot = none) : renB ρ a = ⟨(ρ a.block).1, a.off, none⟩ := by unfold renB; rw [h]
theorem add_none (b o n : Nat) : (⟨b, o, none⟩ : Addr).add n = ⟨b, o + n, none⟩ := by unfold Addr.add; split <;> simp_all

/-- A load. -/
def loadA (P : Program) (σ : AW) (t : TypeId) (a : Addr) : Option Value := match rowOf σ a with
  | none => none
  | some cs => match isAggB P t with
    | some true => match szOf P t with
      | some n => if ((cs.drop a.off).take n).length = n then some (.agg ((cs.drop a.off).take n).toArray) else none
      | none => none
    | some false => cs[a.off]?
    | none => none
theorem isAgg_run {P : Program} {t : TypeId} {b : Bool} (h : isAggB P t = some b) (w : World) : (isAgg t).run P w = .ok b w := by
  unfold isAggB at h
  unfold isAgg
  cases hu : P.underlying t with
  | none => rw [hu] at h; cases h
  | some d => rw [hu] at h; cases d <;> (simp only [Option.some.injEq] at h; subst h; simp [underlying, hu])
theorem szOf_info {P : Program} {t : TypeId} {n : Nat} (h : szOf P t = some n) : ∃ i, P.info? t = some i ∧ i.size = n := by
  unfold szOf at h
  cases hi : P.info? t with
  | none => rw [hi] at h; cases h
  | some i => rw [hi] at h; injection h with h; exact ⟨i, rfl, h⟩
theorem sizeOf_run {P : Program} {t : TypeId} {n : Nat} (h : szOf P t = some n) (w : World) : (sizeOf t).run P w = .ok n w := by
  obtain ⟨i, hi, rfl⟩ := szOf_info h
  simp [sizeOf, typeInfo, hi]
theorem loadVar_ok {P : Program} {ρ : Rn} {σ : AW} {w : World} (h : Rel ρ σ w) {t : TypeId} {a : Addr} {v : Value} (hl : loadA P σ t a = some v) :
    (loadVar t (renB ρ a)).run P w = .ok (ren ρ v) w ∧ Sc σ.dom v := by
  unfold loadA at hl
  split at hl
  · cases hl
  · rename_i cs hr
    obtain ⟨hlive, hs, hcs, _⟩ := row_ok h hr
    have hsc : ∀ v ∈ cs, Sc σ.dom v := by rw [← hcs]; exact h.sc _ hlive
    split at hl
    · rename_i ha
      split at hl
      · rename_i n hn
        split at hl
        · rename_i hlen
          injection hl with hl
          subst hl
          have hsub : ∀ v ∈ (cs.drop a.off).take n, v ∈ cs := fun v hv => List.mem_of_mem_drop (List.mem_of_mem_take hv)
          refine ⟨?_, sc_agg (fun v hv => hsc v (hsub v (by simpa using hv)))⟩
          have hld := run_loadCells_list (P := P) w (renB ρ a) (((cs.drop a.off).take n).map (ren ρ)) (fun j v hv => by
            rw [List.getElem?_map, Option.map_eq_some_iff] at hv
            obtain ⟨u, hu, rfl⟩ := hv
            rw [renB_none ρ hs, add_none]
            refine cell_ok h hr ?_
            rw [List.getElem?_take, List.getElem?_drop] at hu
            split at hu
            · exact hu
            · cases hu)
          rw [List.length_map, hlen] at hld
          unfold loadVar
          simp [isAgg_run ha, sizeOf_run hn, hld, ren_agg]
        · cases hl
      · cases hl
    · rename_i ha
      refine ⟨?_, hsc v (List.mem_of_getElem? hl)⟩
      have := cell_ok h hr hl
      unfold loadVar
      rw [renB_none ρ hs]
      simp [isAgg_run ha, this]
    · cases hl

/-- A store. -/
def storeA (P : Program) (σ : AW) (t : TypeId) (a : Addr) (v : Value) : Option AW := match rowOf σ a with
  | none => none
  | some cs => match szOf P t with
    | none => none
    | some n =>
      if (cellsL v).length = n ∧ a.off + n ≤ cs.length ∧ (cellsL v).all oneB = true then
        match σ.get a.block with
        | ⟨k, e, z, _⟩ => some (σ.set a.block ⟨k, e, z, cs.take a.off ++ cellsL v ++ cs.drop (a.off + n)⟩)
      else none
/-- Some cells of a row are written. -/
theorem put_ok {ρ : Rn} {σ : AW} {w : World} (h : Rel ρ σ w) {a : Addr} {cs vs : List Value} (hr : rowOf σ a = some cs) (hf : a.off + vs.length ≤ cs.length) (h1 : vs.all oneB = true) (hsc : ∀ v ∈ vs, Sc σ.dom v) (P : Program) :
    ∃ w', (storeCells (renB ρ a) (vs.map (ren ρ)) 0).run P w = .ok () w' ∧
      Step ρ σ w ρ (σ.set a.block ⟨(σ.get a.block).kind, (σ.get a.block).elem, (σ.get a.block).esz, cs.take a.off ++ vs ++ cs.drop (a.off + vs.length)⟩) w' := by
  obtain ⟨hl, hs, hcs, rest, hh, hk⟩ := row_ok h hr
  have hsa : ∀ v ∈ cs, Sc σ.dom v := by rw [← hcs]; exact h.sc _ hl
  have hst := run_storeCells_at P (ρ a.block).1 a.off _ (vs.map (ren ρ)) 0 _ w hh (by simp; omega) (fun v hv => by
    obtain ⟨u, hu, rfl⟩ := List.mem_map.1 hv
    exact one_ren ρ u (List.all_eq_true.1 h1 u hu))
  rw [renB_none ρ hs]
  refine ⟨_, hst, step_set h hl ?_ (fun v hv => ?_) (fun i hi => setRow_other _ _ _ _ hi) (setRow_size _ _ _) ?_ rfl rfl rfl⟩
  · rcases hk with ⟨e, _⟩ | ⟨e, _⟩ <;> (rw [e]; decide)
  · simp only [List.mem_append] at hv
    rcases hv with (hv | hv) | hv
    · exact hsa v (List.mem_of_mem_take hv)
    · exact hsc v hv
    · exact hsa v (List.mem_of_mem_drop hv)
  · have hw := setRow_heap w (ρ a.block).1 _ (((cs.map (ren ρ) ++ rest).toArray.toList.take (a.off + 0) ++ vs.map (ren ρ) ++ (cs.map (ren ρ) ++ rest).toArray.toList.drop (a.off + 0 + (vs.map (ren ρ)).length)).toArray) _ _ hh
    have e : (cs.map (ren ρ) ++ rest).toArray.toList.take (a.off + 0) ++ vs.map (ren ρ) ++ (cs.map (ren ρ) ++ rest).toArray.toList.drop (a.off + 0 + (vs.map (ren ρ)).length) = (cs.take a.off ++ vs ++ cs.drop (a.off + vs.length)).map (ren ρ) ++ rest := by
      simp only [Nat.add_zero, List.length_map, List.map_append, List.map_take, List.map_drop]
      rw [List.take_append_of_le_length (by simp; omega), List.drop_append_of_le_length (by simp; omega), List.append_assoc, List.append_assoc, List.append_assoc]
    rw [e] at hw ⊢
    rcases hk with ⟨hk, hr0⟩ | ⟨hk, hlen⟩
    · subst hr0
      rw [hk]
      rw [List.append_nil] at hw ⊢
      exact hw
    · rw [hk]
      refine ⟨rest, hw, ?_⟩
      simp only [List.length_append, List.length_take, List.length_drop]
      omega
theorem storeVar_ok {P : Program} {ρ : Rn} {σ σ' : AW} {w : World} (h : Rel ρ σ w) {t : TypeId} {a : Addr} {v : Value} (hv : Sc σ.dom v) (hl : storeA P σ t a v = some σ') :
    ∃ w', (storeVar t (renB ρ a) (ren ρ v)).run P w = .ok () w' ∧ Step ρ σ w ρ σ' w' := by
  unfold storeA at hl
  split at hl
  · cases hl
  · rename_i cs hr
    split at hl
    · cases hl
    · rename_i n hn
      split at hl
      · rename_i hc
        obtain ⟨h1, h2, h3⟩ := hc
        split at hl
        rename_i k e z _ hg
        injection hl with hl
        subst h1
        obtain ⟨w', hw, hs⟩ := put_ok h hr h2 h3 (cellsL_sc hv) P
        rw [hg] at hs
        rw [hl] at hs
        refine ⟨w', ?_, hs⟩
        unfold storeVar
        have e1 : (ren ρ v).cells.toList = (cellsL v).map (ren ρ) := by rw [cells_ren]
        have e2 : (ren ρ v).cells.size = (cellsL v).length := by rw [cells_ren]; simp
        simp [sizeOf_run hn, e1, e2, hw]
      · cases hl

/-- The zero value's cells. -/
def zeroOf (P : Program) (t : TypeId) : Option Value := match P.info? t with
  | none => none
  | some i => match i.zero with
    | none => none
    | some z => if flatB z then some z else none
theorem zeroOf_run {P : Program} {t : TypeId} {z : Value} (h : zeroOf P t = some z) (w : World) : (zeroValue t).run P w = .ok z w ∧ Fl z := by
  unfold zeroOf at h
  split at h
  · cases h
  · rename_i i hi
    split at h
    · cases h
    · rename_i z' hz
      split at h
      · rename_i hf
        injection h with h
        subst h
        exact ⟨by simp [zeroValue, typeInfo, hi, hz], flatB_fl hf⟩
      · cases h
theorem newVar_ok {P : Program} {ρ : Rn} {σ : AW} {w : World} (h : Rel ρ σ w) (t : TypeId) {v : Value} (hv : Sc σ.dom v) :
    ∃ ρ' w', (newVar t (ren ρ v)).run P w = .ok (renB ρ' ⟨σ.next, 0, none⟩) w' ∧ Step ρ σ w ρ' (σ.push ⟨1, t, 0, cellsL v⟩) w' := by
  obtain ⟨ρ', h1, h2⟩ := step_new (cap := 0) (b := ⟨1, t, 0, cellsL v⟩) (o := .cells (ren ρ v).cells t) h (by simp) (cellsL_sc hv) (fun ρ' e w' hw => by
    show w'.heap[w.heap.size]? = _
    rw [hw, cells_ren, map_sc (cellsL_sc hv) (fun k hk => e k hk.1)])
  refine ⟨ρ', _, ?_, h2⟩
  unfold newVar newRow
  simp only [renB, h1]
  rfl
theorem push_dom {σ : AW} {b : Blk} (h : b.kind ≠ 4) : (σ.push b).dom σ.next := ⟨Nat.lt_succ_self _, by rw [AW.push, AW.get_up, AW.get_set, if_pos rfl]; exact h⟩

/-- A field's place, and a field. -/
def fieldAtA (P : Program) (s : TypeId) (v : Value) (f : Nat) : Option Value := match v, P.underlying s with
  | .pointer (some a), some (.struct fs) => match fs[f]? with
    | none => none
    | some fl => match szOf P fl.type with
      | some 0 => none
      | some _ => some (.pointer (some (a.add fl.offset)))
      | none => none
  | _, _ => none
theorem fieldAt_ok {P : Program} {ρ : Rn} {D : Nat → Prop} {s : TypeId} {v r : Value} {f : Nat} (hv : Sc D v) (h : fieldAtA P s v f = some r) (w : World) : (Instr.fieldAt s (ren ρ v) f).run P w = .ok (ren ρ r) w ∧ Sc D r := by
  unfold fieldAtA at h
  split at h
  · rename_i a fs hu
    split at h
    · cases h
    · rename_i fl hf
      split at h
      · cases h
      · rename_i n hn0 hn
        injection h with h
        subst h
        refine ⟨?_, fun ρ ρ' e => ?_⟩
        · unfold Instr.fieldAt
          have : n ≠ 0 := fun e => hn0 e
          simp [underlying, hu, hf, ren_ptr, Instr.sureAddr, fieldPlace, sizeOf_run hn, this, renB_add]
        · have := hv ρ ρ' e
          rw [ren_ptr, ren_ptr] at this ⊢
          injection this with this
          injection this with this
          rw [renB_add, renB_add, this]
      · cases h
  · cases h
def partA (P : Program) (t : TypeId) (l : List Value) (off : Nat) : Option Value := match isAggB P t with
  | some true => match szOf P t with
    | some n => some (.agg ((l.drop off).take n).toArray)
    | none => none
  | some false => l[off]?
  | none => none
theorem part_ok {P : Program} {ρ : Rn} {D : Nat → Prop} {t : TypeId} {l : List Value} {off : Nat} {r : Value} (hv : ∀ v ∈ l, Sc D v) (h : partA P t l off = some r) (w : World) : (part t (l.map (ren ρ)).toArray off).run P w = .ok (ren ρ r) w ∧ Sc D r := by
  unfold partA at h
  unfold part
  split at h
  · rename_i ha
    split at h
    · rename_i n hn
      injection h with h
      subst h
      refine ⟨?_, sc_agg fun v hv' => hv v (List.mem_of_mem_drop (List.mem_of_mem_take (by simpa using hv')))⟩
      simp [isAgg_run ha, sizeOf_run hn, ren_agg, List.map_take, List.map_drop, List.extract_eq_take_drop]
    · cases h
  · rename_i ha
    exact ⟨by simp [isAgg_run ha, h], hv _ (List.mem_of_getElem? h)⟩
  · cases h
def fieldA (P : Program) (s : TypeId) (v : Value) (f : Nat) : Option Value := match v, P.underlying s with
  | .agg ⟨l⟩, some (.struct fs) => match fs[f]? with
    | none => none
    | some fl => partA P fl.type l fl.offset
  | _, _ => none
theorem field_ok {P : Program} {ρ : Rn} {D : Nat → Prop} {s : TypeId} {v r : Value} {f : Nat} (hv : Sc D v) (h : fieldA P s v f = some r) (w : World) : (Instr.field s (ren ρ v) f).run P w = .ok (ren ρ r) w ∧ Sc D r := by
  unfold fieldA at h
  split at h
  · rename_i l fs hu
    split at h
    · cases h
    · rename_i fl hf
      have := part_ok (ρ := ρ) (fun v hv' => of_sc_agg hv v hv') h w
      refine ⟨?_, this.2⟩
      unfold Instr.field
      simp [underlying, hu, hf, ren_agg, asAgg, this.1]
  · cases h

end Go.Proofs.YtiakmddejckkbaaGreat
