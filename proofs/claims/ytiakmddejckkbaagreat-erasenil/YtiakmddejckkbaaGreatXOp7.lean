/- Runs of closed code, reckoned: copy, lengths, parts of results, comparisons with nil, texts of bytes, maps. -/
import Derived.Test.YtiakmddejckkbaaGreatXOp6
namespace Go.Proofs.YtiakmddejckkbaaGreat

/-- What is copied. -/
def srcC (σ : AW) (n dLen : Nat) (x : Value) : Option (Nat × List Value) := match x with
  | .slice (some b) sLen _ => match rowOf σ b with
    | none => none
    | some ds => if ((ds.drop b.off).take (Nat.min sLen dLen * n)).length = Nat.min sLen dLen * n then some (sLen, (ds.drop b.off).take (Nat.min sLen dLen * n)) else none
  | .slice none 0 _ => some (0, [])
  | _ => none
theorem srcC_ok {P : Program} {ρ : Rn} {σ : AW} {w : World} (hR : Rel ρ σ w) {n dLen sLen : Nat} {x : Value} {vs : List Value} (h : srcC σ n dLen x = some (sLen, vs)) :
    (∀ w' : World, (Builtin.lenOf (ren ρ x)).run P w' = .ok sLen w') ∧ (Builtin.firstCells n (Nat.min sLen dLen) (ren ρ x)).run P w = .ok (vs.map (ren ρ)).toArray w ∧ ∀ v ∈ vs, Sc σ.dom v := by
  unfold srcC at h
  split at h
  · rename_i b sl c
    split at h
    · cases h
    · rename_i ds hb
      split at h
      · rename_i hlq
        simp only [Option.some.injEq, Prod.mk.injEq] at h
        obtain ⟨rfl, rfl⟩ := h
        obtain ⟨hlive, hsp, hcs, _⟩ := row_ok hR hb
        have := hR.sc _ hlive
        rw [hcs] at this
        refine ⟨fun _ => rfl, ?_, fun v hv => this v (List.mem_of_mem_drop (List.mem_of_mem_take hv))⟩
        rw [ren_slice]
        refine run_firstCells_some w n _ (renB ρ b) _ _ _ (by rw [List.length_map]; exact hlq) (fun j u hu => ?_)
        rw [List.getElem?_map, Option.map_eq_some_iff] at hu
        obtain ⟨v, hv, rfl⟩ := hu
        rw [renB_none ρ hsp, add_none]
        refine cell_ok hR hb ?_
        rw [List.getElem?_take, List.getElem?_drop] at hv
        split at hv
        · exact hv
        · cases hv
      · cases h
  · simp only [Option.some.injEq, Prod.mk.injEq] at h
    obtain ⟨rfl, rfl⟩ := h
    exact ⟨fun _ => rfl, rfl, fun v hv => by cases hv⟩
  · cases h
/-- copy. -/
def copyA (P : Program) (σ : AW) (t : TypeId) (d x : Value) : Option (Value × AW) := match P.underlying t with
  | some (.slice e) => match szOf P e with
    | none => none
    | some n => match d with
      | .slice (some a) dLen _ => match rowOf σ a with
        | none => none
        | some cs => match srcC σ n dLen x with
          | none => none
          | some (sLen, vs) =>
            if a.off + vs.length ≤ cs.length ∧ vs.all oneB = true then
              match σ.get a.block with
              | ⟨k, el, z, _⟩ => some (.int .i64 (Nat.min sLen dLen : Nat), σ.set a.block ⟨k, el, z, cs.take a.off ++ vs ++ cs.drop (a.off + vs.length)⟩)
            else none
      | .slice none 0 _ => match srcC σ n 0 x with
        | none => none
        | some (_, _) => some (.int .i64 0, σ)
      | _ => none
  | _ => none
theorem copy_ok {P : Program} {ρ : Rn} {σ σ' : AW} {w : World} (hR : Rel ρ σ w) {t tx ty : TypeId} {d x r : Value} (h : copyA P σ t d x = some (r, σ')) :
    ∃ w', (Builtin.copy_ #[t, tx] ty #[ren ρ d, ren ρ x]).run P w = .ok (ren ρ r) w' ∧ Step ρ σ w ρ σ' w' ∧ Sc σ'.dom r := by
  unfold copyA at h
  split at h
  · rename_i e hu
    split at h
    · cases h
    · rename_i n hn
      split at h
      · rename_i a dLen dCap
        split at h
        · cases h
        · rename_i cs hr
          split at h
          · cases h
          · rename_i sLen vs hsrc
            split at h
            · rename_i hc
              split at h
              rename_i k el z _ hg
              injection h with h
              injection h with h1 h2
              subst h1
              obtain ⟨hl1, hcells, hsc⟩ := srcC_ok (P := P) hR hsrc
              obtain ⟨w', hw, hst⟩ := put_ok hR hr hc.1 hc.2 hsc P
              rw [hg, h2] at hst
              refine ⟨w', ?_, hst, fun _ _ _ => rfl⟩
              unfold Builtin.copy_
              simp only [Nat.min_def] at hcells ⊢
              simp [run_underlying hu, ren_slice, hl1, sizeOf_run hn, hcells, hw, goInt, ren_int]
            · cases h
      · rename_i dCap
        split at h
        · cases h
        · rename_i sLen vs hsrc
          injection h with h
          injection h with h1 h2
          subst h1 h2
          obtain ⟨hl1, hcells, hsc⟩ := srcC_ok (P := P) hR hsrc
          refine ⟨w, ?_, Step.refl hR, fun _ _ _ => rfl⟩
          unfold Builtin.copy_
          simp only [Nat.min_def] at hcells ⊢
          simp [run_underlying hu, ren_snil, hl1, sizeOf_run hn, goInt, ren_int] at hcells ⊢
          simp [hcells]
      · cases h
  · cases h

/-- len. -/
def lenA (P : Program) (σ : AW) (t : TypeId) (x : Value) : Option Value := match P.underlying t with
  | some (.slice _) => match x with
    | .slice _ n _ => some (.int .i64 n)
    | _ => none
  | some (.string) => match x with
    | .string s => some (.int .i64 s.size)
    | _ => none
  | some (.array n _) => some (.int .i64 n)
  | some (.map _ _) => match x with
    | .map none => some (.int .i64 0)
    | .map (some k) => match σ.get k with
      | ⟨3, _, _, cs⟩ => some (.int .i64 ((cs.length / 2 : Nat) : Int))
      | _ => none
    | _ => none
  | _ => none
theorem entries_length : ∀ (l : List Value) (n : Nat), (entries n l).length = l.length / 2
  | [], _ => rfl
  | [x], _ => by simp [entries]
  | k :: v :: l, n => by rw [entries, List.length_cons, entries_length l]; simp; omega
theorem map_blk {ρ : Rn} {σ : AW} {w : World} (hR : Rel ρ σ w) {k e z : Nat} {cs : List Value} (hg : σ.get k = ⟨3, e, z, cs⟩) : σ.live k ∧ w.heap[(ρ k).1]? = some (.map (entries 0 (cs.map (ren ρ))).toArray (cs.length / 2)) := by
  have hl : σ.live k := by unfold AW.live; rw [hg]; exact ⟨by simp, by simp⟩
  have := hR.blk k hl
  rw [hg] at this
  exact ⟨hl, this⟩
theorem getObj_run {P : Program} {w : World} {r : Nat} {o : Obj} (h : w.heap[r]? = some o) (ho : ∀ c e f, o ≠ .cells c e f) : (getObj r).run P w = .ok o w := by
  unfold getObj Sem.run
  rw [h]
  cases o <;> first | rfl | exact absurd rfl (ho _ _ _)
theorem len_ok {P : Program} {ρ : Rn} {σ : AW} {w : World} (hR : Rel ρ σ w) {t ty : TypeId} {x r : Value} (h : lenA P σ t x = some r) :
    (Builtin.len_ #[t] ty #[ren ρ x]).run P w = .ok (ren ρ r) w ∧ Fl r := by
  unfold lenA at h
  unfold Builtin.len_
  split at h
  · rename_i e hu
    split at h
    · rename_i ao n c
      injection h with h
      subst h
      refine ⟨?_, fun _ => rfl⟩
      cases ao <;> simp [run_underlying hu, ren_slice, ren_snil, goInt, ren_int]
    · cases h
  · rename_i hu
    split at h
    · injection h with h
      subst h
      exact ⟨by simp [run_underlying hu, ren_string, goInt, ren_int], fun _ => rfl⟩
    · cases h
  · rename_i n e hu
    injection h with h
    subst h
    exact ⟨by simp [run_underlying hu, goInt, ren_int], fun _ => rfl⟩
  · rename_i a b hu
    split at h
    · injection h with h
      subst h
      exact ⟨by simp [run_underlying hu, ren_mnil, goInt, ren_int], fun _ => rfl⟩
    · rename_i k
      split at h
      · rename_i e z cs hg
        injection h with h
        subst h
        obtain ⟨_, hm⟩ := map_blk hR hg
        refine ⟨?_, fun _ => rfl⟩
        have := getObj_run (P := P) hm (by simp)
        simp [run_underlying hu, ren_map, this, goInt, ren_int, entries_length]
      · cases h
    · cases h
  · cases h

/-- A part of a result. -/
def extractA (v : Value) (i : Nat) : Option Value := match v with
  | .tuple ⟨l⟩ => l[i]?
  | _ => none
theorem extract_ok {P : Program} {ρ : Rn} {D : Nat → Prop} {v r : Value} {i : Nat} (hv : Sc D v) (h : extractA v i = some r) (w : World) : (Instr.extract (ren ρ v) i).run P w = .ok (ren ρ r) w ∧ Sc D r := by
  unfold extractA at h
  split at h
  · rename_i l
    refine ⟨?_, of_sc_tuple hv _ (List.mem_of_getElem? h)⟩
    rw [ren_tuple]
    simp [Instr.extract, h]
  · cases h

/-- Is it nil? (None: it can't be told so.) -/
def nilA (P : Program) (t : TypeId) (x y : Value) : Option Bool := match P.underlying t with
  | some (.pointer _) => match x, y with
    | .pointer none, .pointer none => some true
    | .pointer none, .pointer (some _) => some false
    | .pointer (some _), .pointer none => some false
    | _, _ => none
  | some (.slice _) => match x, y with
    | .slice none _ _, .slice none _ _ => some true
    | .slice none _ _, .slice (some _) _ _ => some false
    | .slice (some _) _ _, .slice none _ _ => some false
    | _, _ => none
  | some (.map _ _) => match x, y with
    | .map none, .map none => some true
    | .map none, .map (some _) => some false
    | .map (some _), .map none => some false
    | _, _ => none
  | some (.func _ _ _) => match x, y with
    | .nilFunc, .nilFunc => some true
    | .nilFunc, .func _ _ _ => some false
    | .func _ _ _, .nilFunc => some false
    | _, _ => none
  | _ => none
theorem nil_eq {P : Program} {ρ : Rn} {t : TypeId} {x y : Value} {b : Bool} (h : nilA P t x y = some b) (w : World) (n : Nat) : (Op.equalIn (n + 1) t (ren ρ x) (ren ρ y)).run P w = .ok b w := by
  unfold nilA at h
  split at h
  · rename_i e hu
    split at h <;> (first | (injection h with h; subst h; simp [Op.equalIn, run_underlying hu, ren_ptr, ren_nil]; done) | (cases h; done))
  · rename_i e hu
    split at h <;> (first | (injection h with h; subst h; simp [Op.equalIn, run_underlying hu, ren_slice, ren_snil]; done) | (cases h; done))
  · rename_i e hu
    split at h <;> (first | (injection h with h; subst h; simp [Op.equalIn, run_underlying hu, ren_map, ren_mnil]; done) | (cases h; done))
  · rename_i e hu
    split at h <;> (first | (injection h with h; subst h; simp [Op.equalIn, run_underlying hu, ren_func, ren_nilFunc]; done) | (cases h; done))
  · cases h
theorem nil_forms {P : Program} {ρ : Rn} {t : TypeId} {x y : Value} {b : Bool} (h : nilA P t x y = some b) (w : World) (ox oy : Operand) (op : BinOp) :
    (eqGuard op t ox oy (ren ρ x) (ren ρ y)).run P w = .ok () w ∧ binOp .eql t (ren ρ x) (ren ρ y) = (do pure (.bool (← Op.equal t (ren ρ x) (ren ρ y)))) ∧ binOp .neq t (ren ρ x) (ren ρ y) = (do pure (.bool (!(← Op.equal t (ren ρ x) (ren ρ y))))) := by
  unfold nilA at h
  split at h
  · rename_i e hu
    split at h <;> (first | (refine ⟨?_, rfl, rfl⟩; unfold eqGuard; cases op <;> simp [ren_ptr, ren_nil]; done) | (cases h; done))
  · rename_i e hu
    split at h <;> (first | (refine ⟨?_, rfl, rfl⟩; unfold eqGuard; cases op <;> simp [ren_slice, ren_snil]; done) | (cases h; done))
  · rename_i e hu
    split at h <;> (first | (refine ⟨?_, rfl, rfl⟩; unfold eqGuard; cases op <;> simp [ren_map, ren_mnil]; done) | (cases h; done))
  · rename_i e hu
    split at h <;> (first | (simp only [ren_func, ren_nilFunc]; refine ⟨?_, rfl, rfl⟩; unfold eqGuard; cases op <;> simp; done) | (cases h; done))
  · cases h
theorem nil_ok {P : Program} {ρ : Rn} {t : TypeId} {x y : Value} {b : Bool} (h : nilA P t x y = some b) (w : World) (ox oy : Operand) :
    (do eqGuard .eql t ox oy (ren ρ x) (ren ρ y); binOp .eql t (ren ρ x) (ren ρ y) : Sem Value).run P w = .ok (.bool b) w ∧ (do eqGuard .neq t ox oy (ren ρ x) (ren ρ y); binOp .neq t (ren ρ x) (ren ρ y) : Sem Value).run P w = .ok (.bool (!b)) w := by
  have k1 : (Op.equal t (ren ρ x) (ren ρ y)).run P w = .ok b w := nil_eq h w 9999
  have k2 := nil_forms (ρ := ρ) h w ox oy .eql
  have k3 := nil_forms (ρ := ρ) h w ox oy .neq
  refine ⟨?_, ?_⟩
  · simp only [Sem.run_bind, k2.1, Result.andThen_ok, k2.2.1, k1, Sem.run_pure]
  · simp only [Sem.run_bind, k3.1, Result.andThen_ok, k3.2.2, k1, Sem.run_pure]

end Go.Proofs.YtiakmddejckkbaaGreat
