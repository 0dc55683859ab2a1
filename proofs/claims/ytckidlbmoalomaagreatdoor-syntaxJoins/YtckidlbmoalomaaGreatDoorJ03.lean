/- Runs of closed code, reckoned: new slices, copy, lengths, maps. Runs of closed code, reckoned: copy, lengths, parts of results, comparisons with nil, texts of bytes, maps. Runs of closed code, reckoned: maps. Runs of closed code, reckoned: numbers and texts, the short way. -/
import Derived.Test.YtckidlbmoalomaaGreatDoorJ02
import Derived.Laws.Strings
import Derived.Laws.IdiomStrings
import Derived.Laws.BytesArg


namespace Go.Proofs.YtckidlbmoalomaaGreatDoor

def repL : Nat → List Value → List Value
  | 0, _ => []
  | n + 1, z => z ++ repL n z
theorem repL_length (z : List Value) : ∀ n, (repL n z).length = n * z.length
  | 0 => by simp [repL]
  | n + 1 => by rw [repL, List.length_append, repL_length z n, Nat.add_mul, Nat.one_mul, Nat.add_comm]
theorem repL_get {z : List Value} : ∀ (n i : Nat), i < n * z.length → (repL n z)[i]? = z[i % z.length]?
  | 0, i, h => by simp at h
  | n + 1, i, h => by
    rw [repL]
    by_cases hi : i < z.length
    · rw [List.getElem?_append_left hi, Nat.mod_eq_of_lt hi]
    · have h' : i < n * z.length + z.length := by rw [Nat.add_mul, Nat.one_mul] at h; exact h
      rw [List.getElem?_append_right (by omega), repL_get n (i - z.length) (by omega), Nat.mod_eq_sub_mod (a := i) (by omega)]
theorem zeros_eq (z : Array Value) (n m : Nat) (hz : z.size = m) : ((Array.range (n * m)).map (z[· % z.size]!)) = (repL n z.toList).toArray := by
  apply Array.ext'
  apply List.ext_getElem?
  intro i
  by_cases hi : i < n * m
  · have h1 : i < n * z.toList.length := by simpa [hz] using hi
    have h2 : i % z.size < z.size := Nat.mod_lt _ (by
      rcases Nat.eq_zero_or_pos z.size with h | h
      · rw [← hz, h] at hi; simp at hi
      · exact h)
    rw [List.toList_toArray, repL_get n i h1]
    simp [hi, h2, Array.length_toList]
  · have h1 : (repL n z.toList).length ≤ i := by rw [repL_length]; simpa [hz] using hi
    simp [hi, h1]
theorem mem_repL {D : Value → Prop} {z : List Value} (h : ∀ v ∈ z, D v) : ∀ n, ∀ v ∈ repL n z, D v
  | 0, v, hv => by cases hv
  | n + 1, v, hv => by
    rcases List.mem_append.1 hv with hv | hv
    · exact h v hv
    · exact mem_repL h n v hv
theorem repL_map (f : Value → Value) {z : List Value} (h : z.map f = z) : ∀ n, (repL n z).map f = repL n z
  | 0 => rfl
  | n + 1 => by rw [repL, List.map_append, h, repL_map f h n]

theorem newRow_ok {P : Program} {ρ : Rn} {σ : AW} {w : World} (h : Rel ρ σ w) (t : TypeId) {cs : List Value} (hs : ∀ v ∈ cs, Sc σ.dom v) {len c : Nat} (z : Nat := 0) :
    ∃ ρ' w', (newRow t (cs.map (ren ρ)).toArray).run P w = .ok (renB ρ' ⟨σ.next, 0, none⟩) w' ∧ Step ρ σ w ρ' (σ.push ⟨1, t, z, cs⟩) w' ∧
      ren ρ' (.slice (some ⟨σ.next, 0, none⟩) len (2 * c)) = .slice (some (renB ρ' ⟨σ.next, 0, none⟩)) len c := by
  obtain ⟨ρ', h1, h2⟩ := step_new (cap := 0) (b := ⟨1, t, z, cs⟩) (o := .cells (cs.map (ren ρ)).toArray t) h (by simp) hs (fun ρ' e w' hw => by
    show w'.heap[w.heap.size]? = _
    rw [hw, map_sc hs (fun k hk => e k hk.1)])
  refine ⟨ρ', _, ?_, h2, by rw [ren_slice, capR_even]⟩
  unfold newRow
  simp only [renB, h1]
  rfl
def buildSliceA (P : Program) (σ : AW) (t : TypeId) (len : Nat) (ps : List (Nat × Value)) : Option (Value × AW) := match P.underlying t with
  | some (.slice e) => match szOf P e with
    | none => none
    | some n => if len * n > 16777216 ∨ n = 0 then none else match zeroOf P e with
      | none => none
      | some z => if (cellsL z).length ≠ n then none else match fillL (fun i => some (i * n, n)) (repL len (cellsL z)) ps with
        | none => none
        | some cs => some (.slice (some ⟨σ.next, 0, none⟩) len (2 * len), σ.push ⟨1, e, 1, cs⟩)
  | _ => none
theorem buildSlice_ok {P : Program} {ρ : Rn} {σ σ' : AW} {w : World} (hR : Rel ρ σ w) {t : TypeId} {len : Nat} {ps : List (Nat × Value)} {r : Value} (hp : ∀ p ∈ ps, Sc σ.dom p.2) (h : buildSliceA P σ t len ps = some (r, σ')) :
    ∃ ρ' w', (Instr.buildSlice t len (ps.map fun p => (p.1, ren ρ p.2)).toArray).run P w = .ok (ren ρ' r) w' ∧ Step ρ σ w ρ' σ' w' ∧ Sc σ'.dom r := by
  unfold buildSliceA at h
  split at h
  · rename_i e hu
    split at h
    · cases h
    · rename_i n hn
      split at h
      · cases h
      · rename_i hc
        split at h
        · cases h
        · rename_i z hz
          split at h
          · cases h
          · rename_i hzl
            split at h
            · cases h
            · rename_i cs hcs
              injection h with h
              injection h with h1 h2
              subst h1 h2
              have hzn : (cellsL z).length = n := Decidable.byContradiction hzl
              obtain ⟨hz1, hz2⟩ := zeroOf_run hz w
              have hm := fillL_map ρ (fun i => some (i * n, n)) ps (repL len (cellsL z))
              rw [hcs, repL_map _ (zero_map hz2 ρ)] at hm
              have hsc : ∀ v ∈ cs, Sc σ.dom v := mem_fillL (mem_repL (zero_sc hz2 _) len) hp hcs
              obtain ⟨ρ', w', hrow, hst, hr⟩ := newRow_ok (P := P) hR e hsc (len := len) (c := len) 1
              refine ⟨ρ', w', ?_, hst, sc_slice (push_dom (by simp))⟩
              have hzc : z.cells.size = n := by rw [← hzn, ← cellsL_cells, Array.length_toList]
              have hze := zeros_eq z.cells len n hzc
              rw [cellsL_cells] at hze
              have hc1 : ¬ (len * n > 2 ^ 24) := fun x => hc (.inl (by omega))
              have hn0 : ¬ n = 0 := fun x => hc (.inr x)
              rw [hr]
              unfold Instr.buildSlice
              by_cases hl0 : len * n = 0
              · have hl : len = 0 := by rcases Nat.mul_eq_zero.1 hl0 with h | h; exact h; exact absurd h hn0
                subst hl
                have e0 : fillL (fun i => some (i * n, n)) [] (ps.map fun p => (p.1, ren ρ p.2)) = some (cs.map (ren ρ)) := hm
                have e1 : ((Array.range 0).map fun (x : Nat) => (#[] : Array Value)[x % (#[] : Array Value).size]!) = (([] : List Value).toArray) := by simp
                simp only [Sem.run_bind, underlying, run_program, hu, Result.andThen_ok, Sem.run_pure, sizeOf_run hn, Nat.zero_mul, if_true]
                simp only [show ¬ (0 > 2 ^ 24) by omega, if_false, Sem.run_bind, Sem.run_pure, Result.andThen_ok, e1, fill_eq, e0, Option.map_some, hrow]
              · simp only [Sem.run_bind, underlying, run_program, hu, Result.andThen_ok, Sem.run_pure, sizeOf_run hn, hc1, if_false, hl0, hz1, hze, fill_eq, hm, Option.map_some, hrow]
  · cases h
def makeSliceA (P : Program) (σ : AW) (t : TypeId) (len cap : Value) : Option (Value × AW) := match P.underlying t, len, cap with
  | some (.slice e), .int _ l, .int _ c => match P.info? e with
    | none => none
    | some i => match zeroOf P e with
      | none => none
      | some z => if 0 ≤ l ∧ l ≤ c ∧ c ≤ 1000000 ∧ i.bytes ≤ 100000 ∧ (cellsL z).length = i.size ∧ 0 < i.size then
          some (.slice (some ⟨σ.next, 0, none⟩) l.toNat (2 * c.toNat), σ.push ⟨1, e, 0, repL c.toNat (cellsL z)⟩) else none
  | _, _, _ => none
theorem wrap_small {n : Int} (h0 : 0 ≤ n) (h1 : n ≤ 1000000) : IntKind.i64.wrap n = n := by
  unfold IntKind.wrap
  simp [IntKind.bits, IntKind.signed]
  omega
theorem makeSlice_ok {P : Program} {ρ : Rn} {σ σ' : AW} {w : World} (hR : Rel ρ σ w) {t : TypeId} {len cap r : Value} (h : makeSliceA P σ t len cap = some (r, σ')) :
    ∃ ρ' w', (Instr.makeSlice t (ren ρ len) (ren ρ cap)).run P w = .ok (ren ρ' r) w' ∧ Step ρ σ w ρ' σ' w' ∧ Sc σ'.dom r := by
  unfold makeSliceA at h
  split at h
  · rename_i e k1 l k2 c hu
    split at h
    · cases h
    · rename_i i hi
      split at h
      · cases h
      · rename_i z hz
        split at h
        · rename_i hc
          obtain ⟨h0, h1, h2, h3, h4, h5⟩ := hc
          injection h with h
          injection h with e1 e2
          subst e1 e2
          obtain ⟨hz1, hz2⟩ := zeroOf_run hz w
          have hsc : ∀ v ∈ repL c.toNat (cellsL z), Sc σ.dom v := mem_repL (zero_sc hz2 _) _
          obtain ⟨ρ', w', hrow, hst, hr⟩ := newRow_ok (P := P) hR e hsc (len := l.toNat) (c := c.toNat)
          refine ⟨ρ', w', ?_, hst, sc_slice (push_dom (by simp))⟩
          rw [repL_map _ (zero_map hz2 ρ)] at hrow
          have hzc : z.cells.size = i.size := by rw [← h4, ← cellsL_cells, Array.length_toList]
          have hze := zeros_eq z.cells c.toNat i.size hzc
          rw [cellsL_cells] at hze
          have hb : ¬ ((281474976710656 : Int) < (i.bytes : Int) * c) := by
            have : (i.bytes : Int) * c ≤ 100000 * 1000000 := Int.mul_le_mul (by omega) h2 (by omega) (by omega)
            omega
          have hsz : (sizeOf e).run P w = .ok i.size w := by simp [sizeOf, typeInfo, hi]
          rw [hr]
          unfold Instr.makeSlice
          have hl0 : ¬ l < 0 := by omega
          have hc0 : ¬ c < 0 := by omega
          have hlc : ¬ c < l := by omega
          by_cases hn : c.toNat * i.size = 0
          · have hcz : c.toNat = 0 := by rcases Nat.mul_eq_zero.1 hn with h | h; exact h; omega
            rw [hcz] at hrow
            simp only [repL] at hrow
            have e1 : Array.map (fun (_ : Nat) => (default : Value)) (Array.range 0) = #[] := by apply Array.ext'; simp
            simp [ren_int, asInt, asIntOf, underlying, hu, typeInfo, hi, wrap_small h0 (by omega), wrap_small (by omega : 0 ≤ c) h2, hl0, hc0, hlc, hb, sizeOf, hcz, e1, hrow]
          · simp [ren_int, asInt, asIntOf, underlying, hu, typeInfo, hi, wrap_small h0 (by omega), wrap_small (by omega : 0 ≤ c) h2, hl0, hc0, hlc, hb, sizeOf, hn, hz1, hze, hrow]
        · cases h
  · cases h

end Go.Proofs.YtckidlbmoalomaaGreatDoor


namespace Go.Proofs.YtckidlbmoalomaaGreatDoor

def srcC (σ : AW) (n dLen : Nat) (x : Value) : Option (Nat × List Value) := match x with
  | .slice (some b) sLen _ => match rowOf σ b with
    | none => none
    | some ds => if ((ds.drop b.off).take (Nat.min sLen dLen * n)).length = Nat.min sLen dLen * n then some (sLen, (ds.drop b.off).take (Nat.min sLen dLen * n)) else none
  | .slice none 0 _ => some (0, [])
  | _ => none
theorem srcC_ok {P : Program} {ρ : Rn} {σ : AW} {w : World} (hR : Rel ρ σ w) {n dLen sLen : Nat} {x : Value} {vs : List Value} (h : srcC σ n dLen x = some (sLen, vs)) :
    (∀ w' : World, (Builtin.lenOf (ren ρ x)).run P w' = .ok sLen w') ∧ (Builtin.firstCells n (Nat.min sLen dLen) (ren ρ x)).run P w = .ok (vs.map (ren ρ)).toArray w ∧ ∀ v ∈ vs, Sc σ.dom v := by
  unfold srcC at h
  split at h
  · rename_i b sl c
    split at h
    · cases h
    · rename_i ds hb
      split at h
      · rename_i hlq
        simp only [Option.some.injEq, Prod.mk.injEq] at h
        obtain ⟨rfl, rfl⟩ := h
        obtain ⟨hlive, hsp, hcs, _⟩ := row_ok hR hb
        have := hR.sc _ hlive
        rw [hcs] at this
        refine ⟨fun _ => rfl, ?_, fun v hv => this v (List.mem_of_mem_drop (List.mem_of_mem_take hv))⟩
        rw [ren_slice]
        refine run_firstCells_some w n _ (renB ρ b) _ _ _ (by rw [List.length_map]; exact hlq) (fun j u hu => ?_)
        rw [List.getElem?_map, Option.map_eq_some_iff] at hu
        obtain ⟨v, hv, rfl⟩ := hu
        rw [renB_none ρ hsp, add_none]
        refine cell_ok hR hb ?_
        rw [List.getElem?_take, List.getElem?_drop] at hv
        split at hv
        · exact hv
        · cases hv
      · cases h
  · simp only [Option.some.injEq, Prod.mk.injEq] at h
    obtain ⟨rfl, rfl⟩ := h
    exact ⟨fun _ => rfl, rfl, fun v hv => by cases hv⟩
  · cases h
def copyA (P : Program) (σ : AW) (t : TypeId) (d x : Value) : Option (Value × AW) := match P.underlying t with
  | some (.slice e) => match szOf P e with
    | none => none
    | some n => match d with
      | .slice (some a) dLen _ => match rowOf σ a with
        | none => none
        | some cs => match srcC σ n dLen x with
          | none => none
          | some (sLen, vs) =>
            if a.off + vs.length ≤ cs.length ∧ vs.all oneB = true then
              match σ.get a.block with
              | ⟨k, el, z, _⟩ => some (.int .i64 (Nat.min sLen dLen : Nat), σ.set a.block ⟨k, el, z, cs.take a.off ++ vs ++ cs.drop (a.off + vs.length)⟩)
            else none
      | .slice none 0 _ => match srcC σ n 0 x with
        | none => none
        | some (_, _) => some (.int .i64 0, σ)
      | _ => none
  | _ => none
theorem copy_ok {P : Program} {ρ : Rn} {σ σ' : AW} {w : World} (hR : Rel ρ σ w) {t tx ty : TypeId} {d x r : Value} (h : copyA P σ t d x = some (r, σ')) :
    ∃ w', (Builtin.copy_ #[t, tx] ty #[ren ρ d, ren ρ x]).run P w = .ok (ren ρ r) w' ∧ Step ρ σ w ρ σ' w' ∧ Sc σ'.dom r := by
  unfold copyA at h
  split at h
  · rename_i e hu
    split at h
    · cases h
    · rename_i n hn
      split at h
      · rename_i a dLen dCap
        split at h
        · cases h
        · rename_i cs hr
          split at h
          · cases h
          · rename_i sLen vs hsrc
            split at h
            · rename_i hc
              split at h
              rename_i k el z _ hg
              injection h with h
              injection h with h1 h2
              subst h1
              obtain ⟨hl1, hcells, hsc⟩ := srcC_ok (P := P) hR hsrc
              obtain ⟨w', hw, hst⟩ := put_ok hR hr hc.1 hc.2 hsc P
              rw [hg, h2] at hst
              refine ⟨w', ?_, hst, fun _ _ _ => rfl⟩
              unfold Builtin.copy_
              simp only [Nat.min_def] at hcells ⊢
              simp [run_underlying hu, ren_slice, hl1, sizeOf_run hn, hcells, hw, goInt, ren_int]
            · cases h
      · rename_i dCap
        split at h
        · cases h
        · rename_i sLen vs hsrc
          injection h with h
          injection h with h1 h2
          subst h1 h2
          obtain ⟨hl1, hcells, hsc⟩ := srcC_ok (P := P) hR hsrc
          refine ⟨w, ?_, Step.refl hR, fun _ _ _ => rfl⟩
          unfold Builtin.copy_
          simp only [Nat.min_def] at hcells ⊢
          simp [run_underlying hu, ren_snil, hl1, sizeOf_run hn, goInt, ren_int] at hcells ⊢
          simp [hcells]
      · cases h
  · cases h

def lenA (P : Program) (σ : AW) (t : TypeId) (x : Value) : Option Value := match P.underlying t with
  | some (.slice _) => match x with
    | .slice _ n _ => some (.int .i64 n)
    | _ => none
  | some (.string) => match x with
    | .string s => some (.int .i64 s.size)
    | _ => none
  | some (.array n _) => some (.int .i64 n)
  | some (.map _ _) => match x with
    | .map none => some (.int .i64 0)
    | .map (some k) => match σ.get k with
      | ⟨3, _, _, cs⟩ => some (.int .i64 ((cs.length / 2 : Nat) : Int))
      | _ => none
    | _ => none
  | _ => none
theorem entries_length : ∀ (l : List Value) (n : Nat), (entries n l).length = l.length / 2
  | [], _ => rfl
  | [x], _ => by simp [entries]
  | k :: v :: l, n => by rw [entries, List.length_cons, entries_length l]; simp; omega
theorem map_blk {ρ : Rn} {σ : AW} {w : World} (hR : Rel ρ σ w) {k e z : Nat} {cs : List Value} (hg : σ.get k = ⟨3, e, z, cs⟩) : σ.live k ∧ w.heap[(ρ k).1]? = some (.map (entries 0 (cs.map (ren ρ))).toArray (cs.length / 2)) := by
  have hl : σ.live k := by unfold AW.live; rw [hg]; exact ⟨by simp, by simp⟩
  have := hR.blk k hl
  rw [hg] at this
  exact ⟨hl, this⟩
theorem getObj_run {P : Program} {w : World} {r : Nat} {o : Obj} (h : w.heap[r]? = some o) (ho : ∀ c e f, o ≠ .cells c e f) : (getObj r).run P w = .ok o w := by
  unfold getObj Sem.run
  rw [h]
  cases o <;> first | rfl | exact absurd rfl (ho _ _ _)
theorem len_ok {P : Program} {ρ : Rn} {σ : AW} {w : World} (hR : Rel ρ σ w) {t ty : TypeId} {x r : Value} (h : lenA P σ t x = some r) :
    (Builtin.len_ #[t] ty #[ren ρ x]).run P w = .ok (ren ρ r) w ∧ Fl r := by
  unfold lenA at h
  unfold Builtin.len_
  split at h
  · rename_i e hu
    split at h
    · rename_i ao n c
      injection h with h
      subst h
      refine ⟨?_, fun _ => rfl⟩
      cases ao <;> simp [run_underlying hu, ren_slice, ren_snil, goInt, ren_int]
    · cases h
  · rename_i hu
    split at h
    · injection h with h
      subst h
      exact ⟨by simp [run_underlying hu, ren_string, goInt, ren_int], fun _ => rfl⟩
    · cases h
  · rename_i n e hu
    injection h with h
    subst h
    exact ⟨by simp [run_underlying hu, goInt, ren_int], fun _ => rfl⟩
  · rename_i a b hu
    split at h
    · injection h with h
      subst h
      exact ⟨by simp [run_underlying hu, ren_mnil, goInt, ren_int], fun _ => rfl⟩
    · rename_i k
      split at h
      · rename_i e z cs hg
        injection h with h
        subst h
        obtain ⟨_, hm⟩ := map_blk hR hg
        refine ⟨?_, fun _ => rfl⟩
        have := getObj_run (P := P) hm (by simp)
        simp [run_underlying hu, ren_map, this, goInt, ren_int, entries_length]
      · cases h
    · cases h
  · cases h

def extractA (v : Value) (i : Nat) : Option Value := match v with
  | .tuple ⟨l⟩ => l[i]?
  | _ => none
theorem extract_ok {P : Program} {ρ : Rn} {D : Nat → Prop} {v r : Value} {i : Nat} (hv : Sc D v) (h : extractA v i = some r) (w : World) : (Instr.extract (ren ρ v) i).run P w = .ok (ren ρ r) w ∧ Sc D r := by
  unfold extractA at h
  split at h
  · rename_i l
    refine ⟨?_, of_sc_tuple hv _ (List.mem_of_getElem? h)⟩
    rw [ren_tuple]
    simp [Instr.extract, h]
  · cases h

def nilA (P : Program) (t : TypeId) (x y : Value) : Option Bool := match P.underlying t with
  | some (.pointer _) => match x, y with
    | .pointer none, .pointer none => some true
    | .pointer none, .pointer (some _) => some false
    | .pointer (some _), .pointer none => some false
    | _, _ => none
  | some (.slice _) => match x, y with
    | .slice none _ _, .slice none _ _ => some true
    | .slice none _ _, .slice (some _) _ _ => some false
    | .slice (some _) _ _, .slice none _ _ => some false
    | _, _ => none
  | some (.map _ _) => match x, y with
    | .map none, .map none => some true
    | .map none, .map (some _) => some false
    | .map (some _), .map none => some false
    | _, _ => none
  | some (.func _ _ _) => match x, y with
    | .nilFunc, .nilFunc => some true
    | .nilFunc, .func _ _ _ => some false
    | .func _ _ _, .nilFunc => some false
    | _, _ => none
  | _ => none
theorem nil_eq {P : Program} {ρ : Rn} {t : TypeId} {x y : Value} {b : Bool} (h : nilA P t x y = some b) (w : World) (n : Nat) : (Op.equalIn (n + 1) t (ren ρ x) (ren ρ y)).run P w = .ok b w := by
  unfold nilA at h
  split at h
  · rename_i e hu
    split at h <;> (first | (injection h with h; subst h; simp [Op.equalIn, run_underlying hu, ren_ptr, ren_nil]; done) | (cases h; done))
  · rename_i e hu
    split at h <;> (first | (injection h with h; subst h; simp [Op.equalIn, run_underlying hu, ren_slice, ren_snil]; done) | (cases h; done))
  · rename_i e hu
    split at h <;> (first | (injection h with h; subst h; simp [Op.equalIn, run_underlying hu, ren_map, ren_mnil]; done) | (cases h; done))
  · rename_i e hu
    split at h <;> (first | (injection h with h; subst h; simp [Op.equalIn, run_underlying hu, ren_func, ren_nilFunc]; done) | (cases h; done))
  · cases h
theorem nil_forms {P : Program} {ρ : Rn} {t : TypeId} {x y : Value} {b : Bool} (h : nilA P t x y = some b) (w : World) (ox oy : Operand) (op : BinOp) :
    (eqGuard op t ox oy (ren ρ x) (ren ρ y)).run P w = .ok () w ∧ binOp .eql t (ren ρ x) (ren ρ y) = (do pure (.bool (← Op.equal t (ren ρ x) (ren ρ y)))) ∧ binOp .neq t (ren ρ x) (ren ρ y) = (do pure (.bool (!(← Op.equal t (ren ρ x) (ren ρ y))))) := by
  unfold nilA at h
  split at h
  · rename_i e hu
    split at h <;> (first | (refine ⟨?_, rfl, rfl⟩; unfold eqGuard; cases op <;> simp [ren_ptr, ren_nil]; done) | (cases h; done))
  · rename_i e hu
    split at h <;> (first | (refine ⟨?_, rfl, rfl⟩; unfold eqGuard; cases op <;> simp [ren_slice, ren_snil]; done) | (cases h; done))
  · rename_i e hu
    split at h <;> (first | (refine ⟨?_, rfl, rfl⟩; unfold eqGuard; cases op <;> simp [ren_map, ren_mnil]; done) | (cases h; done))
  · rename_i e hu
    split at h <;> (first | (simp only [ren_func, ren_nilFunc]; refine ⟨?_, rfl, rfl⟩; unfold eqGuard; cases op <;> simp; done) | (cases h; done))
  · cases h
theorem nil_ok {P : Program} {ρ : Rn} {t : TypeId} {x y : Value} {b : Bool} (h : nilA P t x y = some b) (w : World) (ox oy : Operand) :
    (do eqGuard .eql t ox oy (ren ρ x) (ren ρ y); binOp .eql t (ren ρ x) (ren ρ y) : Sem Value).run P w = .ok (.bool b) w ∧ (do eqGuard .neq t ox oy (ren ρ x) (ren ρ y); binOp .neq t (ren ρ x) (ren ρ y) : Sem Value).run P w = .ok (.bool (!b)) w := by
  have k1 : (Op.equal t (ren ρ x) (ren ρ y)).run P w = .ok b w := nil_eq h w 9999
  have k2 := nil_forms (ρ := ρ) h w ox oy .eql
  have k3 := nil_forms (ρ := ρ) h w ox oy .neq
  refine ⟨?_, ?_⟩
  · simp only [Sem.run_bind, k2.1, Result.andThen_ok, k2.2.1, k1, Sem.run_pure]
  · simp only [Sem.run_bind, k3.1, Result.andThen_ok, k3.2.2, k1, Sem.run_pure]

end Go.Proofs.YtckidlbmoalomaaGreatDoor


namespace Go.Proofs.YtckidlbmoalomaaGreatDoor

def keysFlat : List Value → Bool
  | k :: _ :: l => flatB k && keysFlat l
  | [] => true
  | _ => false
noncomputable def renE (ρ : Rn) (e : MapEntry) : MapEntry := { e with val := ren ρ e.val }
theorem entries_ren (ρ : Rn) : ∀ (cs : List Value) (n : Nat), keysFlat cs = true → entries n (cs.map (ren ρ)) = (entries n cs).map (renE ρ)
  | [], _, _ => rfl
  | [_], _, h => by cases h
  | k :: v :: l, n, h => by
    simp only [keysFlat, Bool.and_eq_true] at h
    simp only [List.map_cons, entries, renE, flatB_fl h.1 ρ, entries_ren ρ l (n + 1) h.2]
theorem keysFlat_even : ∀ (cs : List Value), keysFlat cs = true → cs.length % 2 = 0
  | [], _ => rfl
  | [_], h => by cases h
  | _ :: _ :: l, h => by simp only [keysFlat, Bool.and_eq_true] at h; have := keysFlat_even l h.2; simp; omega
noncomputable def sndR (ρ : Rn) : Option (Nat × Value) → Option (Nat × Value)
  | some (i, v) => some (i, ren ρ v)
  | none => none
theorem findNow_ren (ρ : Rn) (d : TypeDesc) (k : Value) : ∀ (es : List MapEntry) (i : Nat), Instr.findNow d k (es.map (renE ρ)) i = (Instr.findNow d k es i).map (sndR ρ)
  | [], _ => rfl
  | e :: es, i => by
    simp only [List.map_cons, Instr.findNow, renE]
    cases Instr.sameNow d k e.key with
    | none => rfl
    | some b => cases b with
      | true => rfl
      | false => exact findNow_ren ρ d k es (i + 1)
theorem findAsking_ren {P : Program} (ρ : Rn) (t : TypeId) (k : Value) : ∀ (es : List MapEntry) (i : Nat), pureRun P (Instr.findAsking t k (es.map (renE ρ)) i) = (pureRun P (Instr.findAsking t k es i)).map (sndR ρ)
  | [], _ => rfl
  | e :: es, i => by
    simp only [List.map_cons, Instr.findAsking, renE, pureRun_bind]
    cases pureRun P (Op.equal t k e.key) with
    | none => rfl
    | some b => cases b with
      | true => rfl
      | false => exact findAsking_ren ρ t k es (i + 1)
theorem findKey_ren {P : Program} (ρ : Rn) (t : TypeId) (k : Value) (es : List MapEntry) : pureRun P (Instr.findKey t k (es.map (renE ρ))) = (pureRun P (Instr.findKey t k es)).map (sndR ρ) := by
  unfold Instr.findKey
  rw [pureRun_bind, pureRun_bind, pureRun_underlying]
  cases P.underlying t with
  | none => rfl
  | some d =>
    show pureRun P (match Instr.findNow d k (es.map (renE ρ)) 0 with | some r => Pure.pure r | none => Instr.findAsking t k (es.map (renE ρ))) = (pureRun P (match Instr.findNow d k es 0 with | some r => Pure.pure r | none => Instr.findAsking t k es)).map (sndR ρ)
    rw [findNow_ren]
    cases Instr.findNow d k es 0 with
    | none => exact findAsking_ren ρ t k es 0
    | some r => rfl

def mapOf (σ : AW) (x : Value) : Option (List Value) := match x with
  | .map none => some []
  | .map (some k) => match σ.get k with
    | ⟨3, _, _, cs⟩ => if keysFlat cs then some cs else none
    | _ => none
  | _ => none
def lookupA (P : Program) (σ : AW) (t : TypeId) (x ix : Value) (ok : Bool) : Option Value := match P.underlying t with
  | some (.map kt et) => match mapOf σ x with
    | none => none
    | some cs => if flatB ix then match pureRun P (Instr.checkKey (entries 0 cs).isEmpty 10000 kt ix) with
      | none => none
      | some _ => match pureRun P (Instr.findKey kt ix (entries 0 cs)) with
        | none => none
        | some (some (_, v)) => some (if ok then .tuple #[v, .bool true] else v)
        | some none => match zeroOf P et with
          | none => none
          | some z => some (if ok then .tuple #[z, .bool false] else z)
      else none
  | _ => none
theorem entries_mem {Q : Value → Prop} : ∀ (cs : List Value) (n : Nat), (∀ v ∈ cs, Q v) → ∀ e ∈ entries n cs, Q e.val
  | [], _, _, e, he => by cases he
  | [_], _, _, e, he => by cases he
  | k :: v :: l, n, h, e, he => by
    rw [entries] at he
    cases he with
    | head => exact h v (by simp)
    | tail _ he => exact entries_mem l (n + 1) (fun u hu => h u (by simp [hu])) e he
theorem findNow_mem {d : TypeDesc} {k : Value} : ∀ (es : List MapEntry) (i j : Nat) (v : Value), Instr.findNow d k es i = some (some (j, v)) → ∃ e ∈ es, e.val = v
  | [], _, _, _, h => by cases h
  | e :: es, i, j, v, h => by
    unfold Instr.findNow at h
    split at h
    · simp only [Option.some.injEq, Prod.mk.injEq] at h
      exact ⟨e, List.mem_cons_self .., h.2⟩
    · obtain ⟨e', h1, h2⟩ := findNow_mem es _ _ _ h
      exact ⟨e', List.mem_cons_of_mem _ h1, h2⟩
    · cases h
theorem findAsking_mem {P : Program} {t : TypeId} {k : Value} : ∀ (es : List MapEntry) (i j : Nat) (v : Value), pureRun P (Instr.findAsking t k es i) = some (some (j, v)) → ∃ e ∈ es, e.val = v
  | [], _, _, _, h => by simp [Instr.findAsking, pureRun_pure] at h
  | e :: es, i, j, v, h => by
    simp only [Instr.findAsking, pureRun_bind] at h
    cases hq : pureRun P (Op.equal t k e.key) with
    | none => rw [hq] at h; cases h
    | some b =>
      rw [hq] at h
      cases b with
      | true =>
        simp only [Option.bind_some, if_true, pureRun_pure, Option.some.injEq, Prod.mk.injEq] at h
        exact ⟨e, List.mem_cons_self .., h.2⟩
      | false =>
        obtain ⟨e', h1, h2⟩ := findAsking_mem es _ _ _ h
        exact ⟨e', List.mem_cons_of_mem _ h1, h2⟩
theorem findKey_mem {P : Program} {t : TypeId} {k : Value} {es : List MapEntry} {j : Nat} {v : Value} (h : pureRun P (Instr.findKey t k es) = some (some (j, v))) : ∃ e ∈ es, e.val = v := by
  unfold Instr.findKey at h
  rw [pureRun_bind, pureRun_underlying] at h
  cases hu : P.underlying t with
  | none => rw [hu] at h; cases h
  | some d =>
    rw [hu] at h
    have h : pureRun P (match Instr.findNow d k es 0 with | some r => Pure.pure r | none => Instr.findAsking t k es) = some (some (j, v)) := h
    cases hn : Instr.findNow d k es 0 with
    | none => rw [hn] at h; exact findAsking_mem es _ _ _ h
    | some r => rw [hn] at h; simp only [pureRun_pure, Option.some.injEq] at h; subst h; exact findNow_mem es _ _ _ hn
theorem lookup_ok {P : Program} {ρ : Rn} {σ : AW} {w : World} (hR : Rel ρ σ w) {t : TypeId} {x ix r : Value} {ok : Bool} (h : lookupA P σ t x ix ok = some r) :
    (Instr.lookup t (ren ρ x) (ren ρ ix) ok).run P w = .ok (ren ρ r) w ∧ Sc σ.dom r := by
  unfold lookupA at h
  split at h
  · rename_i kt et hu
    split at h
    · cases h
    · rename_i cs hm
      split at h
      · rename_i hfl
        split at h
        · cases h
        · rename_i u hck
          -- the entries
          have hes : ∃ es : Array MapEntry, es.toList = (entries 0 cs).map (renE ρ) ∧ (∀ v ∈ cs, Sc σ.dom v) ∧ ((ren ρ x = .map none ∧ es = #[]) ∨ ∃ r c, ren ρ x = .map (some r) ∧ (getObj r).run P w = .ok (.map es c) w) := by
            unfold mapOf at hm
            split at hm
            · injection hm with hm
              subst hm
              exact ⟨#[], rfl, (fun v hv => by cases hv), .inl ⟨rfl, rfl⟩⟩
            · rename_i k
              split at hm
              · rename_i e z c hg
                split at hm
                · rename_i hkf
                  injection hm with hm
                  subst hm
                  obtain ⟨hl, hb⟩ := map_blk hR hg
                  have hsc := hR.sc _ hl
                  rw [hg] at hsc
                  exact ⟨_, by rw [← entries_ren ρ c 0 hkf], hsc, .inr ⟨_, _, rfl, getObj_run (P := P) hb (by simp)⟩⟩
                · cases hm
              · cases hm
            · cases hm
          obtain ⟨es, he, hsc, hx⟩ := hes
          have hck' : (Instr.checkKey es.isEmpty 10000 kt ix).run P w = .ok () w := by
            have e1 : es.isEmpty = (entries 0 cs).isEmpty := by
              rw [← Array.isEmpty_toList, he]; cases entries 0 cs <;> rfl
            rw [e1]
            exact pureRun_run hck w
          have hfk := findKey_ren (P := P) ρ kt ix (entries 0 cs)
          rw [← he] at hfk
          rw [flatB_fl hfl ρ]
          split at h
          · cases h
          · rename_i j v hf
            injection h with h
            subst h
            rw [hf] at hfk
            obtain ⟨e, hem, hev⟩ := findKey_mem hf
            have hvs : Sc σ.dom v := hev ▸ entries_mem cs 0 hsc e hem
            refine ⟨?_, ?_⟩
            · unfold Instr.lookup
              have hfr := pureRun_run hfk w
              rcases hx with ⟨hx, rfl⟩ | ⟨r, c, hx, hg⟩
              · rw [hx]
                simp only [Sem.run_bind, run_underlying hu, Result.andThen_ok, hck', hfr, sndR, Sem.run_pure]
                cases ok <;> simp [ren_tuple, ren_bool]
              · rw [hx]
                simp only [Sem.run_bind, run_underlying hu, Result.andThen_ok, hg, hck', hfr, sndR, Sem.run_pure]
                cases ok <;> simp [ren_tuple, ren_bool]
            · cases ok
              · exact hvs
              · refine sc_tuple (fun u hu => ?_)
                simp at hu
                rcases hu with rfl | rfl
                · exact hvs
                · exact fun _ _ _ => rfl
          · rename_i hf
            split at h
            · cases h
            · rename_i z hz
              injection h with h
              subst h
              rw [hf] at hfk
              obtain ⟨hz1, hz2⟩ := zeroOf_run hz w
              refine ⟨?_, ?_⟩
              · unfold Instr.lookup
                have hfr := pureRun_run hfk w
                rcases hx with ⟨hx, rfl⟩ | ⟨r, c, hx, hg⟩
                · rw [hx]
                  simp only [Sem.run_bind, run_underlying hu, Result.andThen_ok, hck', hfr, sndR, hz1, Sem.run_pure]
                  cases ok <;> simp [ren_tuple, ren_bool, hz2 ρ]
                · rw [hx]
                  simp only [Sem.run_bind, run_underlying hu, Result.andThen_ok, hg, hck', hfr, sndR, hz1, Sem.run_pure]
                  cases ok <;> simp [ren_tuple, ren_bool, hz2 ρ]
              · cases ok
                · exact hz2.sc _
                · refine sc_tuple (fun u hu => ?_)
                  simp at hu
                  rcases hu with rfl | rfl
                  · exact hz2.sc _
                  · exact fun _ _ _ => rfl
      · cases h
  · cases h

theorem makeMap_ok {P : Program} {ρ : Rn} {σ : AW} {w : World} (hR : Rel ρ σ w) (t : TypeId) :
    ∃ ρ' w', (Instr.makeMap t none).run P w = .ok (ren ρ' (.map (some σ.next))) w' ∧ Step ρ σ w ρ' (σ.push ⟨3, 0, 0, []⟩) w' ∧ Sc (σ.push ⟨3, 0, 0, []⟩).dom (.map (some σ.next)) := by
  obtain ⟨ρ', h1, h2⟩ := step_new (cap := 0) (b := ⟨3, 0, 0, []⟩) (o := .map #[] 0) hR (by simp) (fun v hv => by cases hv) (fun ρ' e w' hw => hw)
  refine ⟨ρ', _, ?_, h2, sc_map (push_dom (by simp))⟩
  rw [ren_map, h1]
  rfl

def mapPutA (P : Program) (σ : AW) (t : TypeId) (m k v : Value) : Option AW := match P.underlying t, m with
  | some (.map kt _), .map (some r) => match σ.get r with
    | ⟨3, e, z, cs⟩ => if keysFlat cs ∧ flatB k then match pureRun P (Instr.checkKey false 10000 kt k) with
      | none => none
      | some _ => match pureRun P (Instr.findKey kt k (entries 0 cs)) with
        | none => none
        | some (some (i, _)) => match (entries 0 cs)[i]? with
          | none => none
          | some en => if Instr.sameBits 10000 en.key k then some (σ.set r ⟨3, e, z, (cs.set (2 * i) k).set (2 * i + 1) v⟩) else none
        | some none => some (σ.set r ⟨3, e, z, cs ++ [k, v]⟩)
      else none
    | _ => none
  | _, _ => none
theorem entries_append : ∀ (cs : List Value) (n : Nat) (k v : Value), cs.length % 2 = 0 → entries n (cs ++ [k, v]) = entries n cs ++ [⟨k, v, n + cs.length / 2⟩]
  | [], n, k, v, _ => by simp [entries]
  | [_], _, _, _, h => by simp at h
  | a :: b :: l, n, k, v, h => by
    simp only [List.cons_append, entries]
    rw [entries_append l (n + 1) k v (by simp at h; omega)]
    have : n + 1 + l.length / 2 = n + (a :: b :: l).length / 2 := by simp; omega
    rw [this]
theorem entries_modify : ∀ (cs : List Value) (n i : Nat) (k v : Value), entries n ((cs.set (2 * i) k).set (2 * i + 1) v) = (entries n cs).modify i (fun e => { e with key := k, val := v }) ∨ cs.length % 2 = 1
  | [], n, i, k, v => by left; simp [entries]
  | [_], _, _, _, _ => by right; rfl
  | a :: b :: l, n, 0, k, v => by left; simp [entries]
  | a :: b :: l, n, i + 1, k, v => by
    have e1 : 2 * (i + 1) = 2 * i + 1 + 1 := by omega
    have e2 : 2 * (i + 1) + 1 = 2 * i + 1 + 1 + 1 := by omega
    rcases entries_modify l (n + 1) i k v with h | h
    · left
      rw [e1]
      simp only [List.set_cons_succ, entries, List.modify_succ_cons, h]
    · right; simp; omega
theorem setObj_run {P : Program} {w : World} {r : Nat} {o o' : Obj} (h : w.heap[r]? = some o) (ho : ∀ c e f, o ≠ .cells c e f) : (setObj r o').run P w = .ok () { w with heap := w.heap.setIfInBounds r o' } := by
  unfold setObj Sem.run
  rw [h]
  cases o <;> first | rfl | exact absurd rfl (ho _ _ _)
theorem mapPut_ok {P : Program} {ρ : Rn} {σ σ' : AW} {w : World} (hR : Rel ρ σ w) {t : TypeId} {m k v : Value} (hv : Sc σ.dom v) (h : mapPutA P σ t m k v = some σ') :
    ∃ w', (Instr.mapUpdate t (ren ρ m) (ren ρ k) (ren ρ v)).run P w = .ok () w' ∧ Step ρ σ w ρ σ' w' := by
  unfold mapPutA at h
  split at h
  · rename_i kt et r hu
    split at h
    · rename_i e z cs hg
      split at h
      · rename_i hkf
        obtain ⟨hl, hb⟩ := map_blk hR hg
        have hlt := (Array.getElem?_eq_some_iff.1 hb).1
        have hsc := hR.sc _ hl
        rw [hg] at hsc
        have hk := flatB_fl hkf.2
        have hev := keysFlat_even cs hkf.1
        have hget := getObj_run (P := P) hb (by simp)
        have hset := fun o' => setObj_run (P := P) (o' := o') hb (by simp)
        split at h
        · cases h
        · rename_i u hck
          have hfk := findKey_ren (P := P) ρ kt k (entries 0 cs)
          rw [← entries_ren ρ cs 0 hkf.1] at hfk
          have done : ∀ (ds : List Value) (o' : Obj), (∀ u ∈ ds, Sc σ.dom u) → o' = .map (entries 0 (ds.map (ren ρ))).toArray (ds.length / 2) → Step ρ σ w ρ (σ.set r ⟨3, e, z, ds⟩) { w with heap := w.heap.setIfInBounds (ρ r).1 o' } := fun ds o' h1 h2 => by
            refine step_set hR hl (by simp) h1 (fun i hi => ?_) (by simp) ?_ rfl rfl rfl
            · simp [Array.getElem?_setIfInBounds_ne (Ne.symm hi)]
            · show (w.heap.setIfInBounds (ρ r).1 o')[(ρ r).1]? = _
              rw [h2]
              simp [hlt]
          split at h
          · cases h
          · rename_i i v0 hf
            rw [hf] at hfk
            split at h
            · cases h
            · rename_i en hen
              split at h
              · rename_i hsb
                injection h with h
                subst h
                refine ⟨_, ?_, done _ _ (fun u hu => ?_) rfl⟩
                · rw [ren_map, hk ρ]
                  unfold Instr.mapUpdate
                  have hen' : ((entries 0 (cs.map (ren ρ))).toArray)[i]? = some (renE ρ en) := by
                    rw [entries_ren ρ cs 0 hkf.1]; simp [hen]
                  have hm : ((entries 0 (cs.map (ren ρ))).toArray.modify i fun e => { e with key := k, val := ren ρ v }) = (entries 0 (((cs.set (2 * i) k).set (2 * i + 1) v).map (ren ρ))).toArray := by
                    rw [List.map_set, List.map_set, hk ρ]
                    rcases entries_modify (cs.map (ren ρ)) 0 i k (ren ρ v) with hq | hq
                    · rw [hq]; simp
                    · rw [List.length_map] at hq; omega
                  have hlen : ((cs.set (2 * i) k).set (2 * i + 1) v).length / 2 = cs.length / 2 := by simp
                  simp only [Sem.run_bind, run_underlying hu, Result.andThen_ok, hget, pureRun_run hck w, pureRun_run hfk w, Option.map_some, sndR, hen', Option.getD_some, Instr.keyThatStays]
                  have hsb' : Instr.sameBits 10000 (renE ρ en).key k = true := hsb
                  rw [if_pos hsb']
                  simp only [Sem.run_pure, Result.andThen_ok, hm, hset, hlen]
                · rcases List.mem_or_eq_of_mem_set hu with hu | rfl
                  · rcases List.mem_or_eq_of_mem_set hu with hu | rfl
                    · exact hsc u hu
                    · exact hk.sc _
                  · exact hv
              · cases h
          · rename_i hf
            rw [hf] at hfk
            injection h with h
            subst h
            refine ⟨_, ?_, done _ _ (fun u hu => ?_) rfl⟩
            · rw [ren_map, hk ρ]
              unfold Instr.mapUpdate
              have ha : (entries 0 (cs.map (ren ρ))).toArray.push { key := k, val := ren ρ v, born := cs.length / 2 } = (entries 0 ((cs ++ [k, v]).map (ren ρ))).toArray := by
                rw [List.map_append, List.map_cons, List.map_cons, List.map_nil, hk ρ, entries_append _ _ _ _ (by rw [List.length_map]; exact hev)]
                simp
              have hlen : (cs ++ [k, v]).length / 2 = cs.length / 2 + 1 := by simp
              simp only [Sem.run_bind, run_underlying hu, Result.andThen_ok, hget, pureRun_run hck w, pureRun_run hfk w, sndR, ha, hset, hlen]
            · rcases List.mem_append.1 hu with hu | hu
              · exact hsc u hu
              · simp at hu
                rcases hu with rfl | rfl
                · exact hk.sc _
                · exact hv
      · cases h
    · cases h
  · cases h

end Go.Proofs.YtckidlbmoalomaaGreatDoor


namespace Go.Proofs.YtckidlbmoalomaaGreatDoor

def eqL : List UInt8 → List UInt8 → Bool
  | [], [] => true
  | a :: l, b :: m => match Nat.beq a.toNat b.toNat with
    | true => eqL l m
    | false => false
  | _, _ => false
theorem eqL_eq : ∀ (l m : List UInt8), eqL l m = (l == m)
  | [], [] => rfl
  | [], _ :: _ => rfl
  | _ :: _, [] => rfl
  | a :: l, b :: m => by
    show (match Nat.beq a.toNat b.toNat with | true => eqL l m | false => false) = _
    rw [eqL_eq l m]
    by_cases h : a = b
    · subst h; simp [Nat.beq_refl]
    · have h1 : Nat.beq a.toNat b.toNat = false := by
        cases hq : Nat.beq a.toNat b.toNat with
        | false => rfl
        | true => exact absurd (UInt8.toNat_inj.1 (Nat.eq_of_beq_eq_true hq)) h
      rw [h1]
      simp [h]
def smallI (k : IntKind) (n : Int) : Option Value := match k with
  | .i64 => match n with
    | .ofNat m => match Nat.ble m 9223372036854775807 with
      | true => some (.int .i64 (.ofNat m))
      | false => none
    | .negSucc _ => none
  | _ => none
theorem smallI_ok {k : IntKind} {n : Int} {v : Value} (h : smallI k n = some v) : v = .int k (k.wrap n) := by
  unfold smallI at h
  split at h
  · split at h
    · rename_i m
      split at h
      · rename_i hb
        injection h with h
        subst h
        have hm := Nat.le_of_ble_eq_true hb
        have : IntKind.i64.wrap (Int.ofNat m) = Int.ofNat m := by
          unfold IntKind.wrap
          simp [IntKind.bits, IntKind.signed]
          omega
        rw [this]
      · cases h
    · cases h
  · cases h
def fastB (op : BinOp) (x y : Value) : Option Value := match x with
  | .int k a => match y with
    | .int j b => match decide (k = j) with
      | true => (match op with
        | .add => smallI k (a + b)
        | .sub => smallI k (a - b)
        | .eql => some (.bool (a == b))
        | .neq => some (.bool (a != b))
        | .lss => some (.bool (decide (a < b)))
        | .leq => some (.bool (decide (a ≤ b)))
        | .gtr => some (.bool (decide (a > b)))
        | .geq => some (.bool (decide (a ≥ b)))
        | _ => none)
      | false => none
    | _ => none
  | .string a => match y with
    | .string b => (match op with
      | .eql => some (.bool (eqL a.data.toList b.data.toList))
      | .neq => some (.bool (!(eqL a.data.toList b.data.toList)))
      | _ => none)
    | _ => none
  | _ => none
theorem fastB_ok {P : Program} {op : BinOp} {t : TypeId} {x y v : Value} {ox oy : Operand} (h : fastB op x y = some v) (w : World) : (do eqGuard op t ox oy x y; binOp op t x y : Sem Value).run P w = .ok v w ∧ Fl x ∧ Fl y ∧ Fl v := by
  unfold fastB at h
  split at h
  · rename_i k a
    split at h
    · rename_i j b
      split at h
      · rename_i hk
        have hk := of_decide_eq_true hk
        subst hk
        have hg : (eqGuard op t ox oy (.int k a) (.int k b)).run P w = .ok () w := by unfold eqGuard; cases op <;> simp
        split at h
        · have := smallI_ok h
          subst this
          exact ⟨by simp [hg, binOp, Op.intArith], fun _ => rfl, fun _ => rfl, fun _ => rfl⟩
        · have := smallI_ok h
          subst this
          exact ⟨by simp [hg, binOp, Op.intArith], fun _ => rfl, fun _ => rfl, fun _ => rfl⟩
        all_goals first
          | (injection h with h; subst h; exact ⟨by simp [hg, binOp, Op.intCmp], fun _ => rfl, fun _ => rfl, fun _ => rfl⟩)
          | cases h
      · cases h
    · cases h
  · rename_i a
    split at h
    · rename_i b
      have hg : (eqGuard op t ox oy (.string a) (.string b)).run P w = .ok () w := by unfold eqGuard; cases op <;> simp
      split at h
      · injection h with h
        subst h
        rw [eqL_eq, ← Go.ByteArray.toList_eq a, ← Go.ByteArray.toList_eq b]
        exact ⟨by simp [hg, binOp, Op.stringOp], fun _ => rfl, fun _ => rfl, fun _ => rfl⟩
      · injection h with h
        subst h
        rw [eqL_eq, ← Go.ByteArray.toList_eq a, ← Go.ByteArray.toList_eq b]
        exact ⟨by simp [hg, binOp, Op.stringOp], fun _ => rfl, fun _ => rfl, fun _ => rfl⟩
      · cases h
    · cases h
  · cases h

def byteAt (P : Program) (t : TypeId) (x ix : Value) : Option Value := match x with
  | .string s => match ix with
    | .int _ (.ofNat i) => match P.underlying t with
      | some .string => match s.data.toList[i]? with
        | some b => some (.int .u8 (.ofNat b.toNat))
        | none => none
      | _ => none
    | _ => none
  | _ => none
theorem byteAt_ok {P : Program} {t : TypeId} {x ix v : Value} (h : byteAt P t x ix = some v) (w : World) : (Instr.index t x ix).run P w = .ok v w ∧ Fl x ∧ Fl ix ∧ Fl v := by
  unfold byteAt at h
  split at h
  · rename_i s
    split at h
    · rename_i k i
      split at h
      · rename_i hu
        split at h
        · rename_i b hb
          injection h with h
          subst h
          refine ⟨?_, fun _ => rfl, fun _ => rfl, fun _ => rfl⟩
          have hi : i < s.data.toList.length := (List.getElem?_eq_some_iff.1 hb).1
          have hs : s[i]? = some b := by
            rw [← hb]
            have hi' : i < s.size := by simpa using hi
            rw [getElem?_pos s i hi']
            simp only [List.getElem?_eq_getElem hi]
            rfl
          unfold Instr.index
          have h0 : (0 : Int) ≤ Int.ofNat i := Int.natCast_nonneg i
          have hn : (Int.ofNat i).toNat = i := rfl
          simp only [Sem.run_bind, asIntOf, Sem.run_pure, Result.andThen_ok, run_underlying hu, if_pos h0, hn, hs]
          rfl
        · cases h
      · cases h
    · cases h
  · cases h
def bytesOf : List Value → Option (List UInt8)
  | [] => some []
  | .int .u8 (.ofNat n) :: l => match Nat.blt n 256 with
    | true => (match bytesOf l with
      | some r => some (UInt8.ofNat n :: r)
      | none => none)
    | false => none
  | _ => none
theorem bytesOf_ok : ∀ {cs : List Value} {l : List UInt8}, bytesOf cs = some l → cs = l.map (fun b => Value.int .u8 (b.toNat : Int))
  | [], l, h => by injection h with h; subst h; rfl
  | c :: cs, l, h => by
    unfold bytesOf at h
    split at h
    · rename_i h'; cases h'
    · rename_i n l' h'
      split at h
      · rename_i hn
        split at h
        · rename_i r hr
          injection h with h
          subst h
          injection h' with h1 h2
          subst h1 h2
          rw [List.map_cons, ← bytesOf_ok hr]
          have : n < 256 := Nat.le_of_ble_eq_true hn
          simp [UInt8.toNat_ofNat', Nat.mod_eq_of_lt this]
        · cases h
      · cases h
    · cases h
def textA (P : Program) (σ : AW) (src dst : TypeId) (x : Value) : Option Value := match P.underlying src with
  | some (.slice e) => match P.underlying e with
    | some (.int .u8) => match P.underlying dst with
      | some .string => match x with
        | .slice none _ _ => some (.string ByteArray.empty)
        | .slice (some a) len _ => match rowOf σ a with
          | none => none
          | some cs => match bytesOf ((cs.drop a.off).take len) with
            | some l => if l.length = len then some (.string ⟨l.toArray⟩) else none
            | none => none
        | _ => none
      | _ => none
    | _ => none
  | _ => none
theorem text_ok {P : Program} {ρ : Rn} {σ : AW} {w : World} (hR : Rel ρ σ w) {src dst : TypeId} {x v : Value} (h : textA P σ src dst x = some v) : (convert src dst (ren ρ x)).run P w = .ok v w ∧ Fl v := by
  unfold textA at h
  split at h
  · rename_i e hs
    split at h
    · rename_i he
      split at h
      · rename_i hd
        split at h
        · rename_i len c
          injection h with h
          subst h
          exact ⟨run_convert_bytes_nil w src e hs he len c dst hd, fun _ => rfl⟩
        · rename_i a len c
          split at h
          · cases h
          · rename_i cs hr
            split at h
            · rename_i l hl
              split at h
              · rename_i hlen
                injection h with h
                subst h hlen
                refine ⟨?_, fun _ => rfl⟩
                obtain ⟨_, hsp, _⟩ := row_ok hR hr
                rw [ren_slice]
                refine run_convert_bytes_back w src dst e (renB ρ a) _ l hs he hd (fun j hj => ?_)
                rw [renB_none ρ hsp, add_none]
                have hb := bytesOf_ok hl
                have hc : cs[a.off + j]? = some (.int .u8 (l[j].toNat : Int)) := by
                  have : ((cs.drop a.off).take l.length)[j]? = some (.int .u8 (l[j].toNat : Int)) := by
                    rw [hb]; simp [hj]
                  rw [List.getElem?_take, if_pos hj, List.getElem?_drop] at this
                  exact this
                exact cell_ok hR hr hc
              · cases h
            · cases h
        · cases h
      · cases h
    · cases h
  · cases h

end Go.Proofs.YtckidlbmoalomaaGreatDoor
