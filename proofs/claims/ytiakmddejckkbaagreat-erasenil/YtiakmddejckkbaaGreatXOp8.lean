/- Runs of closed code, reckoned: maps. -/
import Derived.Test.YtiakmddejckkbaaGreatXOp7
namespace Go.Proofs.YtiakmddejckkbaaGreat

/-- All keys name no block. -/
def keysFlat : List Value → Bool
  | k :: _ :: l => flatB k && keysFlat l
  | [] => true
  | _ => false
noncomputable def renE (ρ : Rn) (e : MapEntry) : MapEntry := { e with val := ren ρ e.val }
theorem entries_ren (ρ : Rn) : ∀ (cs : List Value) (n : Nat), keysFlat cs = true → entries n (cs.map (ren ρ)) = (entries n cs).map (renE ρ)
  | [], _, _ => rfl
  | [_], _, h => by cases h
  | k :: v :: l, n, h => by
    simp only [keysFlat, Bool.and_eq_true] at h
    simp only [List.map_cons, entries, renE, flatB_fl h.1 ρ, entries_ren ρ l (n + 1) h.2]
theorem keysFlat_even : ∀ (cs : List Value), keysFlat cs = true → cs.length % 2 = 0
  | [], _ => rfl
  | [_], h => by cases h
  | _ :: _ :: l, h => by simp only [keysFlat, Bool.and_eq_true] at h; have := keysFlat_even l h.2; simp; omega
noncomputable def sndR (ρ : Rn) : Option (Nat × Value) → Option (Nat × Value)
  | some (i, v) => some (i, ren ρ v)
  | none => none
theorem findNow_ren (ρ : Rn) (d : TypeDesc) (k : Value) : ∀ (es : List MapEntry) (i : Nat), Instr.findNow d k (es.map (renE ρ)) i = (Instr.findNow d k es i).map (sndR ρ)
  | [], _ => rfl
  | e :: es, i => by
    simp only [List.map_cons, Instr.findNow, renE]
    cases Instr.sameNow d k e.key with
    | none => rfl
    | some b => cases b with
      | true => rfl
      | false => exact findNow_ren ρ d k es (i + 1)
theorem findAsking_ren {P : Program} (ρ : Rn) (t : TypeId) (k : Value) : ∀ (es : List MapEntry) (i : Nat), pureRun P (Instr.findAsking t k (es.map (renE ρ)) i) = (pureRun P (Instr.findAsking t k es i)).map (sndR ρ)
  | [], _ => rfl
  | e :: es, i => by
    simp only [List.map_cons, Instr.findAsking, renE, pureRun_bind]
    cases pureRun P (Op.equal t k e.key) with
    | none => rfl
    | some b => cases b with
      | true => rfl
      | false => exact findAsking_ren ρ t k es (i + 1)
theorem findKey_ren {P : Program} (ρ : Rn) (t : TypeId) (k : Value) (es : List MapEntry) : pureRun P (Instr.findKey t k (es.map (renE ρ))) = (pureRun P (Instr.findKey t k es)).map (sndR ρ) := by
  unfold Instr.findKey
  rw [pureRun_bind, pureRun_bind, pureRun_underlying]
  cases P.underlying t with
  | none => rfl
  | some d =>
    show pureRun P (match Instr.findNow d k (es.map (renE ρ)) 0 with | some r => Pure.pure r | none => Instr.findAsking t k (es.map (renE ρ))) = (pureRun P (match Instr.findNow d k es 0 with | some r => Pure.pure r | none => Instr.findAsking t k es)).map (sndR ρ)
    rw [findNow_ren]
    cases Instr.findNow d k es 0 with
    | none => exact findAsking_ren ρ t k es 0
    | some r => rfl

/-- The cells of a map. -/
def mapOf (σ : AW) (x : Value) : Option (List Value) := match x with
  | .map none => some []
  | .map (some k) => match σ.get k with
    | ⟨3, _, _, cs⟩ => if keysFlat cs then some cs else none
    | _ => none
  | _ => none
/-- What is found in a map. -/
def lookupA (P : Program) (σ : AW) (t : TypeId) (x ix : Value) (ok : Bool) : Option Value := match P.underlying t with
  | some (.map kt et) => match mapOf σ x with
    | none => none
    | some cs => if flatB ix then match pureRun P (Instr.checkKey (entries 0 cs).isEmpty 10000 kt ix) with
      | none => none
      | some _ => match pureRun P (Instr.findKey kt ix (entries 0 cs)) with
        | none => none
        | some (some (_, v)) => some (if ok then .tuple #[v, .bool true] else v)
        | some none => match zeroOf P et with
          | none => none
          | some z => some (if ok then .tuple #[z, .bool false] else z)
      else none
  | _ => none
theorem entries_mem {Q : Value → Prop} : ∀ (cs : List Value) (n : Nat), (∀ v ∈ cs, Q v) → ∀ e ∈ entries n cs, Q e.val
  | [], _, _, e, he => by cases he
  | [_], _, _, e, he => by cases he
  | k :: v :: l, n, h, e, he => by
    rw [entries] at he
    cases he with
    | head => exact h v (by simp)
    | tail _ he => exact entries_mem l (n + 1) (fun u hu => h u (by simp [hu])) e he
theorem findNow_mem {d : TypeDesc} {k : Value} : ∀ (es : List MapEntry) (i j : Nat) (v : Value), Instr.findNow d k es i = some (some (j, v)) → ∃ e ∈ es, e.val = v
  | [], _, _, _, h => by cases h
  | e :: es, i, j, v, h => by
    unfold Instr.findNow at h
    split at h
    · simp only [Option.some.injEq, Prod.mk.injEq] at h
      exact ⟨e, List.mem_cons_self .., h.2⟩
    · obtain ⟨e', h1, h2⟩ := findNow_mem es _ _ _ h
      exact ⟨e', List.mem_cons_of_mem _ h1, h2⟩
    · cases h
theorem findAsking_mem {P : Program} {t : TypeId} {k : Value} : ∀ (es : List MapEntry) (i j : Nat) (v : Value), pureRun P (Instr.findAsking t k es i) = some (some (j, v)) → ∃ e ∈ es, e.val = v
  | [], _, _, _, h => by simp [Instr.findAsking, pureRun_pure] at h
  | e :: es, i, j, v, h => by
    simp only [Instr.findAsking, pureRun_bind] at h
    cases hq : pureRun P (Op.equal t k e.key) with
    | none => rw [hq] at h; cases h
    | some b =>
      rw [hq] at h
      cases b with
      | true =>
        simp only [Option.bind_some, if_true, pureRun_pure, Option.some.injEq, Prod.mk.injEq] at h
        exact ⟨e, List.mem_cons_self .., h.2⟩
      | false =>
        obtain ⟨e', h1, h2⟩ := findAsking_mem es _ _ _ h
        exact ⟨e', List.mem_cons_of_mem _ h1, h2⟩
theorem findKey_mem {P : Program} {t : TypeId} {k : Value} {es : List MapEntry} {j : Nat} {v : Value} (h : pureRun P (Instr.findKey t k es) = some (some (j, v))) : ∃ e ∈ es, e.val = v := by
  unfold Instr.findKey at h
  rw [pureRun_bind, pureRun_underlying] at h
  cases hu : P.underlying t with
  | none => rw [hu] at h; cases h
  | some d =>
    rw [hu] at h
    have h : pureRun P (match Instr.findNow d k es 0 with | some r => Pure.pure r | none => Instr.findAsking t k es) = some (some (j, v)) := h
    cases hn : Instr.findNow d k es 0 with
    | none => rw [hn] at h; exact findAsking_mem es _ _ _ h
    | some r => rw [hn] at h; simp only [pureRun_pure, Option.some.injEq] at h; subst h; exact findNow_mem es _ _ _ hn
theorem lookup_ok {P : Program} {ρ : Rn} {σ : AW} {w : World} (hR : Rel ρ σ w) {t : TypeId} {x ix r : Value} {ok : Bool} (h : lookupA P σ t x ix ok = some r) :
    (Instr.lookup t (ren ρ x) (ren ρ ix) ok).run P w = .ok (ren ρ r) w ∧ Sc σ.dom r := by
  unfold lookupA at h
  split at h
  · rename_i kt et hu
    split at h
    · cases h
    · rename_i cs hm
      split at h
      · rename_i hfl
        split at h
        · cases h
        · rename_i u hck
          -- the entries
          have hes : ∃ es : Array MapEntry, es.toList = (entries 0 cs).map (renE ρ) ∧ (∀ v ∈ cs, Sc σ.dom v) ∧ ((ren ρ x = .map none ∧ es = #[]) ∨ ∃ r c, ren ρ x = .map (some r) ∧ (getObj r).run P w = .ok (.map es c) w) := by
            unfold mapOf at hm
            split at hm
            · injection hm with hm
              subst hm
              exact ⟨#[], rfl, (fun v hv => by cases hv), .inl ⟨rfl, rfl⟩⟩
            · rename_i k
              split at hm
              · rename_i e z c hg
                split at hm
                · rename_i hkf
                  injection hm with hm
                  subst hm
                  obtain ⟨hl, hb⟩ := map_blk hR hg
                  have hsc := hR.sc _ hl
                  rw [hg] at hsc
                  exact ⟨_, by rw [← entries_ren ρ c 0 hkf], hsc, .inr ⟨_, _, rfl, getObj_run (P := P) hb (by simp)⟩⟩
                · cases hm
              · cases hm
            · cases hm
          obtain ⟨es, he, hsc, hx⟩ := hes
          have hck' : (Instr.checkKey es.isEmpty 10000 kt ix).run P w = .ok () w := by
            have e1 : es.isEmpty = (entries 0 cs).isEmpty := by
              rw [← Array.isEmpty_toList, he]; cases entries 0 cs <;> rfl
            rw [e1]
            exact pureRun_run hck w
          have hfk := findKey_ren (P := P) ρ kt ix (entries 0 cs)
          rw [← he] at hfk
          rw [flatB_fl hfl ρ]
          split at h
          · cases h
          · rename_i j v hf
            injection h with h
            subst h
            rw [hf] at hfk
            obtain ⟨e, hem, hev⟩ := findKey_mem hf
            have hvs : Sc σ.dom v := hev ▸ entries_mem cs 0 hsc e hem
            refine ⟨?_, ?_⟩
            · unfold Instr.lookup
              have hfr := pureRun_run hfk w
              rcases hx with ⟨hx, rfl⟩ | ⟨r, c, hx, hg⟩
              · rw [hx]
                simp only [Sem.run_bind, run_underlying hu, Result.andThen_ok, hck', hfr, sndR, Sem.run_pure]
                cases ok <;> simp [ren_tuple, ren_bool]
              · rw [hx]
                simp only [Sem.run_bind, run_underlying hu, Result.andThen_ok, hg, hck', hfr, sndR, Sem.run_pure]
                cases ok <;> simp [ren_tuple, ren_bool]
            · cases ok
              · exact hvs
              · refine sc_tuple (fun u hu => ?_)
                simp at hu
                rcases hu with rfl | rfl
                · exact hvs
                · exact fun _ _ _ => rfl
          · rename_i hf
            split at h
            · cases h
            · rename_i z hz
              injection h with h
              subst h
              rw [hf] at hfk
              obtain ⟨hz1, hz2⟩ := zeroOf_run hz w
              refine ⟨?_, ?_⟩
              · unfold Instr.lookup
                have hfr := pureRun_run hfk w
                rcases hx with ⟨hx, rfl⟩ | ⟨r, c, hx, hg⟩
                · rw [hx]
                  simp only [Sem.run_bind, run_underlying hu, Result.andThen_ok, hck', hfr, sndR, hz1, Sem.run_pure]
                  cases ok <;> simp [ren_tuple, ren_bool, hz2 ρ]
                · rw [hx]
                  simp only [Sem.run_bind, run_underlying hu, Result.andThen_ok, hg, hck', hfr, sndR, hz1, Sem.run_pure]
                  cases ok <;> simp [ren_tuple, ren_bool, hz2 ρ]
              · cases ok
                · exact hz2.sc _
                · refine sc_tuple (fun u hu => ?_)
                  simp at hu
                  rcases hu with rfl | rfl
                  · exact hz2.sc _
                  · exact fun _ _ _ => rfl
      · cases h
  · cases h

/-- A new map. -/
theorem makeMap_ok {P : Program} {ρ : Rn} {σ : AW} {w : World} (hR : Rel ρ σ w) (t : TypeId) :
    ∃ ρ' w', (Instr.makeMap t none).run P w = .ok (ren ρ' (.map (some σ.next))) w' ∧ Step ρ σ w ρ' (σ.push ⟨3, 0, 0, []⟩) w' ∧ Sc (σ.push ⟨3, 0, 0, []⟩).dom (.map (some σ.next)) := by
  obtain ⟨ρ', h1, h2⟩ := step_new (cap := 0) (b := ⟨3, 0, 0, []⟩) (o := .map #[] 0) hR (by simp) (fun v hv => by cases hv) (fun ρ' e w' hw => hw)
  refine ⟨ρ', _, ?_, h2, sc_map (push_dom (by simp))⟩
  rw [ren_map, h1]
  rfl

/-- A map is written. -/
def mapPutA (P : Program) (σ : AW) (t : TypeId) (m k v : Value) : Option AW := match P.underlying t, m with
  | some (.map kt _), .map (some r) => match σ.get r with
    | ⟨3, e, z, cs⟩ => if keysFlat cs ∧ flatB k then match pureRun P (Instr.checkKey false 10000 kt k) with
      | none => none
      | some _ => match pureRun P (Instr.findKey kt k (entries 0 cs)) with
        | none => none
        | some (some (i, _)) => match (entries 0 cs)[i]? with
          | none => none
          | some en => if Instr.sameBits 10000 en.key k then some (σ.set r ⟨3, e, z, (cs.set (2 * i) k).set (2 * i + 1) v⟩) else none
        | some none => some (σ.set r ⟨3, e, z, cs ++ [k, v]⟩)
      else none
    | _ => none
  | _, _ => none
theorem entries_append : ∀ (cs : List Value) (n : Nat) (k v : Value), cs.length % 2 = 0 → entries n (cs ++ [k, v]) = entries n cs ++ [⟨k, v, n + cs.length / 2⟩]
  | [], n, k, v, _ => by simp [entries]
  | [_], _, _, _, h => by simp at h
  | a :: b :: l, n, k, v, h => by
    simp only [List.cons_append, entries]
    rw [entries_append l (n + 1) k v (by simp at h; omega)]
    have : n + 1 + l.length / 2 = n + (a :: b :: l).length / 2 := by simp; omega
    rw [this]
theorem entries_modify : ∀ (cs : List Value) (n i : Nat) (k v : Value), entries n ((cs.set (2 * i) k).set (2 * i + 1) v) = (entries n cs).modify i (fun e => { e with key := k, val := v }) ∨ cs.length % 2 = 1
  | [], n, i, k, v => by left; simp [entries]
  | [_], _, _, _, _ => by right; rfl
  | a :: b :: l, n, 0, k, v => by left; simp [entries]
  | a :: b :: l, n, i + 1, k, v => by
    have e1 : 2 * (i + 1) = 2 * i + 1 + 1 := by omega
    have e2 : 2 * (i + 1) + 1 = 2 * i + 1 + 1 + 1 := by omega
    rcases entries_modify l (n + 1) i k v with h | h
    · left
      rw [e1]
      simp only [List.set_cons_succ, entries, List.modify_succ_cons, h]
    · right; simp; omega
theorem setObj_run {P : Program} {w : World} {r : Nat} {o o' : Obj} (h : w.heap[r]? = some o) (ho : ∀ c e f, o ≠ .cells c e f) : (setObj r o').run P w = .ok () { w with heap := w.heap.setIfInBounds r o' } := by
  unfold setObj Sem.run
  rw [h]
  cases o <;> first | rfl | exact absurd rfl (ho _ _ _)
theorem mapPut_ok {P : Program} {ρ : Rn} {σ σ' : AW} {w : World} (hR : Rel ρ σ w) {t : TypeId} {m k v : Value} (hv : Sc σ.dom v) (h : mapPutA P σ t m k v = some σ') :
    ∃ w', (Instr.mapUpdate t (ren ρ m) (ren ρ k) (ren ρ v)).run P w = .ok () w' ∧ Step ρ σ w ρ σ' w' := by
  unfold mapPutA at h
  split at h
  · rename_i kt et r hu
    split at h
    · rename_i e z cs hg
      split at h
      · rename_i hkf
        obtain ⟨hl, hb⟩ := map_blk hR hg
        have hlt := (Array.getElem?_eq_some_iff.1 hb).1
        have hsc := hR.sc _ hl
        rw [hg] at hsc
        have hk := flatB_fl hkf.2
        have hev := keysFlat_even cs hkf.1
        have hget := getObj_run (P := P) hb (by simp)
        have hset := fun o' => setObj_run (P := P) (o' := o') hb (by simp)
        split at h
        · cases h
        · rename_i u hck
          have hfk := findKey_ren (P := P) ρ kt k (entries 0 cs)
          rw [← entries_ren ρ cs 0 hkf.1] at hfk
          have done : ∀ (ds : List Value) (o' : Obj), (∀ u ∈ ds, Sc σ.dom u) → o' = .map (entries 0 (ds.map (ren ρ))).toArray (ds.length / 2) → Step ρ σ w ρ (σ.set r ⟨3, e, z, ds⟩) { w with heap := w.heap.setIfInBounds (ρ r).1 o' } := fun ds o' h1 h2 => by
            refine step_set hR hl (by simp) h1 (fun i hi => ?_) (by simp) ?_ rfl rfl rfl
            · simp [Array.getElem?_setIfInBounds_ne (Ne.symm hi)]
            · show (w.heap.setIfInBounds (ρ r).1 o')[(ρ r).1]? = _
              rw [h2]
              simp [hlt]
          split at h
          · cases h
          · rename_i i v0 hf
            rw [hf] at hfk
            split at h
            · cases h
            · rename_i en hen
              split at h
              · rename_i hsb
                injection h with h
                subst h
                refine ⟨_, ?_, done _ _ (fun u hu => ?_) rfl⟩
                · rw [ren_map, hk ρ]
                  unfold Instr.mapUpdate
                  have hen' : ((entries 0 (cs.map (ren ρ))).toArray)[i]? = some (renE ρ en) := by
                    rw [entries_ren ρ cs 0 hkf.1]; simp [hen]
                  have hm : ((entries 0 (cs.map (ren ρ))).toArray.modify i fun e => { e with key := k, val := ren ρ v }) = (entries 0 (((cs.set (2 * i) k).set (2 * i + 1) v).map (ren ρ))).toArray := by
                    rw [List.map_set, List.map_set, hk ρ]
                    rcases entries_modify (cs.map (ren ρ)) 0 i k (ren ρ v) with hq | hq
                    · rw [hq]; simp
                    · rw [List.length_map] at hq; omega
                  have hlen : ((cs.set (2 * i) k).set (2 * i + 1) v).length / 2 = cs.length / 2 := by simp
                  simp only [Sem.run_bind, run_underlying hu, Result.andThen_ok, hget, pureRun_run hck w, pureRun_run hfk w, Option.map_some, sndR, hen', Option.getD_some, Instr.keyThatStays]
                  have hsb' : Instr.sameBits 10000 (renE ρ en).key k = true := hsb
                  rw [if_pos hsb']
                  simp only [Sem.run_pure, Result.andThen_ok, hm, hset, hlen]
                · rcases List.mem_or_eq_of_mem_set hu with hu | rfl
                  · rcases List.mem_or_eq_of_mem_set hu with hu | rfl
                    · exact hsc u hu
                    · exact hk.sc _
                  · exact hv
              · cases h
          · rename_i hf
            rw [hf] at hfk
            injection h with h
            subst h
            refine ⟨_, ?_, done _ _ (fun u hu => ?_) rfl⟩
            · rw [ren_map, hk ρ]
              unfold Instr.mapUpdate
              have ha : (entries 0 (cs.map (ren ρ))).toArray.push { key := k, val := ren ρ v, born := cs.length / 2 } = (entries 0 ((cs ++ [k, v]).map (ren ρ))).toArray := by
                rw [List.map_append, List.map_cons, List.map_cons, List.map_nil, hk ρ, entries_append _ _ _ _ (by rw [List.length_map]; exact hev)]
                simp
              have hlen : (cs ++ [k, v]).length / 2 = cs.length / 2 + 1 := by simp
              simp only [Sem.run_bind, run_underlying hu, Result.andThen_ok, hget, pureRun_run hck w, pureRun_run hfk w, sndR, ha, hset, hlen]
            · rcases List.mem_append.1 hu with hu | hu
              · exact hsc u hu
              · simp at hu
                rcases hu with rfl | rfl
                · exact hk.sc _
                · exact hv
      · cases h
    · cases h
  · cases h

end Go.Proofs.YtiakmddejckkbaaGreat
