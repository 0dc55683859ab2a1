/- Runs of closed code, reckoned: append, copy, make, literals. -/
import Derived.Test.YtiakmddejckkbaaGreatXOp3
namespace Go.Proofs.YtiakmddejckkbaaGreat

/-- What is appended: how many elements, and their cells. -/
def srcA (P : Program) (σ : AW) (size : Nat) (tx : TypeId) (x : Value) : Option (Nat × List Value) := match P.underlying tx with
  | some (.slice _) => match x with
    | .slice none 0 _ => some (0, [])
    | .slice (some a) n _ => match rowOf σ a with
      | none => none
      | some cs => if ((cs.drop a.off).take (n * size)).length = n * size ∧ ((cs.drop a.off).take (n * size)).all oneB = true then some (n, (cs.drop a.off).take (n * size)) else none
    | _ => none
  | some .string => match x with
    | .string s => if size = 1 then some (s.size, byteCells s) else none
    | _ => none
  | _ => none
theorem byteCells_fl (s : ByteArray) : ∀ v ∈ byteCells s, flat1 v = true := fun v hv => by
  obtain ⟨_, _, rfl⟩ := List.mem_map.1 hv
  rfl
theorem src_ok {P : Program} {ρ : Rn} {σ : AW} {w : World} (hR : Rel ρ σ w) {size : Nat} {tx : TypeId} {x : Value} {n : Nat} {news : List Value} (h : srcA P σ size tx x = some (n, news)) :
    Src P size tx (ren ρ x) n (news.map (ren ρ)) w ∧ (∀ v ∈ news, Sc σ.dom v) ∧ news.all oneB = true ∧ news.length = n * size := by
  unfold srcA at h
  split at h
  · rename_i e hu
    split at h
    · rename_i c
      injection h with h
      injection h with h1 h2
      subst h1 h2
      exact ⟨Src.ofNil w hu _, (fun v hv => by cases hv), rfl, by simp⟩
    · rename_i a m c
      split at h
      · cases h
      · rename_i cs hr
        split at h
        · rename_i hl
          injection h with h
          injection h with h1 h2
          subst h1 h2
          obtain ⟨hlive, hs, hcs, _⟩ := row_ok hR hr
          refine ⟨?_, fun v hv => ?_, hl.2, hl.1⟩
          · refine Src.ofSlice w hu (renB ρ a) m _ _ (by rw [List.length_map]; exact hl.1) (fun j u hu => ?_) (fun u hu => ?_)
            · rw [List.getElem?_map, Option.map_eq_some_iff] at hu
              obtain ⟨v, hv, rfl⟩ := hu
              rw [renB_none ρ hs, add_none]
              refine cell_ok hR hr ?_
              rw [List.getElem?_take, List.getElem?_drop] at hv
              split at hv
              · exact hv
              · cases hv
            · obtain ⟨v, hv, rfl⟩ := List.mem_map.1 hu
              exact one_ren ρ v (List.all_eq_true.1 hl.2 v hv)
          · have := hR.sc _ hlive
            rw [hcs] at this
            exact this v (List.mem_of_mem_drop (List.mem_of_mem_take hv))
        · cases h
    · cases h
  · rename_i hu
    split at h
    · rename_i s
      split at h
      · rename_i h1
        injection h with h
        injection h with h2 h3
        subst h1 h2 h3
        have hm : (byteCells s).map (ren ρ) = byteCells s := map_fl (List.all_eq_true.2 (byteCells_fl s)) ρ
        rw [hm]
        refine ⟨Src.ofString w hu s, fun v hv => (flat1_fl (byteCells_fl s v hv)).sc _, List.all_eq_true.2 (fun v hv => ?_), by rw [byteCells_length, Nat.mul_one]⟩
        obtain ⟨_, _, rfl⟩ := List.mem_map.1 hv
        rfl
      · cases h
    · cases h
  · cases h

theorem growBy_le (need : Nat) : ∀ (r c : Nat), c ≤ 2 * need + 768 → Builtin.growBy need r c ≤ 2 * need + 768
  | 0, c, h => h
  | r + 1, c, h => by
    unfold Builtin.growBy
    split
    · exact h
    · exact growBy_le need r _ (by omega)
theorem nextcap_le {need cap : Nat} (h : cap < need) : Builtin.nextslicecap need cap ≤ 2 * need + 768 := by
  unfold Builtin.nextslicecap
  split
  · omega
  · split
    · omega
    · exact growBy_le need 4 cap (by omega)

/-- A new row that is grown. -/
def growA (σ : AW) (e : TypeId) (i : TypeInfo) (need : Nat) (cs : List Value) : Option (Value × AW) := match i.zero with
  | none => none
  | some z => if (cellsL z).length = i.size ∧ 0 < need ∧ (2 * need + 768) * i.bytes ≤ 281474976710656 ∧ need ≤ 1000000000 then
      some (.slice (some ⟨σ.next, 0, none⟩) need 1, σ.push ⟨2, e, i.size, cs⟩) else none
theorem cellsL_cells (v : Value) : v.cells.toList = cellsL v := by cases v <;> rfl
theorem zeroCells_length (z : Array Value) (n : Nat) : (Builtin.zeroCells z n).size = n * z.size := by simp [Builtin.zeroCells]
theorem grow_ok {P : Program} {ρ : Rn} {σ : AW} {w : World} (hR : Rel ρ σ w) {t tx ty e : TypeId} {i : TypeInfo} (ht : P.underlying t = some (.slice e)) (hi : P.info? e = some i)
    {base : Option Addr} {sLen sCap : Nat} {olds : List Value} (hold : (Builtin.firstCells i.size sLen (.slice base sLen sCap)).run P w.drew = .ok (olds.map (ren ρ)).toArray w.drew) (hol : olds.length = sLen * i.size) (hos : ∀ v ∈ olds, Sc σ.dom v)
    {x : Value} {n : Nat} {news : List Value} (hs : srcA P σ i.size tx x = some (n, news)) (hg : sCap < sLen + n) {r : Value} {σ' : AW} (h : growA σ e i (sLen + n) (olds ++ news) = some (r, σ')) :
    ∃ ρ' w', (Builtin.append_ #[t, tx] ty #[.slice base sLen sCap, ren ρ x]).run P w = .ok (ren ρ' r) w' ∧ Step ρ σ w ρ' σ' w' ∧ Sc σ'.dom r := by
  unfold growA at h
  split at h
  · cases h
  · rename_i z hz
    split at h
    · rename_i hc
      obtain ⟨hz1, hc1, hc2, hc3⟩ := hc
      injection h with h
      injection h with h1 h2
      subst h1 h2
      obtain ⟨hsrc, hns, hone, hnl⟩ := src_ok hR hs
      have hrun := run_append_grow_src (P := P) w t tx ty e i z ht hi hz base sLen sCap (olds.map (ren ρ)) hold (ren ρ x) n (news.map (ren ρ)) hsrc hg (by omega) (Nat.le_trans (Nat.mul_le_mul_right _ (nextcap_le hg)) hc2)
      have hge : sLen + n ≤ grownCap w (sLen + n) sCap e := grownCap_ge w (sLen + n) sCap e
      have hzs : z.cells.size = i.size := by rw [← hz1, ← cellsL_cells, Array.length_toList]
      obtain ⟨ρ', hn, hst⟩ := step_new (σ := σ) (w := w.drew) (cap := grownCap w (sLen + n) sCap e) (b := ⟨2, e, i.size, olds ++ news⟩)
        (o := .cells ((olds.map (ren ρ) ++ news.map (ren ρ)).toArray ++ Builtin.zeroCells z.cells (grownCap w (sLen + n) sCap e - (sLen + n))) e) (hR.drawn rfl) (by simp)
        (fun v hv => by
          rcases List.mem_append.1 hv with hv | hv
          · exact hos v hv
          · exact hns v hv)
        (fun ρ' ea w' hw => by
          refine ⟨(Builtin.zeroCells z.cells (grownCap w (sLen + n) sCap e - (sLen + n))).toList, ?_, ?_⟩
          · have em : (olds ++ news).map (ren ρ') = olds.map (ren ρ) ++ news.map (ren ρ) := by
              rw [List.map_append, map_sc hos (fun k hk => (ea k hk.1).symm), map_sc hns (fun k hk => (ea k hk.1).symm)]
            simp only [em]
            refine hw.trans ?_
            congr 2
            apply Array.ext'
            simp
          · simp only [List.length_append, hol, hnl, Array.length_toList, zeroCells_length, hzs]
            rw [← Nat.add_mul, ← Nat.add_mul]
            congr 1
            omega)
      refine ⟨ρ', _, ?_, (Step.drew hR).trans hst, sc_slice (push_dom (by simp))⟩
      rw [hrun, ren_slice]
      simp only [renB, hn, capR, World.drew]
      rfl
    · cases h

/-- append. -/
def appendA (P : Program) (σ : AW) (t tx : TypeId) (s x : Value) : Option (Value × AW) := match P.underlying t with
  | some (.slice e) => match P.info? e with
    | none => none
    | some i => match srcA P σ i.size tx x with
      | none => none
      | some (n, news) => match s with
        | .slice none 0 0 => if n = 0 then some (.slice none 0 0, σ) else growA σ e i (0 + n) ([] ++ news)
        | .slice (some a) len cap => match rowOf σ a with
          | none => none
          | some cs =>
            if cap % 2 = 0 then
              if len + n ≤ cap / 2 then
                if a.off + len * i.size + news.length ≤ cs.length then
                  match σ.get a.block with
                  | ⟨k, el, z, _⟩ => some (.slice (some a) (len + n) cap, σ.set a.block ⟨k, el, z, cs.take (a.off + len * i.size) ++ news ++ cs.drop (a.off + len * i.size + news.length)⟩)
                else none
              else if ((cs.drop a.off).take (len * i.size)).length = len * i.size then growA σ e i (len + n) ((cs.drop a.off).take (len * i.size) ++ news) else none
            else if cap = 1 ∧ a.off = 0 ∧ len * i.size = cs.length ∧ 0 < i.size then
              match σ.get a.block with
              | ⟨2, el, z, _⟩ =>
                if el = e ∧ z = i.size then
                  if n = 0 then some (.slice (some a) len 1, σ)
                  else growA (σ.set a.block noBlk) e i (len + n) (cs ++ news)
                else none
              | _ => none
            else none
        | _ => none
  | _ => none
theorem first_ok {P : Program} {ρ : Rn} {σ : AW} {w : World} (hR : Rel ρ σ w) {a : Addr} {cs : List Value} (hr : rowOf σ a = some cs) {m len cap : Nat} (hl : ((cs.drop a.off).take (len * m)).length = len * m) :
    (Builtin.firstCells m len (.slice (some (renB ρ a)) len cap)).run P w.drew = .ok (((cs.drop a.off).take (len * m)).map (ren ρ)).toArray w.drew := by
  obtain ⟨_, hs, _⟩ := row_ok hR hr
  refine run_firstCells_some w.drew m len (renB ρ a) len cap _ (by rw [List.length_map]; exact hl) (fun j u hu => ?_)
  rw [List.getElem?_map, Option.map_eq_some_iff] at hu
  obtain ⟨v, hv, rfl⟩ := hu
  rw [renB_none ρ hs, add_none]
  refine cell_ok (hR.drawn rfl) hr ?_
  rw [List.getElem?_take, List.getElem?_drop] at hv
  split at hv
  · exact hv
  · cases hv
theorem append_ok {P : Program} {ρ : Rn} {σ : AW} {w : World} (hR : Rel ρ σ w) {t tx ty : TypeId} {s x r : Value} {σ' : AW} (hsc : Sc σ.dom s) (h : appendA P σ t tx s x = some (r, σ')) :
    ∃ ρ' w', (Builtin.append_ #[t, tx] ty #[ren ρ s, ren ρ x]).run P w = .ok (ren ρ' r) w' ∧ Step ρ σ w ρ' σ' w' ∧ Sc σ'.dom r := by
  unfold appendA at h
  split at h
  · rename_i e hu
    split at h
    · cases h
    · rename_i i hi
      split at h
      · cases h
      · rename_i n news hsrc
        obtain ⟨hS, hns, hone, hnl⟩ := src_ok hR hsrc
        split at h
        · split at h
          · rename_i hn0
            injection h with h
            injection h with h1 h2
            subst h1 h2 hn0
            refine ⟨ρ, w, ?_, Step.refl hR, hsc⟩
            rcases hS.kind with ⟨e', hk⟩ | hk <;> simp [Builtin.append_, run_underlying hu, run_underlying hk, sizeOf, typeInfo, hi, hS.len, hS.cells, ren_snil]
          · rename_i hn0
            exact grow_ok hR hu hi (base := none) (sLen := 0) (sCap := 0) (olds := []) (run_firstCells_none w.drew i.size 0 0 0) (by simp) (fun v hv => by cases hv) hsrc (by omega) h
        · rename_i a len cap
          split at h
          · cases h
          · rename_i cs hr
            split at h
            · rename_i hc
              have hcap : capR ρ a.block cap = cap / 2 := by unfold capR; rw [if_pos hc]
              split at h
              · rename_i hroom
                split at h
                · rename_i hfit
                  split at h
                  rename_i k el z _ hg
                  injection h with h
                  injection h with h1 h2
                  obtain ⟨hlive, hsp, _⟩ := row_ok hR hr
                  have hr2 : rowOf σ (a.add (len * i.size)) = some cs := by
                    unfold rowOf at hr ⊢
                    rw [add_block]
                    have : (a.add (len * i.size)).spot = none := by unfold Addr.add; split <;> simp [hsp]
                    rw [hsp] at hr
                    rw [this]
                    exact hr
                  have hoff : (a.add (len * i.size)).off = a.off + len * i.size := by unfold Addr.add; split <;> simp_all
                  obtain ⟨w', hw, hst⟩ := put_ok hR hr2 (by rw [hoff]; exact hfit) hone hns P
                  rw [hoff, add_block, hg, h2] at hst
                  subst h1
                  refine ⟨ρ, w', ?_, hst, fun ρ ρ' e => ?_⟩
                  · rw [renB_add] at hw
                    rw [ren_slice, hcap]
                    rcases hS.kind with ⟨e', hk⟩ | hk <;> simp [Builtin.append_, run_underlying hu, run_underlying hk, sizeOf, typeInfo, hi, hS.len, hS.cells, hroom, hw, ren_slice, hcap]
                  · have := hst.sc hsc ρ ρ' e
                    rw [ren_slice, ren_slice] at this ⊢
                    obtain ⟨t1, _, t3⟩ := Value.slice.inj this
                    rw [t1, t3]
                · cases h
              · rename_i hroom
                split at h
                · rename_i hl
                  obtain ⟨hlive, hsp, hcs, _⟩ := row_ok hR hr
                  have := hR.sc _ hlive
                  rw [hcs] at this
                  rw [ren_slice, hcap]
                  exact grow_ok hR hu hi (first_ok hR hr hl) hl (fun v hv => this v (List.mem_of_mem_drop (List.mem_of_mem_take hv))) hsrc (by omega) h
                · cases h
            · rename_i hc
              split at h
              · rename_i ho
                obtain ⟨hc1, ho0, hlen, hpos⟩ := ho
                split at h
                · rename_i el z c0 hg
                  split at h
                  · rename_i hez
                    obtain ⟨rfl, rfl⟩ := hez
                    obtain ⟨hlive, hsp, hcs, rest, hh, hk⟩ := row_ok hR hr
                    have hsa : ∀ v ∈ cs, Sc σ.dom v := by rw [← hcs]; exact hR.sc _ hlive
                    have hk2 : cs.length + rest.length = (ρ a.block).2 * i.size := by
                      rcases hk with ⟨hk, _⟩ | ⟨_, hk⟩
                      · rw [hg] at hk; simp at hk
                      · rw [hg] at hk; exact hk
                    have hcap : capR ρ a.block cap = (ρ a.block).2 := by unfold capR; rw [if_neg hc, hc1]; omega
                    have hcl : len ≤ (ρ a.block).2 := Nat.le_of_mul_le_mul_right (by omega : len * i.size ≤ (ρ a.block).2 * i.size) hpos
                    have hre : renB ρ a = ⟨(ρ a.block).1, 0, none⟩ := by rw [renB_none ρ hsp, ho0]
                    split at h
                    · rename_i hn0
                      injection h with h
                      injection h with h1 h2
                      subst h1 h2 hn0
                      have hnil : news = [] := by cases news with | nil => rfl | cons y l => simp at hnl
                      subst hnil
                      subst hc1
                      refine ⟨ρ, w, ?_, Step.refl hR, hsc⟩
                      rw [ren_slice, hcap]
                      rcases hS.kind with ⟨e', hk⟩ | hk <;> simp [Builtin.append_, run_underlying hu, run_underlying hk, sizeOf, typeInfo, hi, hS.len, hS.cells, hcl, storeCells]
                    · rename_i hn0
                      by_cases hroom : len + n ≤ (ρ a.block).2
                      · -- in place
                        have hgr := h
                        unfold growA at hgr
                        split at hgr
                        · cases hgr
                        · rename_i z hz
                          split at hgr
                          · rename_i hq
                            injection hgr with hgr
                            injection hgr with h1 h2
                            have hns2 : (len + n) * i.size ≤ (ρ a.block).2 * i.size := Nat.mul_le_mul_right _ hroom
                            rw [Nat.add_mul] at hns2
                            have hst0 := run_storeCells_at P (ρ a.block).1 (0 + len * i.size) _ (news.map (ren ρ)) 0 _ w hh (by simp; omega) (fun v hv => by
                              obtain ⟨u, hu, rfl⟩ := List.mem_map.1 hv
                              exact one_ren ρ u (List.all_eq_true.1 hone u hu))
                            have ecells : (cs.map (ren ρ) ++ rest).toArray.toList.take (0 + len * i.size + 0) ++ news.map (ren ρ) ++ (cs.map (ren ρ) ++ rest).toArray.toList.drop (0 + len * i.size + 0 + (news.map (ren ρ)).length) = (cs ++ news).map (ren ρ) ++ rest.drop news.length := by
                              simp only [Nat.add_zero, Nat.zero_add, List.length_map, List.map_append]
                              rw [List.take_append_of_le_length (by simp; omega), List.take_of_length_le (by simp; omega), List.drop_append, List.drop_of_length_le (by simp; omega), List.nil_append]
                              congr 2
                              simp
                              omega
                            rw [ecells] at hst0
                            have hw := setRow_heap w (ρ a.block).1 _ (((cs ++ news).map (ren ρ) ++ rest.drop news.length).toArray) _ _ hh
                            have hsm : ∀ v ∈ cs ++ news, Sc σ.dom v := fun v hv => by
                              rcases List.mem_append.1 hv with hv | hv
                              · exact hsa v hv
                              · exact hns v hv
                            obtain ⟨ρ', hn', hst⟩ := step_move (b := ⟨2, el, i.size, cs ++ news⟩) hR hlive hsm (fun i hi => setRow_other _ _ _ _ hi) (setRow_size _ _ _) (fun ρ' ea => by
                              refine ⟨rest.drop news.length, ?_, ?_⟩
                              · simp only
                                rw [hw, map_sc hsm (fun k hk => (ea k hk.1).symm), hg]
                              · simp only [List.length_append, List.length_drop]
                                omega) rfl rfl rfl
                            rw [← h2, ← h1]
                            refine ⟨ρ', _, ?_, hst, sc_slice (push_dom (by simp))⟩
                            have hnx : (σ.set a.block noBlk).next = σ.next := rfl
                            rw [ren_slice, hcap, hre, ren_slice]
                            rw [hnx]
                            simp only [renB, hn', capR]
                            simp only [Nat.zero_add, List.map_append, List.append_assoc] at hst0
                            rcases hS.kind with ⟨e', hk⟩ | hk <;> (simp [Builtin.append_, run_underlying hu, run_underlying hk, sizeOf, typeInfo, hi, hS.len, hS.cells, hroom, Addr.add_lit]; rw [hst0]; rfl)
                          · cases hgr
                      · -- grown
                        have hkill := step_kill hR hlive
                        have hfull : (cs.drop a.off).take (len * i.size) = cs := by rw [ho0, List.drop_zero, List.take_of_length_le (by omega)]
                        have hf := first_ok (P := P) (ρ := ρ) (w := w) (m := i.size) (len := len) (cap := (ρ a.block).2) hR hr (by rw [hfull]; omega)
                        rw [hfull] at hf
                        unfold growA at h
                        split at h
                        · cases h
                        · rename_i z hz
                          split at h
                          · rename_i hq
                            obtain ⟨hz1, hc1', hc2, hc3⟩ := hq
                            injection h with h
                            injection h with h1 h2
                            have hg' : (ρ a.block).2 < len + n := by omega
                            have hrun := run_append_grow_src (P := P) w t tx ty el i z hu hi hz (some (renB ρ a)) len (ρ a.block).2 (cs.map (ren ρ)) hf (ren ρ x) n (news.map (ren ρ)) hS hg' (by omega) (Nat.le_trans (Nat.mul_le_mul_right _ (nextcap_le hg')) hc2)
                            have hge : len + n ≤ grownCap w (len + n) (ρ a.block).2 el := grownCap_ge w (len + n) (ρ a.block).2 el
                            have hzs : z.cells.size = i.size := by rw [← hz1, ← cellsL_cells, Array.length_toList]
                            have hsm : ∀ v ∈ cs ++ news, Sc σ.dom v := fun v hv => by
                              rcases List.mem_append.1 hv with hv | hv
                              · exact hsa v hv
                              · exact hns v hv
                            obtain ⟨ρ', hn', hst⟩ := step_new (σ := σ.set a.block noBlk) (w := w.drew) (ρ := ρ) (cap := grownCap w (len + n) (ρ a.block).2 el) (b := ⟨2, el, i.size, cs ++ news⟩)
                              (o := .cells ((cs.map (ren ρ) ++ news.map (ren ρ)).toArray ++ Builtin.zeroCells z.cells (grownCap w (len + n) (ρ a.block).2 el - (len + n))) el) (hkill.rel.drawn rfl) (by simp)
                              (fun v hv => hkill.sc (hsm v hv))
                              (fun ρ' ea w' hw => by
                                refine ⟨(Builtin.zeroCells z.cells (grownCap w (len + n) (ρ a.block).2 el - (len + n))).toList, ?_, ?_⟩
                                · have em : (cs ++ news).map (ren ρ') = cs.map (ren ρ) ++ news.map (ren ρ) := by
                                    rw [map_sc hsm (fun k hk => ea k hk.1), List.map_append]
                                  simp only [em]
                                  refine hw.trans ?_
                                  congr 2
                                  apply Array.ext'
                                  simp
                                · simp only [List.length_append, ← hlen, hnl, Array.length_toList, zeroCells_length, hzs]
                                  rw [← Nat.add_mul, ← Nat.add_mul]
                                  congr 1
                                  omega)
                            rw [← h2, ← h1]
                            refine ⟨ρ', _, ?_, (Step.drew hR).trans ((step_kill (hR.drawn (w' := w.drew) rfl) hlive).trans hst), sc_slice (push_dom (by simp))⟩
                            rw [ren_slice, hcap, hrun, ren_slice]
                            simp only [renB, hn', capR, World.drew]
                            rfl
                          · cases h
                  · cases h
                · cases h
              · cases h
        · cases h
  · cases h

end Go.Proofs.YtiakmddejckkbaaGreat
