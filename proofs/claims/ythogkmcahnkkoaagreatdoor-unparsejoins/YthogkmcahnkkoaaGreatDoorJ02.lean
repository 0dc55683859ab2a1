/- Runs of closed code, reckoned: parts of slices, append, copy, make. Runs of closed code, reckoned: append, copy, make, literals. Runs of closed code, reckoned: literals, make, copy, lengths. Runs of closed code, reckoned: new slices, copy, lengths, maps. Runs of closed code, reckoned: copy, lengths, parts of results, comparisons with nil, texts of bytes, maps. -/
import Derived.Test.YthogkmcahnkkoaaGreatDoorJ01
namespace Go.Proofs.YthogkmcahnkkoaaGreatDoor
def JU (P : Program) (σ : AW) (e : TypeId) (a : Addr) (cap : Nat) : Option Nat :=
 if cap % 2 = 0 then some (cap / 2) else
 match σ.get a.block with
 | ⟨2, _, z, cs⟩ => match iW P e with
  | none => none
  | some n => if n = z ∧ 0 < z ∧ a.off = cap / 2 * z then some (cs.length / z - cap / 2) else none
 | _ => none
theorem XV {P : Program} {ρ : Rn} {σ : AW} {w : World} (h : Rel ρ σ w) {e : TypeId} {a : Addr} {cap y : Nat} (hr : JU P σ e a cap = some y) :
  y ≤ oH ρ a.block cap ∧ (cap % 2 = 0 → y = cap / 2) := by
 unfold JU at hr
 unfold oH
 split at hr
 ·rename_i hc
  injection hr with hr
  rw [if_pos hc]
  exact ⟨by omega, fun _ => by omega⟩
 ·rename_i hc
  rw [if_neg hc]
  split at hr
  ·rename_i el z cs hg
   split at hr
   ·cases hr
   ·split at hr
    ·rename_i n _ hz
     injection hr with hr
     have hl : σ.live a.block := by unfold AW.live; rw [hg]; exact ⟨by simp, by simp⟩
     have := h.blk _ hl
     rw [hg] at this
     obtain ⟨rest, h1, h2⟩ := this
     simp only at h2
     refine ⟨?_, fun x => absurd x hc⟩
     have : cs.length / z ≤ (ρ a.block).2 := by
      rw [Nat.div_le_iff_le_mul_add_pred hz.2.1]
      rw [Nat.mul_comm] at h2
      omega
     omega
    ·cases hr
  ·cases hr
theorem Bc {len y l h m : Nat} {lo hi : Option Value} (e : qC len y lo hi none = some (l, h, m)) : m = y := by
 unfold qC at e
 simp only at e
 split at e
 ·cases e
 ·split at e
  ·cases e
  ·simp only [Option.some.injEq, Prod.mk.injEq] at e
   exact e.2.2.symm
def wP (P : Program) (σ : AW) (t : TypeId) (x : Value) (lo hi mx : Option Value) : Option Value := match P.underlying t with
 | some (.slice e) => match iW P e with
  | none => none
  | some n => match x with
   | .slice none len cap => match qC len cap lo hi mx with
    | none => none
    | some (l, h, m) => some (.slice none (h - l) (m - l))
   | .slice (some a) len cap => match JU P σ e a cap with
    | none => none
    | some y => match qC len y lo hi mx with
     | none => none
     | some (l, h, m) =>
      if cap % 2 = 0 ∨ mx.isSome = true then some (.slice (some (if m = l then a else a.add (l * n))) (h - l) (2 * (m - l)))
      else if l = 0 then some (.slice (some a) h cap)
      else if l < y then some (.slice (some (a.add (l * n))) (h - l) (cap + 2 * l))
      else none
   | _ => none
 | some (.array len e) => match iW P e with
  | none => none
  | some n => match x with
   | .pointer (some a) => match qC len len lo hi mx with
    | none => none
    | some (l, h, m) => some (.slice (some (if m = l then a else a.add (l * n))) (h - l) (2 * (m - l)))
   | _ => none
 | _ => none
theorem uJ (ρ : Rn) (k m : Nat) : oH ρ k (2 * m) = m := by unfold oH; rw [if_pos (by omega)]; omega
theorem zK {D : Nat → Prop} {a : Addr} {l c : Nat} (h : Sc D (.pointer (some a))) : Sc D (.slice (some a) l (2 * c)) := fun ρ ρ' e => by
 have := h ρ ρ' e
 rw [dO, dO] at this
 rw [aZ, aZ, uJ, uJ, Option.some.inj (Value.pointer.inj this)]
theorem Nq {P : Program} {ρ : Rn} {σ : AW} {w : World} (hR : Rel ρ σ w) {t : TypeId} {x r : Value} {lo hi mx : Option Value} (hx : Sc σ.dom x) (h : wP P σ t x lo hi mx = some r) :
  (Instr.sliceAt t (ren ρ x) (lo.map (ren ρ)) (hi.map (ren ρ)) (mx.map (ren ρ))).run P w = .ok (ren ρ r) w ∧ Sc σ.dom r := by
 unfold wP at h
 split at h
 ·rename_i e hu
  split at h
  ·cases h
  ·rename_i n hn
   split at h
   ·rename_i len cap
    split at h
    ·cases h
    ·rename_i l hh m hb
     injection h with h
     subst h
     refine ⟨?_, fun _ _ _ => rfl⟩
     have hm : (if mx.isSome = true then m else cap) = m := by
      split
      ·rfl
      ·rename_i hmx
       cases mx with
       | none => exact (Bc hb).symm
       | some v => exact absurd rfl hmx
     simp [Instr.sliceAt, Instr.slice, underlying, hu, qV, Ba hb cap (Nat.le_refl _), dQ hn, hm]
   ·rename_i a len cap
    split at h
    ·cases h
    ·rename_i y hy
     split at h
     ·cases h
     ·rename_i l hh m hb
      obtain ⟨h1, h2⟩ := XV hR hy
      have hrun := fun w => Ba (P := P) (ρ := ρ) (b := true) hb _ h1 w
      split at h
      ·rename_i hc
       injection h with h
       subst h
       have hm : (if mx.isSome = true then m else oH ρ a.block cap) = m := by
        rcases hc with hc | hc
        ·split
         ·rfl
         ·rename_i hmx
          have h3 := h2 hc
          cases mx with
          | none => rw [Bc hb, h3, oH, if_pos hc]
          | some v => exact absurd rfl hmx
        ·rw [if_pos hc]
       refine ⟨?_, zK ?_⟩
       ·simp only [Instr.sliceAt, Instr.slice, underlying, hu, aZ, hrun, dQ hn, hm, Sem.run_bind, run_program, Result.andThen_ok, Sem.run_pure, Option.map_some, uJ]
        split <;> simp [jU]
       ·split
        ·exact vH hx
        ·exact IG _ (vH hx)
      ·rename_i hc
       have hc1 : ¬ cap % 2 = 0 := fun e => hc (.inl e)
       have hc2 : mx.isSome = false := by cases hq : mx.isSome with | false => rfl | true => exact absurd (.inr hq) hc
       have hrun : ∀ w : World, (Instr.sliceBounds true len (oH ρ a.block cap) (lo.map (ren ρ)) (hi.map (ren ρ)) (mx.map (ren ρ))).run P w = .ok (l, hh, oH ρ a.block cap) w := fun w => by
        have := hrun w
        rw [hc2] at this
        exact this
       split at h
       ·rename_i hl0
        injection h with h
        subst h
        refine ⟨?_, fun ρ ρ' e => by
         have := hx ρ ρ' e
         rw [aZ, aZ] at this ⊢
         obtain ⟨t1, _, t3⟩ := Value.slice.inj this
         rw [t1, t3]⟩
        subst hl0
        simp only [Instr.sliceAt, Instr.slice, underlying, hu, aZ, hrun, dQ hn, Sem.run_bind, run_program, Result.andThen_ok, Sem.run_pure, Option.map_some]
        simp [Addr.add]
       ·split at h
        ·rename_i hl0 hly
         injection h with h
         subst h
         have hne : ¬ oH ρ a.block cap = l := by omega
         have q : ∀ ρ : Rn, ∀ b, oH ρ b (cap + 2 * l) = oH ρ b cap - l := fun ρ b => by
          unfold oH
          rw [if_neg (by omega), if_neg hc1]
          omega
         refine ⟨?_, fun ρ ρ' e => by
          have := hx ρ ρ' e
          rw [aZ, aZ] at this
          rw [aZ, aZ, jU, jU, add_block, q, q]
          obtain ⟨t1, _, t3⟩ := Value.slice.inj this
          rw [Option.some.inj t1, t3]⟩
         simp only [Instr.sliceAt, Instr.slice, underlying, hu, aZ, hrun, dQ hn, Sem.run_bind, run_program, Result.andThen_ok, Sem.run_pure, Option.map_some]
         rw [if_neg hne, jU, add_block, q]
        ·cases h
   ·cases h
 ·rename_i len e hu
  split at h
  ·cases h
  ·rename_i n hn
   split at h
   ·rename_i a
    split at h
    ·cases h
    ·rename_i l hh m hb
     injection h with h
     subst h
     have hm : (if mx.isSome = true then m else len) = m := by
      split
      ·rfl
      ·rename_i hmx
       cases mx with
       | none => exact (Bc hb).symm
       | some v => exact absurd rfl hmx
     refine ⟨?_, zK ?_⟩
     ·simp only [Instr.sliceAt, underlying, hu, dO, aZ, Instr.sureAddr, Ba hb len (Nat.le_refl _), dQ hn, hm, Sem.run_bind, run_program, Result.andThen_ok, Sem.run_pure, uJ]
      split <;> simp [jU]
     ·split
      ·exact hx
      ·exact IG _ hx
   ·cases h
 ·cases h
def yQ (P : Program) (σ : AW) (size : Nat) (tx : TypeId) (x : Value) : Option (Nat × List Value) := match P.underlying tx with
 | some (.slice _) => match x with
  | .slice none 0 _ => some (0, [])
  | .slice (some a) n _ => match rowOf σ a with
   | none => if n = 0 then some (0, []) else none
   | some cs => if ((cs.drop a.off).take (n * size)).length = n * size ∧ ((cs.drop a.off).take (n * size)).all gu = true then some (n, (cs.drop a.off).take (n * size)) else none
  | _ => none
 | some .string => match x with
  | .string s => if size = 1 then some (s.size, byteCells s) else none
  | _ => none
 | _ => none
theorem vI (s : ByteArray) : ∀ v ∈ byteCells s, uH v = true := fun v hv => by
 obtain ⟨_, _, rfl⟩ := List.mem_map.1 hv
 rfl
theorem src_ok {P : Program} {ρ : Rn} {σ : AW} {w : World} (hR : Rel ρ σ w) {size : Nat} {tx : TypeId} {x : Value} {n : Nat} {news : List Value} (h : yQ P σ size tx x = some (n, news)) :
  Src P size tx (ren ρ x) n (news.map (ren ρ)) w ∧ (∀ v ∈ news, Sc σ.dom v) ∧ news.all gu = true ∧ news.length = n * size := by
 unfold yQ at h
 split at h
 ·rename_i e hu
  split at h
  ·rename_i c
   injection h with h
   injection h with h1 h2
   subst h1 h2
   exact ⟨Src.ofNil w hu _, (fun v hv => by cases hv), rfl, by simp⟩
  ·rename_i a m c
   split at h
   ·split at h
    ·rename_i h0
     injection h with h
     injection h with h1 h2
     subst h1 h2 h0
     exact ⟨Src.ofSlice w hu (jd ρ a) 0 _ _ (by simp) (fun j u hu => by simp at hu) (fun u hu => by simp at hu), (fun v hv => by cases hv), rfl, by simp⟩
    ·cases h
   ·rename_i cs hr
    split at h
    ·rename_i hl
     injection h with h
     injection h with h1 h2
     subst h1 h2
     obtain ⟨hs, _, hsc⟩ := yO hR hr
     refine ⟨?_, fun v hv => ?_, hl.2, hl.1⟩
     ·refine Src.ofSlice w hu (jd ρ a) m _ _ (by rw [List.length_map]; exact hl.1) (fun j u hu => ?_) (fun u hu => ?_)
      ·rw [List.getElem?_map, Option.map_eq_some_iff] at hu
       obtain ⟨v, hv, rfl⟩ := hu
       rw [nC ρ hs, je, Nat.add_right_comm]
       refine xR hR hr ?_
       rw [List.getElem?_take, List.getElem?_drop] at hv
       split at hv
       ·exact hv
       ·cases hv
      ·obtain ⟨v, hv, rfl⟩ := List.mem_map.1 hu
       exact IB ρ v (List.all_eq_true.1 hl.2 v hv)
     ·exact hsc v (List.mem_of_mem_drop (List.mem_of_mem_take hv))
    ·cases h
  ·cases h
 ·rename_i hu
  split at h
  ·rename_i s
   split at h
   ·rename_i h1
    injection h with h
    injection h with h2 h3
    subst h1 h2 h3
    have hm : (byteCells s).map (ren ρ) = byteCells s := Ei (List.all_eq_true.2 (vI s)) ρ
    rw [hm]
    refine ⟨Src.ofString w hu s, fun v hv => (kW (vI s v hv)).sc _, List.all_eq_true.2 (fun v hv => ?_), by rw [byteCells_length, Nat.mul_one]⟩
    obtain ⟨_, _, rfl⟩ := List.mem_map.1 hv
    rfl
   ·cases h
  ·cases h
 ·cases h
theorem GL (need : Nat) : ∀ (r c : Nat), c ≤ 2 * need + 768 → Builtin.growBy need r c ≤ 2 * need + 768
 | 0, c, h => h
 | r + 1, c, h => by
  unfold Builtin.growBy
  split
  ·exact h
  ·exact GL need r _ (by omega)
theorem Ep {need cap : Nat} (h : cap < need) : Builtin.nextslicecap need cap ≤ 2 * need + 768 := by
 unfold Builtin.nextslicecap
 split
 ·omega
 ·split
  ·omega
  ·exact GL need 4 cap (by omega)
def sS (σ : AW) (e : TypeId) (i : TypeInfo) (need : Nat) (cs : List Value) : Option (Value × AW) := match i.zero with
 | none => none
 | some z => if (aF z).length = i.size ∧ 0 < need ∧ (2 * need + 768) * i.bytes ≤ 281474976710656 ∧ need ≤ 1000000000 then
  some (.slice (some ⟨σ.next, 0, none⟩) need 1, σ.push ⟨2, e, i.size, cs⟩) else none
theorem gY (v : Value) : v.cells.toList = aF v := by cases v <;> rfl
theorem uK (z : Array Value) (n : Nat) : (Builtin.zeroCells z n).size = n * z.size := by simp [Builtin.zeroCells]
theorem Ph {P : Program} {ρ : Rn} {σ : AW} {w : World} (hR : Rel ρ σ w) {t tx ty e : TypeId} {i : TypeInfo} (ht : P.underlying t = some (.slice e)) (hi : P.info? e = some i)
  {base : Option Addr} {sLen sCap : Nat} {olds : List Value} (hold : (Builtin.firstCells i.size sLen (.slice base sLen sCap)).run P w.drew = .ok (olds.map (ren ρ)).toArray w.drew) (hol : olds.length = sLen * i.size) (hos : ∀ v ∈ olds, Sc σ.dom v)
  {x : Value} {n : Nat} {news : List Value} (hs : yQ P σ i.size tx x = some (n, news)) (hg : sCap < sLen + n) {r : Value} {σ' : AW} (h : sS σ e i (sLen + n) (olds ++ news) = some (r, σ')) :
  ∃ ρ' w', (Builtin.append_ #[t, tx] ty #[.slice base sLen sCap, ren ρ x]).run P w = .ok (ren ρ' r) w' ∧ Step ρ σ w ρ' σ' w' ∧ Sc σ'.dom r := by
 unfold sS at h
 split at h
 ·cases h
 ·rename_i z hz
  split at h
  ·rename_i hc
   obtain ⟨hz1, hc1, hc2, hc3⟩ := hc
   injection h with h
   injection h with h1 h2
   subst h1 h2
   obtain ⟨hsrc, hns, hone, hnl⟩ := src_ok hR hs
   have hrun := run_append_grow_src (P := P) w t tx ty e i z ht hi hz base sLen sCap (olds.map (ren ρ)) hold (ren ρ x) n (news.map (ren ρ)) hsrc hg (by omega) (Nat.le_trans (Nat.mul_le_mul_right _ (Ep hg)) hc2)
   have hge : sLen + n ≤ grownCap w (sLen + n) sCap e := grownCap_ge w (sLen + n) sCap e
   have hzs : z.cells.size = i.size := by rw [← hz1, ← gY, Array.length_toList]
   obtain ⟨ρ', hn, hst⟩ := wM (σ := σ) (w := w.drew) (cap := grownCap w (sLen + n) sCap e) (b := ⟨2, e, i.size, olds ++ news⟩)
    (o := .cells ((olds.map (ren ρ) ++ news.map (ren ρ)).toArray ++ Builtin.zeroCells z.cells (grownCap w (sLen + n) sCap e - (sLen + n))) e) (hR.drawn rfl) (by simp)
    (fun v hv => by
     rcases List.mem_append.1 hv with hv | hv
     ·exact hos v hv
     ·exact hns v hv)
    (fun ρ' ea w' hw => by
     refine ⟨(Builtin.zeroCells z.cells (grownCap w (sLen + n) sCap e - (sLen + n))).toList, ?_, ?_⟩
     ·have em : (olds ++ news).map (ren ρ') = olds.map (ren ρ) ++ news.map (ren ρ) := by
       rw [List.map_append, oZ hos (fun k hk => (ea k hk.1).symm), oZ hns (fun k hk => (ea k hk.1).symm)]
      simp only [em]
      refine hw.trans ?_
      congr 2
      apply Array.ext'
      simp
     ·simp only [List.length_append, hol, hnl, Array.length_toList, uK, hzs]
      rw [← Nat.add_mul, ← Nat.add_mul]
      congr 1
      omega)
   refine ⟨ρ', _, ?_, (Step.drew hR).trans hst, pX (nT (by simp))⟩
   rw [hrun, aZ]
   simp only [jd, hn, oH, World.drew]
   rfl
  ·cases h
def ig (P : Program) (σ : AW) (t tx : TypeId) (s x : Value) : Option (Value × AW) := match P.underlying t with
 | some (.slice e) => match P.info? e with
  | none => none
  | some i => match yQ P σ i.size tx x with
   | none => none
   | some (n, news) => match s with
    | .slice none 0 0 => if n = 0 then some (.slice none 0 0, σ) else sS σ e i (0 + n) ([] ++ news)
    | .slice (some a) len cap => match rowOf σ a with
     | none => none
     | some cs =>
      if cap % 2 = 0 then
       if len + n ≤ cap / 2 then
        if a.off + len * i.size + news.length ≤ cs.length then
         match σ.get a.block with
         | ⟨5, _, _, _⟩ => none
         | ⟨k, el, z, _⟩ => some (.slice (some a) (len + n) cap, σ.set a.block ⟨k, el, z, cs.take (a.off + len * i.size) ++ news ++ cs.drop (a.off + len * i.size + news.length)⟩)
        else none
       else if ((cs.drop a.off).take (len * i.size)).length = len * i.size then sS σ e i (len + n) ((cs.drop a.off).take (len * i.size) ++ news) else none
      else if cap = 1 ∧ a.off = 0 ∧ len * i.size = cs.length ∧ 0 < i.size then
       match σ.get a.block with
       | ⟨2, el, z, _⟩ =>
        if el = e ∧ z = i.size then
         if n = 0 then some (.slice (some a) len 1, σ)
         else sS (σ.set a.block eu) e i (len + n) (cs ++ news)
        else none
       | _ => none
      else none
    | _ => none
 | _ => none
theorem JV {P : Program} {ρ : Rn} {σ : AW} {w : World} (hR : Rel ρ σ w) {a : Addr} {cs : List Value} (hr : rowOf σ a = some cs) {m len cap : Nat} (hl : ((cs.drop a.off).take (len * m)).length = len * m) :
  (Builtin.firstCells m len (.slice (some (jd ρ a)) len cap)).run P w.drew = .ok (((cs.drop a.off).take (len * m)).map (ren ρ)).toArray w.drew := by
 obtain ⟨hs, _, _⟩ := yO hR hr
 refine run_firstCells_some w.drew m len (jd ρ a) len cap _ (by rw [List.length_map]; exact hl) (fun j u hu => ?_)
 rw [List.getElem?_map, Option.map_eq_some_iff] at hu
 obtain ⟨v, hv, rfl⟩ := hu
 rw [nC ρ hs, je, Nat.add_right_comm]
 refine xR (hR.drawn rfl) hr ?_
 rw [List.getElem?_take, List.getElem?_drop] at hv
 split at hv
 ·exact hv
 ·cases hv
theorem QE {P : Program} {ρ : Rn} {σ : AW} {w : World} (hR : Rel ρ σ w) {t tx ty : TypeId} {s x r : Value} {σ' : AW} (hsc : Sc σ.dom s) (h : ig P σ t tx s x = some (r, σ')) :
  ∃ ρ' w', (Builtin.append_ #[t, tx] ty #[ren ρ s, ren ρ x]).run P w = .ok (ren ρ' r) w' ∧ Step ρ σ w ρ' σ' w' ∧ Sc σ'.dom r := by
 unfold ig at h
 split at h
 ·rename_i e hu
  split at h
  ·cases h
  ·rename_i i hi
   split at h
   ·cases h
   ·rename_i n news hsrc
    obtain ⟨hS, hns, hone, hnl⟩ := src_ok hR hsrc
    split at h
    ·split at h
     ·rename_i hn0
      injection h with h
      injection h with h1 h2
      subst h1 h2 hn0
      refine ⟨ρ, w, ?_, Step.refl hR, hsc⟩
      rcases hS.kind with ⟨e', hk⟩ | hk <;> simp [Builtin.append_, run_underlying hu, run_underlying hk, sizeOf, typeInfo, hi, hS.len, hS.cells, qV]
     ·rename_i hn0
      exact Ph hR hu hi (base := none) (sLen := 0) (sCap := 0) (olds := []) (run_firstCells_none w.drew i.size 0 0 0) (by simp) (fun v hv => by cases hv) hsrc (by omega) h
    ·rename_i a len cap
     split at h
     ·cases h
     ·rename_i cs hr
      split at h
      ·rename_i hc
       have hcap : oH ρ a.block cap = cap / 2 := by unfold oH; rw [if_pos hc]
       split at h
       ·rename_i hroom
        split at h
        ·rename_i hfit
         split at h
         ·cases h
         rename_i k el z _ hk5 hg
         have h5 : (σ.get a.block).kind ≠ 5 := fun e5 => hk5 (by rw [hg] at e5; exact e5)
         injection h with h
         injection h with h1 h2
         obtain ⟨hsp, _, _⟩ := yO hR hr
         have hr2 : rowOf σ (a.add (len * i.size)) = some cs := by
          unfold rowOf at hr ⊢
          rw [add_block]
          have : (a.add (len * i.size)).spot = none := by unfold Addr.add; split <;> simp [hsp]
          rw [hsp] at hr
          rw [this]
          exact hr
         have hoff : (a.add (len * i.size)).off = a.off + len * i.size := by unfold Addr.add; split <;> simp_all
         obtain ⟨w', hw, hst⟩ := Nk hR hr2 (by rw [add_block]; exact h5) (by rw [hoff]; exact hfit) hone hns P
         rw [hoff, add_block, hg, h2] at hst
         subst h1
         refine ⟨ρ, w', ?_, hst, fun ρ ρ' e => ?_⟩
         ·rw [jU] at hw
          rw [aZ, hcap]
          rcases hS.kind with ⟨e', hk⟩ | hk <;> simp [Builtin.append_, run_underlying hu, run_underlying hk, sizeOf, typeInfo, hi, hS.len, hS.cells, hroom, hw, aZ, hcap]
         ·have := hst.sc hsc ρ ρ' e
          rw [aZ, aZ] at this ⊢
          obtain ⟨t1, _, t3⟩ := Value.slice.inj this
          rw [t1, t3]
        ·cases h
       ·rename_i hroom
        split at h
        ·rename_i hl
         obtain ⟨_, _, this⟩ := yO hR hr
         rw [aZ, hcap]
         exact Ph hR hu hi (JV hR hr hl) hl (fun v hv => this v (List.mem_of_mem_drop (List.mem_of_mem_take hv))) hsrc (by omega) h
        ·cases h
      ·rename_i hc
       split at h
       ·rename_i ho
        obtain ⟨hc1, ho0, hlen, hpos⟩ := ho
        split at h
        ·rename_i el z c0 hg
         split at h
         ·rename_i hez
          obtain ⟨rfl, rfl⟩ := hez
          obtain ⟨h30, hlive, hsp, hcs, rest, hh, hk⟩ := IC hR hr (by rw [hg]; simp)
          have hsa : ∀ v ∈ cs, Sc σ.dom v := by rw [← hcs]; exact hR.sc _ hlive
          have hk2 : cs.length + rest.length = (ρ a.block).2 * i.size := by
           rcases hk with ⟨hk, _⟩ | ⟨_, hk⟩
           ·rw [hg] at hk; simp at hk
           ·rw [hg] at hk; exact hk
          have hcap : oH ρ a.block cap = (ρ a.block).2 := by unfold oH; rw [if_neg hc, hc1]; omega
          have hcl : len ≤ (ρ a.block).2 := Nat.le_of_mul_le_mul_right (by omega : len * i.size ≤ (ρ a.block).2 * i.size) hpos
          have hre : jd ρ a = ⟨(ρ a.block).1, 0, none⟩ := by rw [nC ρ hsp, ho0, h30]
          split at h
          ·rename_i hn0
           injection h with h
           injection h with h1 h2
           subst h1 h2 hn0
           have hnil : news = [] := by cases news with | nil => rfl | cons y l => simp at hnl
           subst hnil
           subst hc1
           refine ⟨ρ, w, ?_, Step.refl hR, hsc⟩
           rw [aZ, hcap]
           rcases hS.kind with ⟨e', hk⟩ | hk <;> simp [Builtin.append_, run_underlying hu, run_underlying hk, sizeOf, typeInfo, hi, hS.len, hS.cells, hcl, storeCells]
          ·rename_i hn0
           by_cases hroom : len + n ≤ (ρ a.block).2
           ·-- in place
            have hgr := h
            unfold sS at hgr
            split at hgr
            ·cases hgr
            ·rename_i z hz
             split at hgr
             ·rename_i hq
              injection hgr with hgr
              injection hgr with h1 h2
              have afQ : (len + n) * i.size ≤ (ρ a.block).2 * i.size := Nat.mul_le_mul_right _ hroom
              rw [Nat.add_mul] at afQ
              have F9 := run_storeCells_at P (ρ a.block).1 (0 + len * i.size) _ (news.map (ren ρ)) 0 _ w hh (by simp; omega) (fun v hv => by
               obtain ⟨u, hu, rfl⟩ := List.mem_map.1 hv
               exact IB ρ u (List.all_eq_true.1 hone u hu))
              have aaF : (cs.map (ren ρ) ++ rest).toArray.toList.take (0 + len * i.size + 0) ++ news.map (ren ρ) ++ (cs.map (ren ρ) ++ rest).toArray.toList.drop (0 + len * i.size + 0 + (news.map (ren ρ)).length) = (cs ++ news).map (ren ρ) ++ rest.drop news.length := by
               simp only [Nat.add_zero, Nat.zero_add, List.length_map, List.map_append]
               rw [List.take_append_of_le_length (by simp; omega), List.take_of_length_le (by simp; omega), List.drop_append, List.drop_of_length_le (by simp; omega), List.nil_append]
               congr 2
               simp
               omega
              rw [aaF] at F9
              have hw := setRow_heap w (ρ a.block).1 _ (((cs ++ news).map (ren ρ) ++ rest.drop news.length).toArray) _ _ hh
              have hsm : ∀ v ∈ cs ++ news, Sc σ.dom v := fun v hv => by
               rcases List.mem_append.1 hv with hv | hv
               ·exact hsa v hv
               ·exact hns v hv
              obtain ⟨ρ', hn', hst⟩ := QD (b := ⟨2, el, i.size, cs ++ news⟩) hR hlive hsm (fun i hi => setRow_other _ _ _ _ hi) (setRow_size _ _ _) (fun ρ' ea => by
               refine ⟨rest.drop news.length, ?_, ?_⟩
               ·simp only
                rw [hw, oZ hsm (fun k hk => (ea k hk.1).symm), hg]
               ·simp only [List.length_append, List.length_drop]
                omega) rfl rfl rfl
              rw [← h2, ← h1]
              refine ⟨ρ', _, ?_, hst, pX (nT (by simp))⟩
              have hnx : (σ.set a.block eu).next = σ.next := rfl
              rw [aZ, hcap, hre, aZ]
              rw [hnx]
              simp only [jd, hn', oH, h30]
              simp only [Nat.zero_add, List.map_append, List.append_assoc] at F9
              rcases hS.kind with ⟨e', hk⟩ | hk <;> (simp [Builtin.append_, run_underlying hu, run_underlying hk, sizeOf, typeInfo, hi, hS.len, hS.cells, hroom, Addr.add_lit]; rw [F9]; rfl)
             ·cases hgr
           ·-- grown
            have Z4 := GK hR hlive
            have hfull : (cs.drop a.off).take (len * i.size) = cs := by rw [ho0, List.drop_zero, List.take_of_length_le (by omega)]
            have hf := JV (P := P) (ρ := ρ) (w := w) (m := i.size) (len := len) (cap := (ρ a.block).2) hR hr (by rw [hfull]; omega)
            rw [hfull] at hf
            unfold sS at h
            split at h
            ·cases h
            ·rename_i z hz
             split at h
             ·rename_i hq
              obtain ⟨hz1, hc1', hc2, hc3⟩ := hq
              injection h with h
              injection h with h1 h2
              have hg' : (ρ a.block).2 < len + n := by omega
              have hrun := run_append_grow_src (P := P) w t tx ty el i z hu hi hz (some (jd ρ a)) len (ρ a.block).2 (cs.map (ren ρ)) hf (ren ρ x) n (news.map (ren ρ)) hS hg' (by omega) (Nat.le_trans (Nat.mul_le_mul_right _ (Ep hg')) hc2)
              have hge : len + n ≤ grownCap w (len + n) (ρ a.block).2 el := grownCap_ge w (len + n) (ρ a.block).2 el
              have hzs : z.cells.size = i.size := by rw [← hz1, ← gY, Array.length_toList]
              have hsm : ∀ v ∈ cs ++ news, Sc σ.dom v := fun v hv => by
               rcases List.mem_append.1 hv with hv | hv
               ·exact hsa v hv
               ·exact hns v hv
              obtain ⟨ρ', hn', hst⟩ := wM (σ := σ.set a.block eu) (w := w.drew) (ρ := ρ) (cap := grownCap w (len + n) (ρ a.block).2 el) (b := ⟨2, el, i.size, cs ++ news⟩)
               (o := .cells ((cs.map (ren ρ) ++ news.map (ren ρ)).toArray ++ Builtin.zeroCells z.cells (grownCap w (len + n) (ρ a.block).2 el - (len + n))) el) (Z4.rel.drawn rfl) (by simp)
               (fun v hv => Z4.sc (hsm v hv))
               (fun ρ' ea w' hw => by
                refine ⟨(Builtin.zeroCells z.cells (grownCap w (len + n) (ρ a.block).2 el - (len + n))).toList, ?_, ?_⟩
                ·have em : (cs ++ news).map (ren ρ') = cs.map (ren ρ) ++ news.map (ren ρ) := by
                  rw [oZ hsm (fun k hk => ea k hk.1), List.map_append]
                 simp only [em]
                 refine hw.trans ?_
                 congr 2
                 apply Array.ext'
                 simp
                ·simp only [List.length_append, ← hlen, hnl, Array.length_toList, uK, hzs]
                 rw [← Nat.add_mul, ← Nat.add_mul]
                 congr 1
                 omega)
              rw [← h2, ← h1]
              refine ⟨ρ', _, ?_, (Step.drew hR).trans ((GK (hR.drawn (w' := w.drew) rfl) hlive).trans hst), pX (nT (by simp))⟩
              rw [aZ, hcap, hrun, aZ]
              simp only [jd, hn', oH, World.drew]
              rfl
             ·cases h
         ·cases h
        ·cases h
       ·cases h
    ·cases h
 ·cases h
def yg (cs : List Value) (off : Nat) (vs : List Value) : List Value := match vs with
 | [] => cs
 | v :: l => yg (cs.set off v) (off + 1) l
def kE (place : Nat → Option (Nat × Nat)) (cs : List Value) : List (Nat × Value) → Option (List Value)
 | [] => some cs
 | (i, v) :: rest => match place i with
  | none => none
  | some (off, size) => if (aF v).length ≠ size ∨ off + (aF v).length > cs.length then none else kE place (yg cs off (aF v)) rest
theorem JW : ∀ (vs cs : List Value) (off : Nat), (yg cs off vs).length = cs.length
 | [], _, _ => rfl
 | v :: l, cs, off => by rw [yg, JW l]; simp
theorem Nr (cs : List Value) (vs : List Value) : ∀ (off j : Nat), ((vs.zipIdx j).foldl (fun (cs : Array Value) (p : Value × Nat) => cs.setIfInBounds (off + p.2) p.1) cs.toArray) = (yg cs (off + j) vs).toArray := by
 induction vs generalizing cs with
 | nil => intro off j; rfl
 | cons v l ih =>
  intro off j
  rw [List.zipIdx_cons, List.foldl_cons, yg]
  have e : (cs.toArray.setIfInBounds (off + j) v) = (cs.set (off + j) v).toArray := by simp
  simp only [e]
  rw [ih, Nat.add_assoc]
theorem fill_eq (place : Nat → Option (Nat × Nat)) : ∀ (ps : List (Nat × Value)) (cs : List Value), Instr.fill place cs.toArray ps = (kE place cs ps).map List.toArray
 | [], cs => rfl
 | (i, v) :: rest, cs => by
  unfold Instr.fill kE
  cases place i with
  | none => rfl
  | some p =>
   obtain ⟨off, size⟩ := p
   have hs : v.cells.size = (aF v).length := by rw [← gY, Array.length_toList]
   simp only [hs, List.size_toArray]
   by_cases hc : (aF v).length ≠ size ∨ off + (aF v).length > cs.length
   ·rw [if_pos (by simpa using hc), if_pos hc]; rfl
   ·rw [if_neg (by simpa using hc), if_neg hc, ← fill_eq place rest]
    congr 1
    have hv : v.cells = (aF v).toArray := by rw [← gY]
    rw [hv]
    have := Nr cs (aF v) off 0
    simp only [Nat.add_zero] at this
    rw [← this]
    simp
theorem JX (f : Value → Value) : ∀ (vs cs : List Value) (off : Nat), (yg cs off vs).map f = yg (cs.map f) off (vs.map f)
 | [], _, _ => rfl
 | v :: l, cs, off => by rw [yg, JX f l, List.map_cons, yg, List.map_set]
theorem Es (ρ : Rn) (v : Value) : aF (ren ρ v) = (aF v).map (ren ρ) := by
 rw [← gY, xQ]
theorem xW (ρ : Rn) (place : Nat → Option (Nat × Nat)) : ∀ (ps : List (Nat × Value)) (cs : List Value), kE place (cs.map (ren ρ)) (ps.map fun p => (p.1, ren ρ p.2)) = (kE place cs ps).map (·.map (ren ρ))
 | [], cs => rfl
 | (i, v) :: rest, cs => by
  simp only [List.map_cons, kE]
  cases place i with
  | none => rfl
  | some p =>
   obtain ⟨off, size⟩ := p
   simp only [Es, List.length_map]
   split
   ·rfl
   ·rw [← JX, xW ρ place rest]
theorem JY {D : Value → Prop} : ∀ (vs cs : List Value) (off : Nat), (∀ v ∈ cs, D v) → (∀ v ∈ vs, D v) → ∀ v ∈ yg cs off vs, D v
 | [], _, _, h, _ => h
 | u :: l, cs, off, h, k => by
  rw [yg]
  refine JY l _ _ (fun v hv => ?_) (fun v hv => k v (List.mem_cons_of_mem _ hv))
  rcases List.mem_or_eq_of_mem_set hv with hv | rfl
  ·exact h v hv
  ·exact k v (List.mem_cons_self ..)
theorem uM {D : Nat → Prop} {place : Nat → Option (Nat × Nat)} : ∀ {ps : List (Nat × Value)} {cs r : List Value}, (∀ v ∈ cs, Sc D v) → (∀ p ∈ ps, Sc D p.2) → kE place cs ps = some r → ∀ v ∈ r, Sc D v
 | [], cs, r, h, _, e => by injection e with e; subst e; exact h
 | (i, v) :: rest, cs, r, h, k, e => by
  unfold kE at e
  split at e
  ·cases e
  ·split at e
   ·cases e
   ·exact uM (JY _ _ _ h (uI (k (i, v) (List.mem_cons_self ..)))) (fun p hp => k p (List.mem_cons_of_mem _ hp)) e
def nV (A : Fr) : List (Nat × Operand) → Option (List (Nat × Value))
 | [] => some []
 | (i, x) :: l => match ev A x with
  | none => none
  | some v => match nV A l with
   | none => none
   | some vs => some ((i, v) :: vs)
def HE (ρ : Rn) (σ : AW) (A : Fr) (a : Act) (xs : List Operand) : Prop := ∀ x ∈ xs, ∀ v, ev A x = some v → a.eval x = ren ρ v ∧ Sc σ.dom v
theorem zL {ρ : Rn} {σ : AW} {A : Fr} {a : Act} : ∀ {l : List (Nat × Operand)} {vs : List (Nat × Value)}, HE ρ σ A a (l.map (·.2)) → nV A l = some vs →
  (l.map fun (i, x) => (i, a.eval x)) = vs.map (fun p => (p.1, ren ρ p.2)) ∧ ∀ p ∈ vs, Sc σ.dom p.2
 | [], vs, _, e => by injection e with e; subst e; exact ⟨rfl, fun v hv => by cases hv⟩
 | (i, x) :: l, vs, h, e => by
  simp only [nV] at e
  split at e
  ·cases e
  ·rename_i v hv
   split at e
   ·cases e
   ·rename_i us hus
    injection e with e
    subst e
    obtain ⟨h1, h2⟩ := h x (List.mem_cons_self ..) v hv
    obtain ⟨h3, h4⟩ := zL (fun y hy => h y (List.mem_cons_of_mem _ hy)) hus
    refine ⟨by rw [List.map_cons, List.map_cons, h3]; simp [h1], fun u hu => ?_⟩
    cases hu with
    | head => exact h2
    | tail _ hu => exact h4 u hu
def DV (P : Program) : List Field → Option (List (Nat × Nat))
 | [] => some []
 | f :: l => match iW P f.type with
  | none => none
  | some n => match DV P l with
   | none => none
   | some r => some ((f.offset, n) :: r)
theorem Et {P : Program} (w : World) : ∀ {l : List Field} {r : List (Nat × Nat)}, DV P l = some r → (l.mapM (fun f => (do pure (f.offset, ← sizeOf f.type) : Sem (Nat × Nat)))).run P w = .ok r w
 | [], r, e => by injection e with e; subst e; rfl
 | f :: l, r, e => by
  unfold DV at e
  split at e
  ·cases e
  ·rename_i n hn
   split at e
   ·cases e
   ·rename_i r' hr
    injection e with e
    subst e
    rw [List.mapM_cons]
    simp only [Sem.run_bind, dQ hn, Result.andThen_ok, Sem.run_pure, Et w hr]
def lW (P : Program) (t : TypeId) (ps : List (Nat × Value)) : Option Value := match zeroOf P t with
 | none => none
 | some z => match P.underlying t with
  | some (.struct fs) => match DV P fs.toList with
   | none => none
   | some pl => match kE (fun i => pl[i]?) (aF z) ps with
    | none => none
    | some cs => some (.agg cs.toArray)
  | some (.array _ e) => match iW P e with
   | none => none
   | some n => match kE (fun i => some (i * n, n)) (aF z) ps with
    | none => none
    | some cs => some (.agg cs.toArray)
  | _ => none
theorem xX {z : Value} (h : Fl z) (D : Nat → Prop) : ∀ v ∈ aF z, Sc D v := uI (h.sc D)
theorem zM {z : Value} (h : Fl z) (ρ : Rn) : (aF z).map (ren ρ) = aF z := by rw [← Es, h ρ]
theorem Ui {P : Program} {ρ : Rn} {D : Nat → Prop} {t : TypeId} {ps : List (Nat × Value)} {r : Value} (hp : ∀ p ∈ ps, Sc D p.2) (h : lW P t ps = some r) (w : World) :
  (Instr.build t (ps.map fun p => (p.1, ren ρ p.2)).toArray).run P w = .ok (ren ρ r) w ∧ Sc D r := by
 unfold lW at h
 split at h
 ·cases h
 ·rename_i z hz
  obtain ⟨hz1, hz2⟩ := qY hz w
  have hzc : z.cells = (aF z).toArray := by rw [← gY]
  split at h
  ·rename_i fs hu
   split at h
   ·cases h
   ·rename_i pl hpl
    split at h
    ·cases h
    ·rename_i cs hcs
     injection h with h
     subst h
     refine ⟨?_, Ej (fun v hv => uM (xX hz2 D) hp hcs v (by simpa using hv))⟩
     have hm := xW ρ (fun i => pl[i]?) ps (aF z)
     rw [hcs, zM hz2] at hm
     unfold Instr.build
     have hrun : (fs.mapM (fun f => (do pure (f.offset, ← sizeOf f.type) : Sem (Nat × Nat)))).run P w = .ok pl.toArray w := by
      rw [Array.mapM_eq_mapM_toList, Sem.run_map, Et w hpl]
      rfl
     simp only [Sem.run_bind, hz1, Result.andThen_ok, underlying, run_program, hu, Sem.run_pure, hrun, hzc, List.getElem?_toArray, fill_eq, hm]
     simp [lG]
  ·rename_i len e hu
   split at h
   ·cases h
   ·rename_i n hn
    split at h
    ·cases h
    ·rename_i cs hcs
     injection h with h
     subst h
     refine ⟨?_, Ej (fun v hv => uM (xX hz2 D) hp hcs v (by simpa using hv))⟩
     have hm := xW ρ (fun i => some (i * n, n)) ps (aF z)
     rw [hcs, zM hz2] at hm
     unfold Instr.build
     simp only [Sem.run_bind, hz1, Result.andThen_ok, underlying, run_program, hu, Sem.run_pure, dQ hn, hzc, fill_eq, hm]
     simp [lG]
  ·cases h
def wG : Nat → List Value → List Value
 | 0, _ => []
 | n + 1, z => z ++ wG n z
theorem wQ (z : List Value) : ∀ n, (wG n z).length = n * z.length
 | 0 => by simp [wG]
 | n + 1 => by rw [wG, List.length_append, wQ z n, Nat.add_mul, Nat.one_mul, Nat.add_comm]
theorem JZ {z : List Value} : ∀ (n i : Nat), i < n * z.length → (wG n z)[i]? = z[i % z.length]?
 | 0, i, h => by simp at h
 | n + 1, i, h => by
  rw [wG]
  by_cases hi : i < z.length
  ·rw [List.getElem?_append_left hi, Nat.mod_eq_of_lt hi]
  ·have h' : i < n * z.length + z.length := by rw [Nat.add_mul, Nat.one_mul] at h; exact h
   rw [List.getElem?_append_right (by omega), JZ n (i - z.length) (by omega), Nat.mod_eq_sub_mod (a := i) (by omega)]
theorem J3 (z : Array Value) (n m : Nat) (hz : z.size = m) : ((Array.range (n * m)).map (z[· % z.size]!)) = (wG n z.toList).toArray := by
 apply Array.ext'
 apply List.ext_getElem?
 intro i
 by_cases hi : i < n * m
 ·have h1 : i < n * z.toList.length := by simpa [hz] using hi
  have h2 : i % z.size < z.size := Nat.mod_lt _ (by
   rcases Nat.eq_zero_or_pos z.size with h | h
   ·rw [← hz, h] at hi; simp at hi
   ·exact h)
  rw [List.toList_toArray, JZ n i h1]
  simp [hi, h2, Array.length_toList]
 ·have h1 : (wG n z.toList).length ≤ i := by rw [wQ]; simpa [hz] using hi
  simp [hi, h1]
theorem zN {D : Value → Prop} {z : List Value} (h : ∀ v ∈ z, D v) : ∀ n, ∀ v ∈ wG n z, D v
 | 0, v, hv => by cases hv
 | n + 1, v, hv => by
  rcases List.mem_append.1 hv with hv | hv
  ·exact h v hv
  ·exact zN h n v hv
theorem Eu (f : Value → Value) {z : List Value} (h : z.map f = z) : ∀ n, (wG n z).map f = wG n z
 | 0 => rfl
 | n + 1 => by rw [wG, List.map_append, h, Eu f h n]
theorem GN {P : Program} {ρ : Rn} {σ : AW} {w : World} (h : Rel ρ σ w) (t : TypeId) {cs : List Value} (hs : ∀ v ∈ cs, Sc σ.dom v) {len c : Nat} (z : Nat := 0) :
  ∃ ρ' w', (newRow t (cs.map (ren ρ)).toArray).run P w = .ok (jd ρ' ⟨σ.next, 0, none⟩) w' ∧ Step ρ σ w ρ' (σ.push ⟨1, t, z, cs⟩) w' ∧
   ren ρ' (.slice (some ⟨σ.next, 0, none⟩) len (2 * c)) = .slice (some (jd ρ' ⟨σ.next, 0, none⟩)) len c := by
 obtain ⟨ρ', h1, h2⟩ := wM (cap := 0) (b := ⟨1, t, z, cs⟩) (o := .cells (cs.map (ren ρ)).toArray t) h (by simp) hs (fun ρ' e w' hw => by
  show w'.heap[w.heap.size]? = _
  rw [hw, oZ hs (fun k hk => e k hk.1)])
 refine ⟨ρ', _, ?_, h2, by rw [aZ, uJ]⟩
 unfold newRow
 simp only [jd, h1]
 rfl
def bf (P : Program) (σ : AW) (t : TypeId) (len : Nat) (ps : List (Nat × Value)) : Option (Value × AW) := match P.underlying t with
 | some (.slice e) => match iW P e with
  | none => none
  | some n => if len * n > 16777216 ∨ n = 0 then none else match zeroOf P e with
   | none => none
   | some z => if (aF z).length ≠ n then none else match kE (fun i => some (i * n, n)) (wG len (aF z)) ps with
    | none => none
    | some cs => some (.slice (some ⟨σ.next, 0, none⟩) len (2 * len), σ.push ⟨1, e, 1, cs⟩)
 | _ => none
theorem Gf {P : Program} {ρ : Rn} {σ σ' : AW} {w : World} (hR : Rel ρ σ w) {t : TypeId} {len : Nat} {ps : List (Nat × Value)} {r : Value} (hp : ∀ p ∈ ps, Sc σ.dom p.2) (h : bf P σ t len ps = some (r, σ')) :
  ∃ ρ' w', (Instr.buildSlice t len (ps.map fun p => (p.1, ren ρ p.2)).toArray).run P w = .ok (ren ρ' r) w' ∧ Step ρ σ w ρ' σ' w' ∧ Sc σ'.dom r := by
 unfold bf at h
 split at h
 ·rename_i e hu
  split at h
  ·cases h
  ·rename_i n hn
   split at h
   ·cases h
   ·rename_i hc
    split at h
    ·cases h
    ·rename_i z hz
     split at h
     ·cases h
     ·rename_i hzl
      split at h
      ·cases h
      ·rename_i cs hcs
       injection h with h
       injection h with h1 h2
       subst h1 h2
       have hzn : (aF z).length = n := Decidable.byContradiction hzl
       obtain ⟨hz1, hz2⟩ := qY hz w
       have hm := xW ρ (fun i => some (i * n, n)) ps (wG len (aF z))
       rw [hcs, Eu _ (zM hz2 ρ)] at hm
       have hsc : ∀ v ∈ cs, Sc σ.dom v := uM (zN (xX hz2 _) len) hp hcs
       obtain ⟨ρ', w', hrow, hst, hr⟩ := GN (P := P) hR e hsc (len := len) (c := len) 1
       refine ⟨ρ', w', ?_, hst, pX (nT (by simp))⟩
       have hzc : z.cells.size = n := by rw [← hzn, ← gY, Array.length_toList]
       have hze := J3 z.cells len n hzc
       rw [gY] at hze
       have hc1 : ¬ (len * n > 2 ^ 24) := fun x => hc (.inl (by omega))
       have hn0 : ¬ n = 0 := fun x => hc (.inr x)
       rw [hr]
       unfold Instr.buildSlice
       by_cases hl0 : len * n = 0
       ·have hl : len = 0 := by rcases Nat.mul_eq_zero.1 hl0 with h | h; exact h; exact absurd h hn0
        subst hl
        have e0 : kE (fun i => some (i * n, n)) [] (ps.map fun p => (p.1, ren ρ p.2)) = some (cs.map (ren ρ)) := hm
        have e1 : ((Array.range 0).map fun (x : Nat) => (#[] : Array Value)[x % (#[] : Array Value).size]!) = (([] : List Value).toArray) := by simp
        simp only [Sem.run_bind, underlying, run_program, hu, Result.andThen_ok, Sem.run_pure, dQ hn, Nat.zero_mul, if_true]
        simp only [show ¬ (0 > 2 ^ 24) by omega, if_false, Sem.run_bind, Sem.run_pure, Result.andThen_ok, e1, fill_eq, e0, Option.map_some, hrow]
       ·simp only [Sem.run_bind, underlying, run_program, hu, Result.andThen_ok, Sem.run_pure, dQ hn, hc1, if_false, hl0, hz1, hze, fill_eq, hm, Option.map_some, hrow]
 ·cases h
def yR (P : Program) (σ : AW) (t : TypeId) (len cap : Value) : Option (Value × AW) := match P.underlying t, len, cap with
 | some (.slice e), .int _ l, .int _ c => match P.info? e with
  | none => none
  | some i => match zeroOf P e with
   | none => none
   | some z => if 0 ≤ l ∧ l ≤ c ∧ c ≤ 1000000 ∧ i.bytes ≤ 100000 ∧ (aF z).length = i.size ∧ 0 < i.size then
    some (.slice (some ⟨σ.next, 0, none⟩) l.toNat (2 * c.toNat), σ.push ⟨1, e, 0, wG c.toNat (aF z)⟩) else none
 | _, _, _ => none
theorem wrap_small {n : Int} (h0 : 0 ≤ n) (h1 : n ≤ 1000000) : IntKind.i64.wrap n = n := by
 unfold IntKind.wrap
 simp [IntKind.bits, IntKind.signed]
 omega
theorem II {P : Program} {ρ : Rn} {σ σ' : AW} {w : World} (hR : Rel ρ σ w) {t : TypeId} {len cap r : Value} (h : yR P σ t len cap = some (r, σ')) :
  ∃ ρ' w', (Instr.makeSlice t (ren ρ len) (ren ρ cap)).run P w = .ok (ren ρ' r) w' ∧ Step ρ σ w ρ' σ' w' ∧ Sc σ'.dom r := by
 unfold yR at h
 split at h
 ·rename_i e k1 l k2 c hu
  split at h
  ·cases h
  ·rename_i i hi
   split at h
   ·cases h
   ·rename_i z hz
    split at h
    ·rename_i hc
     obtain ⟨h0, h1, h2, h3, h4, h5⟩ := hc
     injection h with h
     injection h with e1 e2
     subst e1 e2
     obtain ⟨hz1, hz2⟩ := qY hz w
     have hsc : ∀ v ∈ wG c.toNat (aF z), Sc σ.dom v := zN (xX hz2 _) _
     obtain ⟨ρ', w', hrow, hst, hr⟩ := GN (P := P) hR e hsc (len := l.toNat) (c := c.toNat)
     refine ⟨ρ', w', ?_, hst, pX (nT (by simp))⟩
     rw [Eu _ (zM hz2 ρ)] at hrow
     have hzc : z.cells.size = i.size := by rw [← h4, ← gY, Array.length_toList]
     have hze := J3 z.cells c.toNat i.size hzc
     rw [gY] at hze
     have hb : ¬ ((281474976710656 : Int) < (i.bytes : Int) * c) := by
      have : (i.bytes : Int) * c ≤ 100000 * 1000000 := Int.mul_le_mul (by omega) h2 (by omega) (by omega)
      omega
     have hsz : (sizeOf e).run P w = .ok i.size w := by simp [sizeOf, typeInfo, hi]
     rw [hr]
     unfold Instr.makeSlice
     have hl0 : ¬ l < 0 := by omega
     have hc0 : ¬ c < 0 := by omega
     have hlc : ¬ c < l := by omega
     by_cases hn : c.toNat * i.size = 0
     ·have hcz : c.toNat = 0 := by rcases Nat.mul_eq_zero.1 hn with h | h; exact h; omega
      rw [hcz] at hrow
      simp only [wG] at hrow
      have e1 : Array.map (fun (_ : Nat) => (default : Value)) (Array.range 0) = #[] := by apply Array.ext'; simp
      simp [kP, asInt, asIntOf, underlying, hu, typeInfo, hi, wrap_small h0 (by omega), wrap_small (by omega : 0 ≤ c) h2, hl0, hc0, hlc, hb, sizeOf, hcz, e1, hrow]
     ·simp [kP, asInt, asIntOf, underlying, hu, typeInfo, hi, wrap_small h0 (by omega), wrap_small (by omega : 0 ≤ c) h2, hl0, hc0, hlc, hb, sizeOf, hn, hz1, hze, hrow]
    ·cases h
 ·cases h
def XW (σ : AW) (n dLen : Nat) (x : Value) : Option (Nat × List Value) := match x with
 | .slice (some b) sLen _ => match rowOf σ b with
  | none => none
  | some ds => if ((ds.drop b.off).take (Nat.min sLen dLen * n)).length = Nat.min sLen dLen * n then some (sLen, (ds.drop b.off).take (Nat.min sLen dLen * n)) else none
 | .slice none 0 _ => some (0, [])
 | _ => none
theorem Pj {P : Program} {ρ : Rn} {σ : AW} {w : World} (hR : Rel ρ σ w) {n dLen sLen : Nat} {x : Value} {vs : List Value} (h : XW σ n dLen x = some (sLen, vs)) :
  (∀ w' : World, (Builtin.lenOf (ren ρ x)).run P w' = .ok sLen w') ∧ (Builtin.firstCells n (Nat.min sLen dLen) (ren ρ x)).run P w = .ok (vs.map (ren ρ)).toArray w ∧ ∀ v ∈ vs, Sc σ.dom v := by
 unfold XW at h
 split at h
 ·rename_i b sl c
  split at h
  ·cases h
  ·rename_i ds hb
   split at h
   ·rename_i hlq
    simp only [Option.some.injEq, Prod.mk.injEq] at h
    obtain ⟨rfl, rfl⟩ := h
    obtain ⟨hsp, _, this⟩ := yO hR hb
    refine ⟨fun _ => rfl, ?_, fun v hv => this v (List.mem_of_mem_drop (List.mem_of_mem_take hv))⟩
    rw [aZ]
    refine run_firstCells_some w n _ (jd ρ b) _ _ _ (by rw [List.length_map]; exact hlq) (fun j u hu => ?_)
    rw [List.getElem?_map, Option.map_eq_some_iff] at hu
    obtain ⟨v, hv, rfl⟩ := hu
    rw [nC ρ hsp, je, Nat.add_right_comm]
    refine xR hR hb ?_
    rw [List.getElem?_take, List.getElem?_drop] at hv
    split at hv
    ·exact hv
    ·cases hv
   ·cases h
 ·simp only [Option.some.injEq, Prod.mk.injEq] at h
  obtain ⟨rfl, rfl⟩ := h
  exact ⟨fun _ => rfl, rfl, fun v hv => by cases hv⟩
 ·cases h
def Uj (P : Program) (σ : AW) (t : TypeId) (d x : Value) : Option (Value × AW) := match P.underlying t with
 | some (.slice e) => match iW P e with
  | none => none
  | some n => match d with
   | .slice (some a) dLen _ => match rowOf σ a with
    | none => none
    | some cs => match XW σ n dLen x with
     | none => none
     | some (sLen, vs) =>
      if a.off + vs.length ≤ cs.length ∧ vs.all gu = true then
       match σ.get a.block with
       | ⟨5, _, _, _⟩ => none
       | ⟨k, el, z, _⟩ => some (.int .i64 (Nat.min sLen dLen : Nat), σ.set a.block ⟨k, el, z, cs.take a.off ++ vs ++ cs.drop (a.off + vs.length)⟩)
      else none
   | .slice none 0 _ => match XW σ n 0 x with
    | none => none
    | some (_, _) => some (.int .i64 0, σ)
   | _ => none
 | _ => none
theorem XY {P : Program} {ρ : Rn} {σ σ' : AW} {w : World} (hR : Rel ρ σ w) {t tx ty : TypeId} {d x r : Value} (h : Uj P σ t d x = some (r, σ')) :
  ∃ w', (Builtin.copy_ #[t, tx] ty #[ren ρ d, ren ρ x]).run P w = .ok (ren ρ r) w' ∧ Step ρ σ w ρ σ' w' ∧ Sc σ'.dom r := by
 unfold Uj at h
 split at h
 ·rename_i e hu
  split at h
  ·cases h
  ·rename_i n hn
   split at h
   ·rename_i a dLen dCap
    split at h
    ·cases h
    ·rename_i cs hr
     split at h
     ·cases h
     ·rename_i sLen vs hsrc
      split at h
      ·rename_i hc
       split at h
       ·cases h
       rename_i k el z _ hk5 hg
       injection h with h
       injection h with h1 h2
       subst h1
       obtain ⟨hl1, hcells, hsc⟩ := Pj (P := P) hR hsrc
       obtain ⟨w', hw, hst⟩ := Nk hR hr (fun e5 => hk5 (by rw [hg] at e5; exact e5)) hc.1 hc.2 hsc P
       rw [hg, h2] at hst
       refine ⟨w', ?_, hst, fun _ _ _ => rfl⟩
       unfold Builtin.copy_
       simp only [Nat.min_def] at hcells ⊢
       simp [run_underlying hu, aZ, hl1, dQ hn, hcells, hw, goInt, kP]
      ·cases h
   ·rename_i dCap
    split at h
    ·cases h
    ·rename_i sLen vs hsrc
     injection h with h
     injection h with h1 h2
     subst h1 h2
     obtain ⟨hl1, hcells, hsc⟩ := Pj (P := P) hR hsrc
     refine ⟨w, ?_, Step.refl hR, fun _ _ _ => rfl⟩
     unfold Builtin.copy_
     simp only [Nat.min_def] at hcells ⊢
     simp [run_underlying hu, qV, hl1, dQ hn, goInt, kP] at hcells ⊢
     simp [hcells]
   ·cases h
 ·cases h
def fF (P : Program) (σ : AW) (t : TypeId) (x : Value) : Option Value := match P.underlying t with
 | some (.slice _) => match x with
  | .slice _ n _ => some (.int .i64 n)
  | _ => none
 | some (.string) => match x with
  | .string s => some (.int .i64 s.size)
  | _ => none
 | some (.array n _) => some (.int .i64 n)
 | some (.map _ _) => match x with
  | .map none => some (.int .i64 0)
  | .map (some k) => match σ.get k with
   | ⟨3, _, _, cs⟩ => some (.int .i64 ((cs.length / 2 : Nat) : Int))
   | _ => none
  | _ => none
 | _ => none
theorem wR : ∀ (l : List Value) (n : Nat), (entries n l).length = l.length / 2
 | [], _ => rfl
 | [x], _ => by simp [entries]
 | k :: v :: l, n => by rw [entries, List.length_cons, wR l]; simp; omega
theorem IJ {ρ : Rn} {σ : AW} {w : World} (hR : Rel ρ σ w) {k e z : Nat} {cs : List Value} (hg : σ.get k = ⟨3, e, z, cs⟩) : σ.live k ∧ w.heap[(ρ k).1]? = some (.map (entries 0 (cs.map (ren ρ))).toArray (cs.length / 2)) := by
 have hl : σ.live k := by unfold AW.live; rw [hg]; exact ⟨by simp, by simp⟩
 have := hR.blk k hl
 rw [hg] at this
 exact ⟨hl, this⟩
theorem yS {P : Program} {w : World} {r : Nat} {o : Obj} (h : w.heap[r]? = some o) (ho : ∀ c e f, o ≠ .cells c e f) : (getObj r).run P w = .ok o w := by
 unfold getObj Sem.run
 rw [h]
 cases o <;> first | rfl | exact absurd rfl (ho _ _ _)
theorem aaG {P : Program} {ρ : Rn} {σ : AW} {w : World} (hR : Rel ρ σ w) {t ty : TypeId} {x r : Value} (h : fF P σ t x = some r) :
  (Builtin.len_ #[t] ty #[ren ρ x]).run P w = .ok (ren ρ r) w ∧ Fl r := by
 unfold fF at h
 unfold Builtin.len_
 split at h
 ·rename_i e hu
  split at h
  ·rename_i ao n c
   injection h with h
   subst h
   refine ⟨?_, fun _ => rfl⟩
   cases ao <;> simp [run_underlying hu, aZ, qV, goInt, kP]
  ·cases h
 ·rename_i hu
  split at h
  ·injection h with h
   subst h
   exact ⟨by simp [run_underlying hu, yN, goInt, kP], fun _ => rfl⟩
  ·cases h
 ·rename_i n e hu
  injection h with h
  subst h
  exact ⟨by simp [run_underlying hu, goInt, kP], fun _ => rfl⟩
 ·rename_i a b hu
  split at h
  ·injection h with h
   subst h
   exact ⟨by simp [run_underlying hu, Eh, goInt, kP], fun _ => rfl⟩
  ·rename_i k
   split at h
   ·rename_i e z cs hg
    injection h with h
    subst h
    obtain ⟨_, hm⟩ := IJ hR hg
    refine ⟨?_, fun _ => rfl⟩
    have := yS (P := P) hm (by simp)
    simp [run_underlying hu, sO, this, goInt, kP, wR]
   ·cases h
  ·cases h
 ·cases h
def wS (v : Value) (i : Nat) : Option Value := match v with
 | .tuple ⟨l⟩ => l[i]?
 | _ => none
theorem Ns {P : Program} {ρ : Rn} {D : Nat → Prop} {v r : Value} {i : Nat} (hv : Sc D v) (h : wS v i = some r) (w : World) : (Instr.extract (ren ρ v) i).run P w = .ok (ren ρ r) w ∧ Sc D r := by
 unfold wS at h
 split at h
 ·rename_i l
  refine ⟨?_, JQ hv _ (List.mem_of_getElem? h)⟩
  rw [dU]
  simp [Instr.extract, h]
 ·cases h
def nilA (P : Program) (t : TypeId) (x y : Value) : Option Bool := match P.underlying t with
 | some (.pointer _) => match x, y with
  | .pointer none, .pointer none => some true
  | .pointer none, .pointer (some _) => some false
  | .pointer (some _), .pointer none => some false
  | _, _ => none
 | some (.slice _) => match x, y with
  | .slice none _ _, .slice none _ _ => some true
  | .slice none _ _, .slice (some _) _ _ => some false
  | .slice (some _) _ _, .slice none _ _ => some false
  | _, _ => none
 | some (.map _ _) => match x, y with
  | .map none, .map none => some true
  | .map none, .map (some _) => some false
  | .map (some _), .map none => some false
  | _, _ => none
 | some (.func _ _ _) => match x, y with
  | .nilFunc, .nilFunc => some true
  | .nilFunc, .func _ _ _ => some false
  | .func _ _ _, .nilFunc => some false
  | _, _ => none
 | _ => none
theorem nil_eq {P : Program} {ρ : Rn} {t : TypeId} {x y : Value} {b : Bool} (h : nilA P t x y = some b) (w : World) (n : Nat) : (Op.equalIn (n + 1) t (ren ρ x) (ren ρ y)).run P w = .ok b w := by
 unfold nilA at h
 split at h
 ·rename_i e hu
  split at h <;> (first | (injection h with h; subst h; simp [Op.equalIn, run_underlying hu, dO, Pg]; done) | (cases h; done))
 ·rename_i e hu
  split at h <;> (first | (injection h with h; subst h; simp [Op.equalIn, run_underlying hu, aZ, qV]; done) | (cases h; done))
 ·rename_i e hu
  split at h <;> (first | (injection h with h; subst h; simp [Op.equalIn, run_underlying hu, sO, Eh]; done) | (cases h; done))
 ·rename_i e hu
  split at h <;> (first | (injection h with h; subst h; simp [Op.equalIn, run_underlying hu, jG, CP]; done) | (cases h; done))
 ·cases h
theorem GR {P : Program} {ρ : Rn} {t : TypeId} {x y : Value} {b : Bool} (h : nilA P t x y = some b) (w : World) (ox oy : Operand) (op : BinOp) :
  (eqGuard op t ox oy (ren ρ x) (ren ρ y)).run P w = .ok () w ∧ binOp .eql t (ren ρ x) (ren ρ y) = (do pure (.bool (← Op.equal t (ren ρ x) (ren ρ y)))) ∧ binOp .neq t (ren ρ x) (ren ρ y) = (do pure (.bool (!(← Op.equal t (ren ρ x) (ren ρ y))))) := by
 unfold nilA at h
 split at h
 ·rename_i e hu
  split at h <;> (first | (refine ⟨?_, rfl, rfl⟩; unfold eqGuard; cases op <;> simp [dO, Pg]; done) | (cases h; done))
 ·rename_i e hu
  split at h <;> (first | (refine ⟨?_, rfl, rfl⟩; unfold eqGuard; cases op <;> simp [aZ, qV]; done) | (cases h; done))
 ·rename_i e hu
  split at h <;> (first | (refine ⟨?_, rfl, rfl⟩; unfold eqGuard; cases op <;> simp [sO, Eh]; done) | (cases h; done))
 ·rename_i e hu
  split at h <;> (first | (simp only [jG, CP]; refine ⟨?_, rfl, rfl⟩; unfold eqGuard; cases op <;> simp; done) | (cases h; done))
 ·cases h
theorem Uk {P : Program} {ρ : Rn} {t : TypeId} {x y : Value} {b : Bool} (h : nilA P t x y = some b) (w : World) (ox oy : Operand) :
  (do eqGuard .eql t ox oy (ren ρ x) (ren ρ y); binOp .eql t (ren ρ x) (ren ρ y) : Sem Value).run P w = .ok (.bool b) w ∧ (do eqGuard .neq t ox oy (ren ρ x) (ren ρ y); binOp .neq t (ren ρ x) (ren ρ y) : Sem Value).run P w = .ok (.bool (!b)) w := by
 have k1 : (Op.equal t (ren ρ x) (ren ρ y)).run P w = .ok b w := nil_eq h w 9999
 have k2 := GR (ρ := ρ) h w ox oy .eql
 have k3 := GR (ρ := ρ) h w ox oy .neq
 refine ⟨?_, ?_⟩
 ·simp only [Sem.run_bind, k2.1, Result.andThen_ok, k2.2.1, k1, Sem.run_pure]
 ·simp only [Sem.run_bind, k3.1, Result.andThen_ok, k3.2.2, k1, Sem.run_pure]
end Go.Proofs.YthogkmcahnkkoaaGreatDoor
