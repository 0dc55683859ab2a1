/- A shelf: places by bytes. What lies in memory, put and get. -/
import Derived.Test.YtalfeggddfpgeaaDoorRwMem
import Derived.Test.YtalfeggddfpgeaaDoorMapS2
import Derived.Maps.AppendAt
namespace Go.Proofs.YtalfeggddfpgeaaDoor
open Go.RowKit Go.Sort

theorem info_int : (Tryd.prog.info? 3).map (fun i => (i.zero, i.size, i.bytes)) = some (some (.int .i64 0), 1, 8) := by kernel_rfl
theorem info_ints : (Tryd.prog.info? 41).map (fun i => (i.zero, i.size, i.bytes)) = some (some (.slice none 0 0), 1, 24) := by kernel_rfl

/-- append of one, that lies in a new block, as a step of a region whose order is left open: where the grown slice lies. -/
theorem step_push1 {ops : Array Oper} {o : Oper} {a : Act} {w : World} {K : Act → World → Prop} {Q : Exit → Act → World → Prop} {E : Prop} {base g : Nat} {v y : Value} {xs : List Value} {t e : TypeId} {z : Value} {bytes : Nat}
    (hinfo : (Tryd.prog.info? e).map (fun i => (i.zero, i.size, i.bytes)) = some (some z, 1, bytes)) (ht : Tryd.prog.underlying t = some (.slice e)) (hzc : z.cells.size = 1) (hby : bytes ≤ 64)
    (s x : Operand) (hgd : o.guard = none) (ho : o.op = .call { callee := .builtin .append, args := #[s, x], argTypes := #[t, t] })
    (hs : a.eval s = v) (hx : a.eval x = .slice (some ⟨g, 0, none⟩) 1 1) (hown : Own1 w base e v xs) (hb : base ≤ w.heap.size)
    (hsrc : w.cell? ⟨g, 0, none⟩ = some y) (hy : y.oneCell' = true) (hlen : xs.length ≤ 1000000)
    (h : ∀ v' w', Own1 w' base e v' (xs ++ [y]) → w.grownBy w' v.ownBlock → (v'.ownBlock = v.ownBlock ∨ v'.ownBlock = some w.heap.size) → v' ≠ .slice none 0 0 → K (a.put o.dst v') w') :
    if Region.wanted o (yielded ops a.tmps) = true then Oper.wp Tryd.prog o a w K Q else E := by
  have hw : Region.wanted o (yielded ops a.tmps) = true := by simp [Region.wanted, hgd]
  rw [if_pos hw]
  obtain ⟨i0, hi, hz0, hz1, hz2⟩ := info_parts hinfo
  obtain ⟨v', w', hr, h2, h3, h4, h5⟩ := run_append_own_at (P := Tryd.prog) w base t o.type e i0 z 1 bytes ht hi hz0 hz1 hz2 hzc (by decide) v xs.length xs hown ⟨g, 0, none⟩ 1 1 [y] rfl (fun j u hj => by
      match j, hj with
      | 0, hj => simp at hj; subst hj; rw [show (⟨g, 0, none⟩ : Addr).add 0 = ⟨g, 0, none⟩ by unfold Addr.add; split <;> simp_all]; exact hsrc) (fun u hu => by rw [List.mem_singleton.1 hu]; exact hy) (by unfold maxLen; omega) (Nat.le_trans (Nat.mul_le_mul (show xs.length + 1 ≤ 1000001 by omega) hby) (by decide)) hb
  unfold Oper.wp execOp
  simp only [ho, resolve, invoke, builtin, Sem.run_bind, Sem.run_pure, Result.andThen_ok, List.map_toArray, List.map_cons, List.map_nil, hs, hx, hr]
  refine h v' w' ?_ h3 h5 (fun hc => by have := (h4.1 hc).2; omega)
  unfold Own1
  rw [List.length_append]
  exact h2

/-- The places' slices: vs[i] holds the places of entry i, no two in one block. -/
def Lists (w : World) (base : Nat) (vs : List Value) (S : Sh) : Prop :=
  vs.length = S.length ∧ (∀ i (h : i < vs.length) (h' : i < S.length), Own1 w base 3 vs[i] (S[i].2.map (.int .i64))) ∧
  ∀ i j (h : i < vs.length) (h' : j < vs.length), i ≠ j → vs[i].ownBlock = vs[j].ownBlock → vs[i].ownBlock = none
def idxI (S : Sh) (k : ByteArray) : Option Int := (idxS S k).map fun i : Nat => (i : Int)
/-- A shelf in block pb. -/
def ShelfAt (w : World) (base pb : Nat) (S : Sh) : Prop :=
  ∃ (mb n : Nat) (pl : Value) (vs : List Value), w.heap[pb]? = some (.cells #[.map (some mb), pl] 54 (0, 0)) ∧ base ≤ pb ∧ base ≤ mb ∧ MapS w mb n (idxI S) ∧ n ≤ S.length ∧
    Own1 w base 41 pl vs ∧ Lists w base vs S
theorem MapS.map {w : World} {b n : Nat} {f : ByteArray → Option Int} (h : MapS w b n f) {g : Nat} {cs : Array Value} {e : TypeId} {z : Nat × Nat} (hg : w.heap[g]? = some (.cells cs e z)) : b ≠ g := by
  obtain ⟨D, h2, _⟩ := h
  intro e
  subst e
  obtain ⟨_, _, h3, _⟩ := h2
  simp_all

theorem Lists.keep {w w' : World} {base : Nat} {vs : List Value} {S : Sh} (h : Lists w base vs S) (k : Below w.heap.size w w') : Lists w' base vs S :=
  ⟨h.1, fun i h1 h2 => (h.2.1 i h1 h2).keep k, h.2.2⟩
theorem ShelfAt.keep {w w' : World} {base pb : Nat} {S : Sh} (h : ShelfAt w base pb S) (k : Below w.heap.size w w') : ShelfAt w' base pb S := by
  obtain ⟨mb, n, pl, vs, h1, h2, h3, h4, h5, h6, h7⟩ := h
  exact ⟨mb, n, pl, vs, (k.block pb (Array.getElem?_eq_some_iff.1 h1).1).trans h1, h2, h3, h4.keep k, h5, h6.keep k, h7.keep k⟩
theorem ShelfAt.drew {w : World} {base pb : Nat} {S : Sh} (h : ShelfAt w base pb S) : ShelfAt w.drew base pb S := h
theorem Lists.pushed {w w1 : World} {base i H : Nat} {vs : List Value} {S : Sh} {v' : Value} {k : ByteArray} {p : Int} (h : Lists w base vs S) (hi : i < vs.length) (hi' : i < S.length)
    (hg : w.grownBy w1 vs[i].ownBlock) (hown : Own1 w1 base 3 v' (S[i].2.map (.int .i64) ++ [.int .i64 p])) (hat : v'.ownBlock = vs[i].ownBlock ∨ v'.ownBlock = some H) (hH : w.heap.size ≤ H) :
    Lists w1 base (vs.set i v') (S.set i (k, S[i].2 ++ [p])) := by
  obtain ⟨h1, h2, h3⟩ := h
  have old : ∀ j (hj : j < vs.length), j ≠ i → v'.ownBlock = vs[j].ownBlock → v'.ownBlock = none := fun j hj hne he => by
    rcases hat with ha | ha
    · rw [ha]; exact h3 i j hi hj (fun e => hne e.symm) (ha ▸ he)
    · exfalso
      rw [ha] at he
      have := (World.ownsRow.lt (h2 j hj (by omega)) H he.symm).2
      omega
  refine ⟨by simpa using h1, fun j hj hj' => ?_, fun a b ha hb hne he => ?_⟩
  · simp only [List.length_set] at hj hj'
    by_cases c : i = j
    · subst c
      simpa using hown
    · rw [List.getElem_set_ne c, List.getElem_set_ne c]
      refine World.ownsRow.kept (h2 j hj hj') hg ?_
      by_cases e : vs[j].ownBlock = vs[i].ownBlock
      · exact .inl (h3 j i hj hi (fun x => c x.symm) e)
      · exact .inr e
  · simp only [List.length_set] at ha hb
    by_cases ca : i = a
    · subst ca
      have cb : ¬ i = b := hne
      rw [List.getElem_set_self, List.getElem_set_ne cb] at he
      rw [List.getElem_set_self]
      exact old b hb (fun e => cb e.symm) he
    · rw [List.getElem_set_ne ca] at he ⊢
      by_cases cb : i = b
      · subst cb
        rw [List.getElem_set_self] at he
        rw [he]
        exact old a ha (fun e => ca e.symm) he.symm
      · rw [List.getElem_set_ne cb] at he
        exact h3 a b ha hb hne he
theorem Lists.setOther {w : World} {base q i : Nat} {T : TypeId} {x : Value} {vs : List Value} {S : Sh} {C : Array Value} (h : Lists w base vs S) (hq : w.heap[q]? = some (.cells C T (0, 0))) (hne : 3 ≠ T) : Lists (w.setCell ⟨q, i, none⟩ x) base vs S :=
  ⟨h.1, fun j h1 h2 => (h.2.1 j h1 h2).setOther hq hne, h.2.2⟩
theorem heap_setOther {w : World} {q b i : Nat} {x : Value} {o : Obj} (h : w.heap[b]? = some o) (hne : b ≠ q) : (w.setCell ⟨q, i, none⟩ x).heap[b]? = some o :=
  (heap_setCell_other w ⟨q, i, none⟩ b x hne).trans h
theorem MapS.setOther {w : World} {b n q i : Nat} {x : Value} {f : ByteArray → Option Int} (h : MapS w b n f) (hne : b ≠ q) : MapS (w.setCell ⟨q, i, none⟩ x) b n f :=
  h.grown (row := some q) ⟨rfl, rfl, rfl, by simp, fun k _ hk => heap_setCell_other w ⟨q, i, none⟩ k x (fun e => hk (by simp [e]))⟩ (by simp [hne])
theorem idx_map_eq {S S' : Sh} (h : ∀ z, idxS S' z = idxS S z) : idxI S' = idxI S := by
  funext k; unfold idxI; rw [h]

/-- A place is put to a list that is there: what the last store leaves. -/
theorem ShelfAt.stored {w w1 : World} {base pb mb n i g cap : Nat} {vs : List Value} {S : Sh} {v' : Value} {k : ByteArray} {p : Int} {H : Nat}
    (h1 : w.heap[pb]? = some (.cells #[.map (some mb), .slice (some ⟨g, 0, none⟩) vs.length cap] 54 (0, 0))) (h2 : base ≤ pb) (h3 : base ≤ mb) (h4 : MapS w mb n (idxI S)) (h5 : n ≤ S.length)
    (h6 : Own1 w base 41 (.slice (some ⟨g, 0, none⟩) vs.length cap) vs) (h7 : Lists w base vs S) (hi : i < vs.length) (hi' : i < S.length) (hk : idxS S k = some i)
    (hg : w.grownBy w1 vs[i].ownBlock) (hown : Own1 w1 base 3 v' (S[i].2.map (.int .i64) ++ [.int .i64 p])) (hat : v'.ownBlock = vs[i].ownBlock ∨ v'.ownBlock = some H) (hH : w.heap.size ≤ H) :
    ShelfAt (w1.setCell ⟨g, i, none⟩ v') base pb (S.set i (k, S[i].2 ++ [p])) := by
  have hvi := h7.2.1 i hi hi'
  have hne1 : (41 : Nat) ≠ 3 := by decide
  have q6 : Own1 w1 base 41 (.slice (some ⟨g, 0, none⟩) vs.length cap) vs := h6.grown hvi hne1 hg
  have q1 := heap_grown h1 hvi (by decide) hg
  obtain ⟨_, cur, hcur⟩ := q6.block (g := g) rfl
  have npb : pb ≠ g := by intro e; subst e; rw [q1] at hcur; simp at hcur
  have hmb : some mb ≠ vs[i].ownBlock := fun e => by
    obtain ⟨_, cur', hc'⟩ := hvi.block e.symm
    exact h4.map hc' rfl
  have q4 := h4.grown hg hmb
  refine ⟨mb, n, .slice (some ⟨g, 0, none⟩) vs.length cap, vs.set i v', heap_setOther q1 npb, h2, h3, ?_, by simpa using h5, q6.stored i v', ?_⟩
  · rw [idx_map_eq (fun z => idxS_set hk)]
    exact q4.setOther (q4.map hcur)
  · exact (h7.pushed hi hi' hg hown hat hH).setOther hcur (by decide)

set_option maxHeartbeats 4000000 in
theorem put_some (w : World) (base pb i : Nat) (S : Sh) (k : ByteArray) (p : Int) (h : ShelfAt w base pb S) (hb : base ≤ w.heap.size) (hk : k.size ≤ maxLen) (hl : ∀ e ∈ S, e.2.length ≤ 1000) (hi : idxS S k = some i) :
    Calls Tryd.prog 34 #[.pointer (some ⟨pb, 0, none⟩), .string k, .int .i64 p] w fun e w' => e = .returned (.tuple #[]) ∧ ShelfAt w' base pb (putS S k p) ∧ Below base w w' := by
  obtain ⟨mb, n, pl, vs, h1, h2, h3, h4, h5, h6, h7⟩ := h
  obtain ⟨hiS, hke⟩ := idxS_lt hi
  have hiV : i < vs.length := by rw [h7.1]; exact hiS
  have hlook := h4.lookOk hk
  rw [show idxI S k = some (i : Int) by simp [idxI, hi]] at hlook
  simp only [Option.getD_some, Option.isSome_some] at hlook
  have HP : Hid (putS S k p = S.set i (k, S[i].2 ++ [p])) := by
    show _ = _
    rw [putS_some hi]
    simp [List.getD, hiS]
  have hvi := h7.2.1 i hiV hiS
  have hil : (S[i].2.map (Value.int .i64)).length ≤ 1000000 := by rw [List.length_map]; have := hl _ (List.getElem_mem hiS); omega
  obtain ⟨ao, cap, rfl⟩ := h6.shape
  obtain ⟨g, rfl, hgb, hcell, hfro⟩ := h6.cell (i := i) hiV
  have p0 : w.cell? ⟨pb, 0, none⟩ = some (.map (some mb)) := by rw [cell_of_row _ _ _ _ _ _ h1]; rfl
  have p1 : w.cell? ⟨pb, 1, none⟩ = some (.slice (some ⟨g, 0, none⟩) vs.length cap) := by rw [cell_of_row _ _ _ _ _ _ h1]; rfl
  have lpb : pb < w.heap.size := (Array.getElem?_eq_some_iff.1 h1).1
  have lg : g < w.heap.size := block_lt_of_cell hcell
  have i0 : (0 : Int) ≤ (i : Int) := by omega
  have i1 : (i : Int) < (vs.length : Int) := by omega
  have HI : Hid (vs.length = S.length) := h7.1
  have W : Aside _ := And.intro h1 (And.intro h2 (And.intro h3 (And.intro h4 (And.intro h5 (And.intro h6 h7)))))
  have HK : Hid (idxS S k = some i) := hi
  clear h1 h2 h3 h4 h5 h6 h7 hi hke
  go_enter Tryd.func34, Tryd.ntmps34
  go_wp2_with fail
  obtain ⟨A, hA⟩ : ∃ A, A = w.drew.alloc (.cells #[.int .i64 p] 3) := ⟨_, rfl⟩
  have hAb : Below w.heap.size w A := by rw [hA]; exact ((Below.refl w.heap.size w).drew).alloc (Nat.le_refl _) _
  have HAs : A.heap.size = w.heap.size + 1 := by rw [hA]; simp
  have hnew : A.cell? ⟨w.heap.size, 0, none⟩ = some (.int .i64 p) := by rw [hA]; simp [go_sem]
  have A1 := cell_keep p1 hAb
  have A2 := cell_keep hcell hAb
  have A3 := (hAb.block _ lpb).trans W.out.1
  have A6 := W.out.2.2.2.2.2.1.keep hAb
  have hsz : base ≤ A.heap.size := by rw [HAs]; omega
  have hvi1 := hvi.keep hAb
  have HV : Hid (∀ h : i < vs.length, vs[i] = vs[i]) := fun _ => rfl
  have CV : Aside (∀ w1, A.grownBy w1 vs[i].ownBlock → w1.cell? ⟨g, i, none⟩ = some vs[i] ∧ w1.frozen? ⟨g, i, none⟩ = false ∧ w1.cell? ⟨pb, 1, none⟩ = some (.slice (some ⟨g, 0, none⟩) vs.length cap)) := fun w1 hg => by
    have q6 := A6.grown hvi1 (by decide) hg
    have q1 := heap_grown A3 hvi1 (by decide) hg
    exact ⟨(q6.cellAt hiV).1, (q6.cellAt hiV).2, by rw [cell_of_row _ _ _ _ _ _ q1]; rfl⟩
  have FIN : Aside (∀ w1 v1, A.grownBy w1 vs[i].ownBlock → Own1 w1 base 3 v1 (S[i].2.map (.int .i64) ++ [.int .i64 p]) → (v1.ownBlock = vs[i].ownBlock ∨ v1.ownBlock = some A.heap.size) → ShelfAt (w1.setCell ⟨g, i, none⟩ v1) base pb (putS S k p) ∧ Below base w (w1.setCell ⟨g, i, none⟩ v1)) := fun w1 v1 hg ho ha => by
    rw [HP.out]
    have hb1 : Below base w w1 := Below.grown (hAb.mono hb) hg (by omega) (fun k hk => (World.ownsRow.lt hvi1 k hk).1)
    exact ⟨ShelfAt.stored A3 W.out.2.1 W.out.2.2.1 (W.out.2.2.2.1.keep hAb) W.out.2.2.2.2.1 A6 (W.out.2.2.2.2.2.2.keep hAb) hiV hiS HK.out hg ho ha (Nat.le_refl _), hb1.setCell hgb _⟩
  clear A3 A6 W HV
  have HL : (S[i].2.map (Value.int .i64) ++ [Value.int .i64 p]).length = S[i].2.length + 1 := by simp
  have HLL : Hid ((S[i].2.map (Value.int .i64) ++ [Value.int .i64 p]).length = S[i].2.length + 1) := HL
  clear HL
  generalize vs[i] = vi at *
  subst hA
  go_region_law (refine step_push1 info_int Tryd.underlying41 rfl (by decide) (.tmp 50) (.tmp 52) rfl rfl rfl rfl hvi1 hsz hnew rfl hil ?_; intro v1 w1 ho1 hg1 ha1 hn1; obtain ⟨b1, b2, b3⟩ := CV.out w1 hg1; obtain ⟨a1, c1, rfl⟩ := ho1.shapeN HLL.out)
  all_goals
    go_wp2_with fail
    go_end0
    obtain ⟨f1, f2⟩ := FIN.out _ _ hg1 ho1 ha1
    exact ⟨rfl, f1, f2⟩

theorem Lists.grown {w w' : World} {base base' : Nat} {vs : List Value} {S : Sh} {e' : TypeId} {u : Value} {ys : List Value} (h : Lists w base vs S) (hu : Own1 w base' e' u ys) (hne : 3 ≠ e') (hg : w.grownBy w' u.ownBlock) : Lists w' base vs S :=
  ⟨h.1, fun i h1 h2 => (h.2.1 i h1 h2).grown hu hne hg, h.2.2⟩
theorem Lists.grownMap {w w' : World} {base b n : Nat} {f : ByteArray → Option Int} {vs : List Value} {S : Sh} (h : Lists w base vs S) (hm : MapS w b n f) (hg : w.grownBy w' (some b)) : Lists w' base vs S :=
  ⟨h.1, fun i h1 h2 => World.ownsRow.kept (h.2.1 i h1 h2) hg (by
    cases hv : vs[i].ownBlock with
    | none => exact .inl rfl
    | some q =>
      obtain ⟨_, cur, hc⟩ := (h.2.1 i h1 h2).block hv
      exact .inr fun e => hm.map hc (by simpa using e.symm)), h.2.2⟩
theorem Own1.grownMap {w w' : World} {base b n : Nat} {f : ByteArray → Option Int} {e : TypeId} {v : Value} {xs : List Value} (h : Own1 w base e v xs) (hm : MapS w b n f) (hg : w.grownBy w' (some b)) : Own1 w' base e v xs :=
  World.ownsRow.kept h hg (by
    cases hv : v.ownBlock with
    | none => exact .inl rfl
    | some q =>
      obtain ⟨_, cur, hc⟩ := h.block hv
      exact .inr fun e => hm.map hc (by simpa using e.symm))
theorem Lists.snoc {w : World} {base : Nat} {vs : List Value} {S : Sh} (h : Lists w base vs S) (k : ByteArray) : Lists w base (vs ++ [.slice none 0 0]) (S ++ [(k, [])]) := by
  obtain ⟨h1, h2, h3⟩ := h
  refine ⟨by simp [h1], fun i hi hi' => ?_, fun i j hi hj hne he => ?_⟩
  · by_cases c : i < vs.length
    · rw [List.getElem_append_left c, List.getElem_append_left (by omega)]
      exact h2 i c (by omega)
    · have e : i = vs.length := by simp at hi; omega
      have e1 : (vs ++ [Value.slice none 0 0])[i] = .slice none 0 0 := by simp [e]
      have e2 : (S ++ [(k, ([] : List Int))])[i] = (k, []) := by simp [e, h1]
      rw [e1, e2]
      exact Own1.nil _ _ _
  · by_cases c : i < vs.length
    · rw [List.getElem_append_left c] at he ⊢
      by_cases d : j < vs.length
      · rw [List.getElem_append_left d] at he
        exact h3 i j c d hne he
      · have e1 : (vs ++ [Value.slice none 0 0])[j] = .slice none 0 0 := by simp at hj; have : j = vs.length := by omega
                                                                            simp [this]
        rw [e1] at he
        rw [he]; rfl
    · have e1 : (vs ++ [Value.slice none 0 0])[i] = .slice none 0 0 := by simp at hi; have : i = vs.length := by omega
                                                                          simp [this]
      rw [e1]; rfl
theorem idxI_snoc {S : Sh} {k : ByteArray} (h : idxS S k = none) : (fun z => if z = k then some (S.length : Int) else idxI S z) = idxI (S ++ [(k, [])]) := by
  funext z
  unfold idxI
  rw [idxS_append]
  by_cases c : z = k
  · subst c; simp [h]
  · simp [c]

set_option maxHeartbeats 4000000 in
theorem put_none (w0 : World) (base pb : Nat) (S0 : Sh) (k : ByteArray) (p : Int) (h : ShelfAt w0 base pb S0) (hb : base ≤ w0.heap.size) (hk : k.size ≤ maxLen) (hS : S0.length ≤ 1000) (hl : ∀ e ∈ S0, e.2.length ≤ 1000) (hi : idxS S0 k = none) :
    Calls Tryd.prog 34 #[.pointer (some ⟨pb, 0, none⟩), .string k, .int .i64 p] w0 fun e w' => e = .returned (.tuple #[]) ∧ ShelfAt w' base pb (putS S0 k p) ∧ Below base w0 w' := by
  obtain ⟨mb, n, pl, vs, h1, h2, h3, h4, h5, h6, h7⟩ := h
  have hlook := h4.lookOk hk
  rw [show idxI S0 k = none by simp [idxI, hi]] at hlook
  simp only [Option.getD_none, Option.isSome_none] at hlook
  obtain ⟨ao, cap, rfl⟩ := h6.shapeN h7.1
  have p0 : w0.cell? ⟨pb, 0, none⟩ = some (.map (some mb)) := by rw [cell_of_row _ _ _ _ _ _ h1]; rfl
  have p1 : w0.cell? ⟨pb, 1, none⟩ = some (.slice ao S0.length cap) := by rw [cell_of_row _ _ _ _ _ _ h1]; rfl
  have hr : inR (S0.length : Int) := by unfold inR; omega
  have HSI : Hid _ := idxI_snoc hi
  have HI : Hid (idxS S0 k = none) := hi
  have hvl : vs.length ≤ 1000 := by rw [h7.1]; exact hS
  clear hi
  go_enter Tryd.func34, Tryd.ntmps34
  have npb : Aside (some pb ≠ some mb) := by intro e; simp only [Option.some.injEq] at e; exact h4.map h1 e.symm
  have lpb : pb < w0.heap.size := (Array.getElem?_eq_some_iff.1 h1).1
  have W : Aside _ := And.intro h1 (And.intro h2 (And.intro h3 (And.intro h4 (And.intro h5 (And.intro h6 h7)))))
  have hn : n ≤ 1000000 := by omega
  clear h1 h2 h3 h4 h5 h6 h7
  have hy0 : Aside (∀ z ∈ [Value.slice none 0 0], z.oneCell' = true) := by intro z h; rw [List.mem_singleton.1 h]; rfl
  go_wp2_with (first
    | (at_mapUpdate; refine wpList_putS (.tmp 27) (.tmp 28) (.tmp 29) rfl rfl rfl rfl rfl W.out.2.2.2.1 hn hk hr ?_; intro w1 hm1 hg1; have q1 := hg1.cell p1 npb.out; have R1 : Aside _ := (hg1.block pb lpb npb.out).trans W.out.1; have R6 : Aside (Own1 w1 base 41 (.slice ao S0.length cap) vs) := W.out.2.2.2.2.2.1.grownMap W.out.2.2.2.1 hg1; have bw1 : Below base w0 w1 := Below.grown (Below.refl _ _) hg1 hb (fun k hk => by simp only [Option.some.injEq] at hk; have := W.out.2.2.1; omega); have hs1 := bw1.size)
    | (at_builtin; go_loud (refine wpList_push1 info_ints Tryd.underlying38 rfl (by decide) (.tmp 34) (.tmp 35) rfl rfl rfl (ys := [.slice none 0 0]) rfl rfl rfl R6.out hy0.out (by omega) (by simp; omega) ?_; intro v2 w2 hr2 hb2 hg2; have R2 : Aside _ := heap_grown R1.out R6.out (by decide) hg2; have q2 : w2.cell? ⟨pb, 1, none⟩ = some (.slice ao S0.length cap) := (by rw [cell_of_row _ _ _ _ _ _ R2.out]; rfl); have q3 : w2.frozen? ⟨pb, 1, none⟩ = false := frozen_of_row _ _ _ _ _ R2.out; obtain ⟨a2, c2, rfl⟩ := hr2.shapeN (n := S0.length + 1) (by simp; exact W.out.2.2.2.2.2.2.1))))
  have N1 : (w2.setCell ⟨pb, 1, none⟩ (.slice a2 (S0.length + 1) c2)).heap[pb]? = some (.cells #[.map (some mb), .slice a2 (S0.length + 1) c2] 54 (0, 0)) := by
    rw [heap_setCell_same _ _ _ _ _ _ R2.out]; rfl
  have hm2 : MapS w2 mb (n + 1) (idxI (S0 ++ [(k, [])])) := by
    rw [HSI.out] at hm1
    refine hm1.grown hg2 fun e => ?_
    obtain ⟨_, cur', hc'⟩ := R6.out.block e.symm
    exact hm1.map hc' rfl
  have N4 := hm2.setOther (q := pb) (i := 1) (x := .slice a2 (S0.length + 1) c2) (hm2.map R2.out)
  have N6 := hr2.setOther (i := 1) (x := .slice a2 (S0.length + 1) c2) R2.out (by decide)
  have N7 := ((((W.out.2.2.2.2.2.2.grownMap W.out.2.2.2.1 hg1).grown R6.out (by decide) hg2).setOther (i := 1) (x := .slice a2 (S0.length + 1) c2) R2.out (by decide)).snoc k)
  have hb0 : Below base w0 (w2.setCell ⟨pb, 1, none⟩ (.slice a2 (S0.length + 1) c2)) := (bw1.trans hb2).setCell W.out.2.1 _
  have N2 := W.out.2.1
  have N3 := W.out.2.2.1
  have N5 := W.out.2.2.2.2.1
  clear W R1 R2 R6 hm2 hm1 hg1 hg2 hr2 hb2 q1 q2 q3 p0 p1 hlook hs1 bw1 npb
  obtain ⟨w, hw⟩ : ∃ w, w = w2.setCell ⟨pb, 1, none⟩ (.slice a2 (S0.length + 1) c2) := ⟨_, rfl⟩
  rw [← hw] at N1 N4 N6 N7 hb0 ⊢
  clear hw
  obtain ⟨S, hSS⟩ : ∃ S : Sh, S = S0 ++ [(k, [])] := ⟨_, rfl⟩
  obtain ⟨i, hii⟩ : ∃ i, i = S0.length := ⟨_, rfl⟩
  have hi : idxS S k = some i := by rw [hSS, idxS_append, HI.out, hii]; simp
  have hiS : i < S.length := by rw [hSS, hii]; simp
  have HP : Hid (putS S0 k p = S.set i (k, S[i].2 ++ [p])) := by
    show _ = _
    rw [putS_none HI.out]
    simp [hSS, hii]
  have hl' : ∀ e ∈ S, e.2.length ≤ 1000 := by
    intro e he
    rw [hSS] at he
    rcases List.mem_append.1 he with h | h
    · exact hl e h
    · rw [List.mem_singleton.1 h]; simp
  have HSl : S.length = S0.length + 1 := by rw [hSS]; simp
  rw [← hSS] at N4 N7
  obtain ⟨vs1, hvs⟩ : ∃ vs1, vs1 = vs ++ [Value.slice none 0 0] := ⟨_, rfl⟩
  rw [← hvs] at N6 N7
  have hvl1 : S0.length + 1 = vs1.length := by rw [N7.1, HSl]
  rw [hvl1] at N1 N6 ⊢
  have hN5 : n + 1 ≤ S.length := by rw [HSl]; omega
  rw [← hii]
  have hbw := hb0.size
  have HVS : Hid (S0.length = i) := hii.symm
  clear hii hvl1 hvs hSS HSl hl hvl HSI
  have hiV : i < vs1.length := by rw [N7.1]; exact hiS
  have hvi := N7.2.1 i hiV hiS
  have hil : (S[i].2.map (Value.int .i64)).length ≤ 1000000 := by rw [List.length_map]; have := hl' _ (List.getElem_mem hiS); omega
  obtain ⟨g, rfl, hgb, hcell, hfro⟩ := N6.cell (i := i) hiV
  have p1 : w.cell? ⟨pb, 1, none⟩ = some (.slice (some ⟨g, 0, none⟩) vs1.length c2) := by rw [cell_of_row _ _ _ _ _ _ N1]; rfl
  have lpb : pb < w.heap.size := (Array.getElem?_eq_some_iff.1 N1).1
  have lg : g < w.heap.size := block_lt_of_cell hcell
  have i0 : (0 : Int) ≤ (i : Int) := by omega
  have i1 : (i : Int) < (vs1.length : Int) := by omega
  have W : Aside _ := And.intro N1 (And.intro N2 (And.intro N3 (And.intro N4 (And.intro hN5 (And.intro N6 N7)))))
  have HK : Hid (idxS S k = some i) := hi
  have hb' : base ≤ w.heap.size := by omega
  clear N1 N2 N3 N4 N5 N6 N7 hi hN5 HI hb hr lpb
  have lpb : pb < w.heap.size := (Array.getElem?_eq_some_iff.1 W.out.1).1
  obtain ⟨A, hA⟩ : ∃ A, A = w.drew.alloc (.cells #[.int .i64 p] 3) := ⟨_, rfl⟩
  have hAb : Below w.heap.size w A := by rw [hA]; exact ((Below.refl w.heap.size w).drew).alloc (Nat.le_refl _) _
  have HAs : A.heap.size = w.heap.size + 1 := by rw [hA]; simp
  have hnew : A.cell? ⟨w.heap.size, 0, none⟩ = some (.int .i64 p) := by rw [hA]; simp [go_sem]
  have A1 := cell_keep p1 hAb
  have A2 := cell_keep hcell hAb
  have A3 := (hAb.block _ lpb).trans W.out.1
  have A6 := W.out.2.2.2.2.2.1.keep hAb
  have hsz : base ≤ A.heap.size := by rw [HAs]; omega
  have hvi1 := hvi.keep hAb
  have HV : Hid (∀ h : i < vs1.length, vs1[i] = vs1[i]) := fun _ => rfl
  have CV : Aside (∀ w1, A.grownBy w1 vs1[i].ownBlock → w1.cell? ⟨g, i, none⟩ = some vs1[i] ∧ w1.frozen? ⟨g, i, none⟩ = false ∧ w1.cell? ⟨pb, 1, none⟩ = some (.slice (some ⟨g, 0, none⟩) vs1.length c2)) := fun w1 hg => by
    have q6 := A6.grown hvi1 (by decide) hg
    have q1 := heap_grown A3 hvi1 (by decide) hg
    exact ⟨(q6.cellAt hiV).1, (q6.cellAt hiV).2, by rw [cell_of_row _ _ _ _ _ _ q1]; rfl⟩
  have FIN : Aside (∀ w1 v1, A.grownBy w1 vs1[i].ownBlock → Own1 w1 base 3 v1 (S[i].2.map (.int .i64) ++ [.int .i64 p]) → (v1.ownBlock = vs1[i].ownBlock ∨ v1.ownBlock = some A.heap.size) → ShelfAt (w1.setCell ⟨g, i, none⟩ v1) base pb (putS S0 k p) ∧ Below base w (w1.setCell ⟨g, i, none⟩ v1)) := fun w1 v1 hg ho ha => by
    rw [HP.out]
    have hb1 : Below base w w1 := Below.grown (hAb.mono hb') hg (by omega) (fun k hk => (World.ownsRow.lt hvi1 k hk).1)
    exact ⟨ShelfAt.stored A3 W.out.2.1 W.out.2.2.1 (W.out.2.2.2.1.keep hAb) W.out.2.2.2.2.1 A6 (W.out.2.2.2.2.2.2.keep hAb) hiV hiS HK.out hg ho ha (Nat.le_refl _), hb1.setCell hgb _⟩
  clear A3 A6 W HV
  have HL : (S[i].2.map (Value.int .i64) ++ [Value.int .i64 p]).length = S[i].2.length + 1 := by simp
  have HLL : Hid ((S[i].2.map (Value.int .i64) ++ [Value.int .i64 p]).length = S[i].2.length + 1) := HL
  clear HL
  generalize vs1[i] = vi at *
  subst hA
  go_region_law (refine step_push1 info_int Tryd.underlying41 rfl (by decide) (.tmp 50) (.tmp 52) rfl rfl rfl rfl hvi1 hsz hnew rfl hil ?_; intro v1 w1 ho1 hg1 ha1 hn1; obtain ⟨b1, b2, b3⟩ := CV.out w1 hg1; obtain ⟨a1, c1, rfl⟩ := ho1.shapeN HLL.out)
  all_goals
    go_wp2_with fail
    go_end0
    obtain ⟨f1, f2⟩ := FIN.out _ _ hg1 ho1 ha1
    exact ⟨rfl, f1, hb0.trans f2⟩

end Go.Proofs.YtalfeggddfpgeaaDoor
