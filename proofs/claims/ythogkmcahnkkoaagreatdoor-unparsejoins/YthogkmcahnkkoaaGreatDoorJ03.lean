/- Runs of closed code, reckoned: maps. Runs of closed code, reckoned: numbers and texts, the short way. Runs of closed code, reckoned: one operation. Runs of closed code, reckoned: regions, code, calls. Runs of closed code, reckoned: one operation, and operations one behind the other, are what they are reckoned to be. -/
import Derived.Test.YthogkmcahnkkoaaGreatDoorJ02
import Derived.Laws.Strings
import Derived.Laws.IdiomStrings
import Derived.Laws.BytesArg
import Derived.Tactics
namespace Go.Proofs.YthogkmcahnkkoaaGreatDoor
def qZ : List Value → Bool
 | k :: _ :: l => ni k && qZ l
 | [] => true
 | _ => false
noncomputable def DJ (ρ : Rn) (e : MapEntry) : MapEntry := { e with val := ren ρ e.val }
theorem sU (ρ : Rn) : ∀ (cs : List Value) (n : Nat), qZ cs = true → entries n (cs.map (ren ρ)) = (entries n cs).map (DJ ρ)
 | [], _, _ => rfl
 | [_], _, h => by cases h
 | k :: v :: l, n, h => by
  simp only [qZ, Bool.and_eq_true] at h
  simp only [List.map_cons, entries, DJ, gJ h.1 ρ, sU ρ l (n + 1) h.2]
theorem yB : ∀ (cs : List Value), qZ cs = true → cs.length % 2 = 0
 | [], _ => rfl
 | [_], h => by cases h
 | _ :: _ :: l, h => by simp only [qZ, Bool.and_eq_true] at h; have := yB l h.2; simp; omega
noncomputable def Gg (ρ : Rn) : Option (Nat × Value) → Option (Nat × Value)
 | some (i, v) => some (i, ren ρ v)
 | none => none
theorem CS (ρ : Rn) (d : TypeDesc) (k : Value) : ∀ (es : List MapEntry) (i : Nat), Instr.findNow d k (es.map (DJ ρ)) i = (Instr.findNow d k es i).map (Gg ρ)
 | [], _ => rfl
 | e :: es, i => by
  simp only [List.map_cons, Instr.findNow, DJ]
  cases Instr.sameNow d k e.key with
  | none => rfl
  | some b => cases b with
   | true => rfl
   | false => exact CS ρ d k es (i + 1)
theorem wU {P : Program} (ρ : Rn) (t : TypeId) (k : Value) : ∀ (es : List MapEntry) (i : Nat), aS P (Instr.findAsking t k (es.map (DJ ρ)) i) = (aS P (Instr.findAsking t k es i)).map (Gg ρ)
 | [], _ => rfl
 | e :: es, i => by
  simp only [List.map_cons, Instr.findAsking, DJ, lH]
  cases aS P (Op.equal t k e.key) with
  | none => rfl
  | some b => cases b with
   | true => rfl
   | false => exact wU ρ t k es (i + 1)
theorem CU {P : Program} (ρ : Rn) (t : TypeId) (k : Value) (es : List MapEntry) : aS P (Instr.findKey t k (es.map (DJ ρ))) = (aS P (Instr.findKey t k es)).map (Gg ρ) := by
 unfold Instr.findKey
 rw [lH, lH, qX]
 cases P.underlying t with
 | none => rfl
 | some d =>
  show aS P (match Instr.findNow d k (es.map (DJ ρ)) 0 with | some r => Pure.pure r | none => Instr.findAsking t k (es.map (DJ ρ))) = (aS P (match Instr.findNow d k es 0 with | some r => Pure.pure r | none => Instr.findAsking t k es)).map (Gg ρ)
  rw [CS]
  cases Instr.findNow d k es 0 with
  | none => exact wU ρ t k es 0
  | some r => rfl
def mapOf (σ : AW) (x : Value) : Option (List Value) := match x with
 | .map none => some []
 | .map (some k) => match σ.get k with
  | ⟨3, _, _, cs⟩ => if qZ cs then some cs else none
  | _ => none
 | _ => none
def IK (P : Program) (σ : AW) (t : TypeId) (x ix : Value) (ok : Bool) : Option Value := match P.underlying t with
 | some (.map kt et) => match mapOf σ x with
  | none => none
  | some cs => if ni ix then match aS P (Instr.checkKey (entries 0 cs).isEmpty 10000 kt ix) with
   | none => none
   | some _ => match aS P (Instr.findKey kt ix (entries 0 cs)) with
    | none => none
    | some (some (_, v)) => some (if ok then .tuple #[v, .bool true] else v)
    | some none => match zeroOf P et with
     | none => none
     | some z => some (if ok then .tuple #[z, .bool false] else z)
   else none
 | _ => none
theorem CV {Q : Value → Prop} : ∀ (cs : List Value) (n : Nat), (∀ v ∈ cs, Q v) → ∀ e ∈ entries n cs, Q e.val
 | [], _, _, e, he => by cases he
 | [_], _, _, e, he => by cases he
 | k :: v :: l, n, h, e, he => by
  rw [entries] at he
  cases he with
  | head => exact h v (by simp)
  | tail _ he => exact CV l (n + 1) (fun u hu => h u (by simp [hu])) e he
theorem CW {d : TypeDesc} {k : Value} : ∀ (es : List MapEntry) (i j : Nat) (v : Value), Instr.findNow d k es i = some (some (j, v)) → ∃ e ∈ es, e.val = v
 | [], _, _, _, h => by cases h
 | e :: es, i, j, v, h => by
  unfold Instr.findNow at h
  split at h
  ·simp only [Option.some.injEq, Prod.mk.injEq] at h
   exact ⟨e, List.mem_cons_self .., h.2⟩
  ·obtain ⟨e', h1, h2⟩ := CW es _ _ _ h
   exact ⟨e', List.mem_cons_of_mem _ h1, h2⟩
  ·cases h
theorem wV {P : Program} {t : TypeId} {k : Value} : ∀ (es : List MapEntry) (i j : Nat) (v : Value), aS P (Instr.findAsking t k es i) = some (some (j, v)) → ∃ e ∈ es, e.val = v
 | [], _, _, _, h => by simp [Instr.findAsking, vG] at h
 | e :: es, i, j, v, h => by
  simp only [Instr.findAsking, lH] at h
  cases hq : aS P (Op.equal t k e.key) with
  | none => rw [hq] at h; cases h
  | some b =>
   rw [hq] at h
   cases b with
   | true =>
    simp only [Option.bind_some, if_true, vG, Option.some.injEq, Prod.mk.injEq] at h
    exact ⟨e, List.mem_cons_self .., h.2⟩
   | false =>
    obtain ⟨e', h1, h2⟩ := wV es _ _ _ h
    exact ⟨e', List.mem_cons_of_mem _ h1, h2⟩
theorem J4 {P : Program} {t : TypeId} {k : Value} {es : List MapEntry} {j : Nat} {v : Value} (h : aS P (Instr.findKey t k es) = some (some (j, v))) : ∃ e ∈ es, e.val = v := by
 unfold Instr.findKey at h
 rw [lH, qX] at h
 cases hu : P.underlying t with
 | none => rw [hu] at h; cases h
 | some d =>
  rw [hu] at h
  have h : aS P (match Instr.findNow d k es 0 with | some r => Pure.pure r | none => Instr.findAsking t k es) = some (some (j, v)) := h
  cases hn : Instr.findNow d k es 0 with
  | none => rw [hn] at h; exact wV es _ _ _ h
  | some r => rw [hn] at h; simp only [vG, Option.some.injEq] at h; subst h; exact CW es _ _ _ hn
theorem QF {P : Program} {ρ : Rn} {σ : AW} {w : World} (hR : Rel ρ σ w) {t : TypeId} {x ix r : Value} {ok : Bool} (h : IK P σ t x ix ok = some r) :
  (Instr.lookup t (ren ρ x) (ren ρ ix) ok).run P w = .ok (ren ρ r) w ∧ Sc σ.dom r := by
 unfold IK at h
 split at h
 ·rename_i kt et hu
  split at h
  ·cases h
  ·rename_i cs hm
   split at h
   ·rename_i hfl
    split at h
    ·cases h
    ·rename_i u hck
     -- the entries
     have hes : ∃ es : Array MapEntry, es.toList = (entries 0 cs).map (DJ ρ) ∧ (∀ v ∈ cs, Sc σ.dom v) ∧ ((ren ρ x = .map none ∧ es = #[]) ∨ ∃ r c, ren ρ x = .map (some r) ∧ (getObj r).run P w = .ok (.map es c) w) := by
      unfold mapOf at hm
      split at hm
      ·injection hm with hm
       subst hm
       exact ⟨#[], rfl, (fun v hv => by cases hv), .inl ⟨rfl, rfl⟩⟩
      ·rename_i k
       split at hm
       ·rename_i e z c hg
        split at hm
        ·rename_i hkf
         injection hm with hm
         subst hm
         obtain ⟨hl, hb⟩ := IJ hR hg
         have hsc := hR.sc _ hl
         rw [hg] at hsc
         exact ⟨_, by rw [← sU ρ c 0 hkf], hsc, .inr ⟨_, _, rfl, yS (P := P) hb (by simp)⟩⟩
        ·cases hm
       ·cases hm
      ·cases hm
     obtain ⟨es, he, hsc, hx⟩ := hes
     have XZ : (Instr.checkKey es.isEmpty 10000 kt ix).run P w = .ok () w := by
      have e1 : es.isEmpty = (entries 0 cs).isEmpty := by
       rw [← Array.isEmpty_toList, he]; cases entries 0 cs <;> rfl
      rw [e1]
      exact iR hck w
     have hfk := CU (P := P) ρ kt ix (entries 0 cs)
     rw [← he] at hfk
     rw [gJ hfl ρ]
     split at h
     ·cases h
     ·rename_i j v hf
      injection h with h
      subst h
      rw [hf] at hfk
      obtain ⟨e, hem, hev⟩ := J4 hf
      have hvs : Sc σ.dom v := hev ▸ CV cs 0 hsc e hem
      refine ⟨?_, ?_⟩
      ·unfold Instr.lookup
       have hfr := iR hfk w
       rcases hx with ⟨hx, rfl⟩ | ⟨r, c, hx, hg⟩
       ·rw [hx]
        simp only [Sem.run_bind, run_underlying hu, Result.andThen_ok, XZ, hfr, Gg, Sem.run_pure]
        cases ok <;> simp [dU, pW]
       ·rw [hx]
        simp only [Sem.run_bind, run_underlying hu, Result.andThen_ok, hg, XZ, hfr, Gg, Sem.run_pure]
        cases ok <;> simp [dU, pW]
      ·cases ok
       ·exact hvs
       ·refine pY (fun u hu => ?_)
        simp at hu
        rcases hu with rfl | rfl
        ·exact hvs
        ·exact fun _ _ _ => rfl
     ·rename_i hf
      split at h
      ·cases h
      ·rename_i z hz
       injection h with h
       subst h
       rw [hf] at hfk
       obtain ⟨hz1, hz2⟩ := qY hz w
       refine ⟨?_, ?_⟩
       ·unfold Instr.lookup
        have hfr := iR hfk w
        rcases hx with ⟨hx, rfl⟩ | ⟨r, c, hx, hg⟩
        ·rw [hx]
         simp only [Sem.run_bind, run_underlying hu, Result.andThen_ok, XZ, hfr, Gg, hz1, Sem.run_pure]
         cases ok <;> simp [dU, pW, hz2 ρ]
        ·rw [hx]
         simp only [Sem.run_bind, run_underlying hu, Result.andThen_ok, hg, XZ, hfr, Gg, hz1, Sem.run_pure]
         cases ok <;> simp [dU, pW, hz2 ρ]
       ·cases ok
        ·exact hz2.sc _
        ·refine pY (fun u hu => ?_)
         simp at hu
         rcases hu with rfl | rfl
         ·exact hz2.sc _
         ·exact fun _ _ _ => rfl
   ·cases h
 ·cases h
theorem Nu {P : Program} {ρ : Rn} {σ : AW} {w : World} (hR : Rel ρ σ w) (t : TypeId) :
  ∃ ρ' w', (Instr.makeMap t none).run P w = .ok (ren ρ' (.map (some σ.next))) w' ∧ Step ρ σ w ρ' (σ.push ⟨3, 0, 0, []⟩) w' ∧ Sc (σ.push ⟨3, 0, 0, []⟩).dom (.map (some σ.next)) := by
 obtain ⟨ρ', h1, h2⟩ := wM (cap := 0) (b := ⟨3, 0, 0, []⟩) (o := .map #[] 0) hR (by simp) (fun v hv => by cases hv) (fun ρ' e w' hw => hw)
 refine ⟨ρ', _, ?_, h2, aaE (nT (by simp))⟩
 rw [sO, h1]
 rfl
def IL (P : Program) (σ : AW) (t : TypeId) (m k v : Value) : Option AW := match P.underlying t, m with
 | some (.map kt _), .map (some r) => match σ.get r with
  | ⟨3, e, z, cs⟩ => if qZ cs ∧ ni k then match aS P (Instr.checkKey false 10000 kt k) with
   | none => none
   | some _ => match aS P (Instr.findKey kt k (entries 0 cs)) with
    | none => none
    | some (some (i, _)) => match (entries 0 cs)[i]? with
     | none => none
     | some en => if Instr.sameBits 10000 en.key k then some (σ.set r ⟨3, e, z, (cs.set (2 * i) k).set (2 * i + 1) v⟩) else none
    | some none => some (σ.set r ⟨3, e, z, cs ++ [k, v]⟩)
   else none
  | _ => none
 | _, _ => none
theorem wW : ∀ (cs : List Value) (n : Nat) (k v : Value), cs.length % 2 = 0 → entries n (cs ++ [k, v]) = entries n cs ++ [⟨k, v, n + cs.length / 2⟩]
 | [], n, k, v, _ => by simp [entries]
 | [_], _, _, _, h => by simp at h
 | a :: b :: l, n, k, v, h => by
  simp only [List.cons_append, entries]
  rw [wW l (n + 1) k v (by simp at h; omega)]
  have : n + 1 + l.length / 2 = n + (a :: b :: l).length / 2 := by simp; omega
  rw [this]
theorem wX : ∀ (cs : List Value) (n i : Nat) (k v : Value), entries n ((cs.set (2 * i) k).set (2 * i + 1) v) = (entries n cs).modify i (fun e => { e with key := k, val := v }) ∨ cs.length % 2 = 1
 | [], n, i, k, v => by left; simp [entries]
 | [_], _, _, _, _ => by right; rfl
 | a :: b :: l, n, 0, k, v => by left; simp [entries]
 | a :: b :: l, n, i + 1, k, v => by
  have e1 : 2 * (i + 1) = 2 * i + 1 + 1 := by omega
  have e2 : 2 * (i + 1) + 1 = 2 * i + 1 + 1 + 1 := by omega
  rcases wX l (n + 1) i k v with h | h
  ·left
   rw [e1]
   simp only [List.set_cons_succ, entries, List.modify_succ_cons, h]
  ·right; simp; omega
theorem Nv {P : Program} {w : World} {r : Nat} {o o' : Obj} (h : w.heap[r]? = some o) (ho : ∀ c e f, o ≠ .cells c e f) : (setObj r o').run P w = .ok () { w with heap := w.heap.setIfInBounds r o' } := by
 unfold setObj Sem.run
 rw [h]
 cases o <;> first | rfl | exact absurd rfl (ho _ _ _)
theorem QG {P : Program} {ρ : Rn} {σ σ' : AW} {w : World} (hR : Rel ρ σ w) {t : TypeId} {m k v : Value} (hv : Sc σ.dom v) (h : IL P σ t m k v = some σ') :
  ∃ w', (Instr.mapUpdate t (ren ρ m) (ren ρ k) (ren ρ v)).run P w = .ok () w' ∧ Step ρ σ w ρ σ' w' := by
 unfold IL at h
 split at h
 ·rename_i kt et r hu
  split at h
  ·rename_i e z cs hg
   split at h
   ·rename_i hkf
    obtain ⟨hl, hb⟩ := IJ hR hg
    have hlt := (Array.getElem?_eq_some_iff.1 hb).1
    have hsc := hR.sc _ hl
    rw [hg] at hsc
    have hk := gJ hkf.2
    have hev := yB cs hkf.1
    have hget := yS (P := P) hb (by simp)
    have hset := fun o' => Nv (P := P) (o' := o') hb (by simp)
    split at h
    ·cases h
    ·rename_i u hck
     have hfk := CU (P := P) ρ kt k (entries 0 cs)
     rw [← sU ρ cs 0 hkf.1] at hfk
     have done : ∀ (ds : List Value) (o' : Obj), (∀ u ∈ ds, Sc σ.dom u) → o' = .map (entries 0 (ds.map (ren ρ))).toArray (ds.length / 2) → Step ρ σ w ρ (σ.set r ⟨3, e, z, ds⟩) { w with heap := w.heap.setIfInBounds (ρ r).1 o' } := fun ds o' h1 h2 => by
      refine zJ hR hl (by simp) (by simp) h1 (fun i hi => ?_) (by simp) ?_ rfl rfl rfl
      ·simp [Array.getElem?_setIfInBounds_ne (Ne.symm hi)]
      ·show (w.heap.setIfInBounds (ρ r).1 o')[(ρ r).1]? = _
       rw [h2]
       simp [hlt]
     split at h
     ·cases h
     ·rename_i i v0 hf
      rw [hf] at hfk
      split at h
      ·cases h
      ·rename_i en hen
       split at h
       ·rename_i hsb
        injection h with h
        subst h
        refine ⟨_, ?_, done _ _ (fun u hu => ?_) rfl⟩
        ·rw [sO, hk ρ]
         unfold Instr.mapUpdate
         have hen' : ((entries 0 (cs.map (ren ρ))).toArray)[i]? = some (DJ ρ en) := by
          rw [sU ρ cs 0 hkf.1]; simp [hen]
         have hm : ((entries 0 (cs.map (ren ρ))).toArray.modify i fun e => { e with key := k, val := ren ρ v }) = (entries 0 (((cs.set (2 * i) k).set (2 * i + 1) v).map (ren ρ))).toArray := by
          rw [List.map_set, List.map_set, hk ρ]
          rcases wX (cs.map (ren ρ)) 0 i k (ren ρ v) with hq | hq
          ·rw [hq]; simp
          ·rw [List.length_map] at hq; omega
         have hlen : ((cs.set (2 * i) k).set (2 * i + 1) v).length / 2 = cs.length / 2 := by simp
         simp only [Sem.run_bind, run_underlying hu, Result.andThen_ok, hget, iR hck w, iR hfk w, Option.map_some, Gg, hen', Option.getD_some, Instr.keyThatStays]
         have afR : Instr.sameBits 10000 (DJ ρ en).key k = true := hsb
         rw [if_pos afR]
         simp only [Sem.run_pure, Result.andThen_ok, hm, hset, hlen]
        ·rcases List.mem_or_eq_of_mem_set hu with hu | rfl
         ·rcases List.mem_or_eq_of_mem_set hu with hu | rfl
          ·exact hsc u hu
          ·exact hk.sc _
         ·exact hv
       ·cases h
     ·rename_i hf
      rw [hf] at hfk
      injection h with h
      subst h
      refine ⟨_, ?_, done _ _ (fun u hu => ?_) rfl⟩
      ·rw [sO, hk ρ]
       unfold Instr.mapUpdate
       have ha : (entries 0 (cs.map (ren ρ))).toArray.push { key := k, val := ren ρ v, born := cs.length / 2 } = (entries 0 ((cs ++ [k, v]).map (ren ρ))).toArray := by
        rw [List.map_append, List.map_cons, List.map_cons, List.map_nil, hk ρ, wW _ _ _ _ (by rw [List.length_map]; exact hev)]
        simp
       have hlen : (cs ++ [k, v]).length / 2 = cs.length / 2 + 1 := by simp
       simp only [Sem.run_bind, run_underlying hu, Result.andThen_ok, hget, iR hck w, iR hfk w, Gg, ha, hset, hlen]
      ·rcases List.mem_append.1 hu with hu | hu
       ·exact hsc u hu
       ·simp at hu
        rcases hu with rfl | rfl
        ·exact hk.sc _
        ·exact hv
   ·cases h
  ·cases h
 ·cases h
def eqL : List UInt8 → List UInt8 → Bool
 | [], [] => true
 | a :: l, b :: m => match Nat.beq a.toNat b.toNat with
  | true => eqL l m
  | false => false
 | _, _ => false
theorem IQ : ∀ (l m : List UInt8), eqL l m = (l == m)
 | [], [] => rfl
 | [], _ :: _ => rfl
 | _ :: _, [] => rfl
 | a :: l, b :: m => by
  show (match Nat.beq a.toNat b.toNat with | true => eqL l m | false => false) = _
  rw [IQ l m]
  by_cases h : a = b
  ·subst h; simp [Nat.beq_refl]
  ·have h1 : Nat.beq a.toNat b.toNat = false := by
    cases hq : Nat.beq a.toNat b.toNat with
    | false => rfl
    | true => exact absurd (UInt8.toNat_inj.1 (Nat.eq_of_beq_eq_true hq)) h
   rw [h1]
   simp [h]
def Bf (k : IntKind) (n : Int) : Option Value := match k with
 | .i64 => match n with
  | .ofNat m => match Nat.ble m 9223372036854775807 with
   | true => some (.int .i64 (.ofNat m))
   | false => none
  | .negSucc _ => none
 | _ => none
theorem GU {k : IntKind} {n : Int} {v : Value} (h : Bf k n = some v) : v = .int k (k.wrap n) := by
 unfold Bf at h
 split at h
 ·split at h
  ·rename_i m
   split at h
   ·rename_i hb
    injection h with h
    subst h
    have hm := Nat.le_of_ble_eq_true hb
    have : IntKind.i64.wrap (Int.ofNat m) = Int.ofNat m := by
     unfold IntKind.wrap
     simp [IntKind.bits, IntKind.signed]
     omega
    rw [this]
   ·cases h
  ·cases h
 ·cases h
def aT (op : BinOp) (x y : Value) : Option Value := match x with
 | .int k a => match y with
  | .int j b => match decide (k = j) with
   | true => (match op with
    | .add => Bf k (a + b)
    | .sub => Bf k (a - b)
    | .eql => some (.bool (a == b))
    | .neq => some (.bool (a != b))
    | .lss => some (.bool (decide (a < b)))
    | .leq => some (.bool (decide (a ≤ b)))
    | .gtr => some (.bool (decide (a > b)))
    | .geq => some (.bool (decide (a ≥ b)))
    | _ => none)
   | false => none
  | _ => none
 | .string a => match y with
  | .string b => (match op with
   | .eql => some (.bool (eqL a.data.toList b.data.toList))
   | .neq => some (.bool (!(eqL a.data.toList b.data.toList)))
   | _ => none)
  | _ => none
 | _ => none
theorem Ul {P : Program} {op : BinOp} {t : TypeId} {x y v : Value} {ox oy : Operand} (h : aT op x y = some v) (w : World) : (do eqGuard op t ox oy x y; binOp op t x y : Sem Value).run P w = .ok v w ∧ Fl x ∧ Fl y ∧ Fl v := by
 unfold aT at h
 split at h
 ·rename_i k a
  split at h
  ·rename_i j b
   split at h
   ·rename_i hk
    have hk := of_decide_eq_true hk
    subst hk
    have hg : (eqGuard op t ox oy (.int k a) (.int k b)).run P w = .ok () w := by unfold eqGuard; cases op <;> simp
    split at h
    ·have := GU h
     subst this
     exact ⟨by simp [hg, binOp, Op.intArith], fun _ => rfl, fun _ => rfl, fun _ => rfl⟩
    ·have := GU h
     subst this
     exact ⟨by simp [hg, binOp, Op.intArith], fun _ => rfl, fun _ => rfl, fun _ => rfl⟩
    all_goals first
     | (injection h with h; subst h; exact ⟨by simp [hg, binOp, Op.intCmp], fun _ => rfl, fun _ => rfl, fun _ => rfl⟩)
     | cases h
   ·cases h
  ·cases h
 ·rename_i a
  split at h
  ·rename_i b
   have hg : (eqGuard op t ox oy (.string a) (.string b)).run P w = .ok () w := by unfold eqGuard; cases op <;> simp
   split at h
   ·injection h with h
    subst h
    rw [IQ, ← Go.ByteArray.toList_eq a, ← Go.ByteArray.toList_eq b]
    exact ⟨by simp [hg, binOp, Op.stringOp], fun _ => rfl, fun _ => rfl, fun _ => rfl⟩
   ·injection h with h
    subst h
    rw [IQ, ← Go.ByteArray.toList_eq a, ← Go.ByteArray.toList_eq b]
    exact ⟨by simp [hg, binOp, Op.stringOp], fun _ => rfl, fun _ => rfl, fun _ => rfl⟩
   ·cases h
  ·cases h
 ·cases h
def byteAt (P : Program) (t : TypeId) (x ix : Value) : Option Value := match x with
 | .string s => match ix with
  | .int _ (.ofNat i) => match P.underlying t with
   | some .string => match s.data.toList[i]? with
    | some b => some (.int .u8 (.ofNat b.toNat))
    | none => none
   | _ => none
  | _ => none
 | _ => none
theorem QH {P : Program} {t : TypeId} {x ix v : Value} (h : byteAt P t x ix = some v) (w : World) : (Instr.index t x ix).run P w = .ok v w ∧ Fl x ∧ Fl ix ∧ Fl v := by
 unfold byteAt at h
 split at h
 ·rename_i s
  split at h
  ·rename_i k i
   split at h
   ·rename_i hu
    split at h
    ·rename_i b hb
     injection h with h
     subst h
     refine ⟨?_, fun _ => rfl, fun _ => rfl, fun _ => rfl⟩
     have hi : i < s.data.toList.length := (List.getElem?_eq_some_iff.1 hb).1
     have hs : s[i]? = some b := by
      rw [← hb]
      have hi' : i < s.size := by simpa using hi
      rw [getElem?_pos s i hi']
      simp only [List.getElem?_eq_getElem hi]
      rfl
     unfold Instr.index
     have h0 : (0 : Int) ≤ Int.ofNat i := Int.natCast_nonneg i
     have hn : (Int.ofNat i).toNat = i := rfl
     simp only [Sem.run_bind, asIntOf, Sem.run_pure, Result.andThen_ok, run_underlying hu, if_pos h0, hn, hs]
     rfl
    ·cases h
   ·cases h
  ·cases h
 ·cases h
def bytesOf : List Value → Option (List UInt8)
 | [] => some []
 | .int .u8 (.ofNat n) :: l => match Nat.blt n 256 with
  | true => (match bytesOf l with
   | some r => some (UInt8.ofNat n :: r)
   | none => none)
  | false => none
 | _ => none
theorem Ew : ∀ {cs : List Value} {l : List UInt8}, bytesOf cs = some l → cs = l.map (fun b => Value.int .u8 (b.toNat : Int))
 | [], l, h => by injection h with h; subst h; rfl
 | c :: cs, l, h => by
  unfold bytesOf at h
  split at h
  ·rename_i h'; cases h'
  ·rename_i n l' h'
   split at h
   ·rename_i hn
    split at h
    ·rename_i r hr
     injection h with h
     subst h
     injection h' with h1 h2
     subst h1 h2
     rw [List.map_cons, ← Ew hr]
     have : n < 256 := Nat.le_of_ble_eq_true hn
     simp [UInt8.toNat_ofNat', Nat.mod_eq_of_lt this]
    ·cases h
   ·cases h
  ·cases h
def Um (P : Program) (σ : AW) (src dst : TypeId) (x : Value) : Option Value := match P.underlying src with
 | some (.slice e) => match P.underlying e with
  | some (.int .u8) => match P.underlying dst with
   | some .string => match x with
    | .slice none _ _ => some (.string ByteArray.empty)
    | .slice (some a) len _ => match rowOf σ a with
     | none => none
     | some cs => match bytesOf ((cs.drop a.off).take len) with
      | some l => if l.length = len then some (.string ⟨l.toArray⟩) else none
      | none => none
    | _ => none
   | _ => none
  | _ => none
 | _ => none
theorem X0 {P : Program} {ρ : Rn} {σ : AW} {w : World} (hR : Rel ρ σ w) {src dst : TypeId} {x v : Value} (h : Um P σ src dst x = some v) : (convert src dst (ren ρ x)).run P w = .ok v w ∧ Fl v := by
 unfold Um at h
 split at h
 ·rename_i e hs
  split at h
  ·rename_i he
   split at h
   ·rename_i hd
    split at h
    ·rename_i len c
     injection h with h
     subst h
     exact ⟨run_convert_bytes_nil w src e hs he len c dst hd, fun _ => rfl⟩
    ·rename_i a len c
     split at h
     ·cases h
     ·rename_i cs hr
      split at h
      ·rename_i l hl
       split at h
       ·rename_i hlen
        injection h with h
        subst h hlen
        refine ⟨?_, fun _ => rfl⟩
        obtain ⟨hsp, _, _⟩ := yO hR hr
        rw [aZ]
        refine run_convert_bytes_back w src dst e (jd ρ a) _ l hs he hd (fun j hj => ?_)
        rw [nC ρ hsp, je, Nat.add_right_comm]
        have hb := Ew hl
        have hc : cs[a.off + j]? = some (.int .u8 (l[j].toNat : Int)) := by
         have : ((cs.drop a.off).take l.length)[j]? = some (.int .u8 (l[j].toNat : Int)) := by
          rw [hb]; simp [hj]
         rw [List.getElem?_take, if_pos hj, List.getElem?_drop] at this
         exact this
        exact xR hR hr hc
       ·cases h
      ·cases h
    ·cases h
   ·cases h
  ·cases h
 ·cases h
theorem TR.he {ρ : Rn} {σ : AW} {A : Fr} {a : Act} (h : TR ρ σ A a) (xs : List Operand) : HE ρ σ A a xs := fun _ _ _ e => ZY h e
theorem Bg {ρ : Rn} {σ : AW} {A : Fr} {a : Act} : ∀ {l : List Operand} {vs : List Value}, HE ρ σ A a l → nR A l = some vs → l.map a.eval = vs.map (ren ρ) ∧ ∀ v ∈ vs, Sc σ.dom v
 | [], vs, _, e => by injection e with e; subst e; exact ⟨rfl, fun v hv => by cases hv⟩
 | x :: l, vs, h, e => by
  simp only [nR] at e
  split at e
  ·cases e
  ·rename_i v hv
   split at e
   ·cases e
   ·rename_i us hus
    injection e with e
    subst e
    obtain ⟨h1, h2⟩ := h x (List.mem_cons_self ..) v hv
    obtain ⟨h3, h4⟩ := Bg (fun y hy => h y (List.mem_cons_of_mem _ hy)) hus
    refine ⟨by rw [List.map_cons, List.map_cons, h1, h3], fun u hu => ?_⟩
    cases hu with
    | head => exact h2
    | tail _ hu => exact h4 u hu
theorem X3 {ρ : Rn} {σ : AW} {A : Fr} {a : Act} {o : Oper} (h : HE ρ σ A a o.op.operands.toList) (hf : nS A o = true) : execOp a.eval o = execOp (CQ A) o := by
 refine execOp_congr o (fun cs b e => by simp [nS, e] at hf) fun x hx => ?_
 have hf : (o.op.operands.toList.all fun x => match ev A x with | some v => ni v | none => false) = true := by
  unfold nS at hf
  split at hf
  ·cases hf
  ·exact hf
 have hm : x ∈ o.op.operands.toList := by simpa using hx
 have := List.all_eq_true.1 hf x hm
 unfold CQ
 cases he : ev A x with
 | none => rw [he] at this; cases this
 | some v =>
  rw [he] at this
  rw [(h x hm v he).1]
  exact gJ this ρ
def iD (P : Program) (A : Fr) (σ : AW) (o : Oper) : Option (Value × AW) :=
 if nS A o then match aS P (execOp (CQ A) o) with
  | some (.value v) => if ni v then some (v, σ) else none
  | _ => none
 else none
def Pm (A : Fr) : Option Operand → Option (Option Value)
 | none => some none
 | some x => match ev A x with
  | none => none
  | some v => some (some v)
def same (σ : AW) (v : Option Value) : Option (Value × AW) := match v with
 | none => none
 | some v => some (v, σ)
def GV (σ : Option AW) : Option (Value × AW) := match σ with
 | none => none
 | some σ => some (undef, σ)
def qc (P : Program) (A : Fr) (σ : AW) (o : Oper) (b : Builtin) (ts : Array TypeId) (xs : Array Operand) : Option (Value × AW) := match b with
 | .append => match ts.toList, nR A xs.toList with
  | [t, tx], some [s, x] => ig P σ t tx s x
  | _, _ => none
 | .copy => match ts.toList, nR A xs.toList with
  | [t, _], some [d, x] => Uj P σ t d x
  | _, _ => none
 | .len => match ts.toList, nR A xs.toList with
  | [t], some [x] => same σ (fF P σ t x)
  | _, _ => none
 | _ => iD P A σ o
def kQ (P : Program) (A : Fr) (σ : AW) (o : Oper) : Option (Value × AW) := match o.op with
 | .move x | .assign x => same σ (ev A x)
 | .pick c x y => match ev A c with
  | some (.bool true) => same σ (ev A x)
  | some (.bool false) => same σ (ev A y)
  | _ => none
 | .alloc t => match zeroOf P t with
  | some z => some (.pointer (some ⟨σ.next, 0, none⟩), σ.push ⟨1, t, 0, aF z⟩)
  | none => none
 | .box t x => match ev A x with
  | some v => some (.pointer (some ⟨σ.next, 0, none⟩), σ.push ⟨1, t, 0, aF v⟩)
  | none => none
 | .build t ps => match nV A ps.toList with
  | some vs => same σ (lW P t vs)
  | none => none
 | .buildSlice t len ps => match nV A ps.toList with
  | some vs => bf P σ t len vs
  | none => none
 | .load t x => match ev A x with
  | some (.pointer (some a)) => same σ (Em P σ t a)
  | _ => none
 | .store t x y => match ev A x with
  | some (.pointer (some a)) => match ev A y with
   | some v => GV (Eo P σ t a v)
   | none => none
  | _ => none
 | .nilCheck x => match ev A x with
  | some (.pointer (some a)) => some (.pointer (some a), σ)
  | _ => none
 | .binOp op t x y _ => match ev A x, ev A y with
  | some u, some v => match aT op u v with
   | some r => some (r, σ)
   | none => match op with
    | .eql => (match nilA P t u v with
     | some b => some (.bool b, σ)
     | none => iD P A σ o)
    | .neq => (match nilA P t u v with
     | some b => some (.bool (!b), σ)
     | none => iD P A σ o)
    | _ => iD P A σ o
  | _, _ => none
 | .unOp op _ x => match op, ev A x with
  | .not, some (.bool b) => some (.bool (!b), σ)
  | _, _ => iD P A σ o
 | .index t x y => match ev A x, ev A y with
  | some u, some v => match byteAt P t u v with
   | some r => some (r, σ)
   | none => iD P A σ o
  | _, _ => none
 | .convert s d x => match ev A x with
  | some (.slice u l c) => same σ (Um P σ s d (.slice u l c))
  | _ => iD P A σ o
 | .fieldAddr s x f => match ev A x with
  | some v => same σ (aJ P s v f)
  | none => none
 | .field s x f => match ev A x with
  | some v => same σ (IE P s v f)
  | none => none
 | .indexAddr t x y => match ev A x, ev A y with
  | some u, some v => same σ (iJ P t u v)
  | _, _ => none
 | .slice t x lo hi mx => match ev A x with
  | some (.string _) => iD P A σ o
  | some u => match Pm A lo, Pm A hi, Pm A mx with
   | some l, some h, some m => same σ (wP P σ t u l h m)
   | _, _, _ => none
  | none => none
 | .extract x i => match ev A x with
  | some v => same σ (wS v i)
  | none => none
 | .makeFunc fn fs cs => match nR A fs.toList, nR A cs.toList with
  | some u, some v => some (.func fn u.toArray v.toArray, σ)
  | _, _ => none
 | .makeMap t r => match (match r with
   | none => some true
   | some x => match ev A x with
    | some (.int _ _) => (match P.underlying t with | some (.map _ _) => some true | _ => none)
    | _ => none : Option Bool) with
  | some _ => some (.map (some σ.next), σ.push ⟨3, 0, 0, []⟩)
  | none => none
 | .makeSlice t l c => match ev A l, ev A c with
  | some u, some v => yR P σ t u v
  | _, _ => none
 | .lookup t x y ok => match ev A x, ev A y with
  | some u, some v => same σ (IK P σ t u v ok)
  | _, _ => none
 | .mapUpdate t m k x => match ev A m, ev A k, ev A x with
  | some u, some v, some y => GV (IL P σ t u v y)
  | _, _, _ => none
 | .call c => match c.callee with
  | .builtin b => qc P A σ o b c.argTypes c.args
  | _ => none
 | _ => iD P A σ o
def Came (P : Program) (o : Oper) (a : Act) (ρ : Rn) (σ : AW) (w : World) (v : Value) (σ' : AW) : Prop :=
 ∃ ρ' w' n, (execOp a.eval o).run P w = .ok n w' ∧ (n = .value (ren ρ' v) ∨ (n = .skip ∧ v = undef)) ∧ Step ρ σ w ρ' σ' w' ∧ Sc σ'.dom v
section
variable {P : Program} {ρ : Rn} {σ σ' : AW} {w : World} {A : Fr} {a : Act} {o : Oper} {v : Value}
theorem dn {r : Value} (hR : Rel ρ σ w) (h : (execOp a.eval o).run P w = .ok (.value (ren ρ r)) w) (hs : Sc σ.dom r) : Came P o a ρ σ w r σ :=
 ⟨ρ, w, _, h, .inl rfl, Step.refl hR, hs⟩
theorem lI (hR : Rel ρ σ w) (hE : HE ρ σ A a o.op.operands.toList) (h : iD P A σ o = some (v, σ')) : Came P o a ρ σ w v σ' := by
 unfold iD at h
 split at h
 ·rename_i hf
  split at h
  ·rename_i u hu
   split at h
   ·rename_i hfl
    injection h with h
    injection h with h1 h2
    subst h1 h2
    have hr := iR hu w
    rw [← X3 hE hf] at hr
    refine dn hR ?_ ((gJ hfl).sc _)
    rw [gJ hfl ρ]
    exact hr
   ·cases h
  ·cases h
 ·cases h
theorem eU {r : Option Value} (h : same σ r = some (v, σ')) : r = some v ∧ σ' = σ := by
 unfold same at h
 split at h
 ·cases h
 ·injection h with h
  injection h with h1 h2
  subst h1
  exact ⟨rfl, h2.symm⟩
theorem GY {r : Option AW} (h : GV r = some (v, σ')) : r = some σ' ∧ v = undef := by
 unfold GV at h
 split at h
 ·cases h
 ·injection h with h
  injection h with h1 h2
  subst h2
  exact ⟨rfl, h1.symm⟩
theorem Nw {A : Fr} {x : Option Operand} {v : Option Value} (hE : ∀ y, x = some y → ∀ v, ev A y = some v → a.eval y = ren ρ v ∧ Sc σ.dom v) (h : Pm A x = some v) : x.map a.eval = v.map (ren ρ) := by
 unfold Pm at h
 split at h
 ·injection h with h; subst h; rfl
 ·rename_i y
  split at h
  ·cases h
  ·rename_i u hu
   injection h with h
   subst h
   simp [(hE y rfl u hu).1]
theorem IU {c : Call} {b : Builtin} (ho : o.op = .call c) (hc : c.callee = .builtin b) (hR : Rel ρ σ w) (hE : HE ρ σ A a o.op.operands.toList) (h : qc P A σ o b c.argTypes c.args = some (v, σ')) : Came P o a ρ σ w v σ' := by
 have hops : o.op.operands.toList = c.args.toList := by rw [ho]; simp [Op.operands, Call.operands, hc]
 have hE' : HE ρ σ A a c.args.toList := hops ▸ hE
 have two : ∀ {x y : Value}, nR A c.args.toList = some [x, y] → c.args.map a.eval = #[ren ρ x, ren ρ y] ∧ Sc σ.dom x ∧ Sc σ.dom y := fun {x y} e => by
  obtain ⟨h1, h2⟩ := Bg hE' e
  refine ⟨?_, h2 x (by simp), h2 y (by simp)⟩
  apply Array.ext'
  rw [Array.toList_map, h1]
  rfl
 unfold qc at h
 split at h
 ·split at h
  ·rename_i t tx s x hts hxs
   obtain ⟨h1, h2, _⟩ := two hxs
   have Un : c.argTypes = #[t, tx] := by apply Array.ext'; rw [hts]
   obtain ⟨ρ', w', hr, hst, hs⟩ := QE (ty := o.type) hR h2 h
   refine ⟨ρ', w', _, ?_, .inl rfl, hst, hs⟩
   simp [execOp, ho, resolve, hc, invoke, builtin, h1, Un, hr]
  ·cases h
 ·split at h
  ·rename_i t tx s x hts hxs
   obtain ⟨h1, _, _⟩ := two hxs
   have Un : c.argTypes = #[t, tx] := by apply Array.ext'; rw [hts]
   obtain ⟨w', hr, hst, hs⟩ := XY (tx := tx) (ty := o.type) hR h
   refine ⟨ρ, w', _, ?_, .inl rfl, hst, hs⟩
   simp [execOp, ho, resolve, hc, invoke, builtin, h1, Un, hr]
  ·cases h
 ·split at h
  ·rename_i t x hts hxs
   obtain ⟨h1, h2⟩ := Bg hE' hxs
   have h1' : c.args.map a.eval = #[ren ρ x] := by apply Array.ext'; rw [Array.toList_map, h1]; rfl
   have Un : c.argTypes = #[t] := by apply Array.ext'; rw [hts]
   obtain ⟨hl, rfl⟩ := eU h
   obtain ⟨hr, hf⟩ := aaG (ty := o.type) hR hl
   refine dn hR ?_ (hf.sc _)
   simp [execOp, ho, resolve, hc, invoke, builtin, h1', Un, hr]
  ·cases h
 ·exact lI hR hE h
theorem Ey (hR : Rel ρ σ w) (hE : HE ρ σ A a o.op.operands.toList) (h : kQ P A σ o = some (v, σ')) : Came P o a ρ σ w v σ' := by
 unfold kQ at h
 split at h
 ·rename_i x ho
  obtain ⟨h1, rfl⟩ := eU h
  obtain ⟨e1, e2⟩ := hE x (by rw [ho]; simp [Op.operands]) v h1
  exact dn hR (by simp [execOp, ho, e1]) e2
 ·rename_i x ho
  obtain ⟨h1, rfl⟩ := eU h
  obtain ⟨e1, e2⟩ := hE x (by rw [ho]; simp [Op.operands]) v h1
  exact dn hR (by simp [execOp, ho, e1]) e2
 ·rename_i c x y ho
  split at h
  ·rename_i hc
   obtain ⟨c1, _⟩ := hE c (by rw [ho]; simp [Op.operands]) _ hc
   obtain ⟨h1, rfl⟩ := eU h
   obtain ⟨e1, e2⟩ := hE x (by rw [ho]; simp [Op.operands]) v h1
   exact dn hR (by simp [execOp, ho, c1, pW, asBool, e1]) e2
  ·rename_i hc
   obtain ⟨c1, _⟩ := hE c (by rw [ho]; simp [Op.operands]) _ hc
   obtain ⟨h1, rfl⟩ := eU h
   obtain ⟨e1, e2⟩ := hE y (by rw [ho]; simp [Op.operands]) v h1
   exact dn hR (by simp [execOp, ho, c1, pW, asBool, e1]) e2
  ·cases h
 ·rename_i t ho
  split at h
  ·rename_i z hz
   injection h with h
   injection h with h1 h2
   subst h1 h2
   obtain ⟨hz1, hz2⟩ := qY hz w
   obtain ⟨ρ', w', hr, hst⟩ := GI (P := P) hR t (hz2.sc _)
   rw [hz2 ρ] at hr
   refine ⟨ρ', w', _, ?_, .inl rfl, hst, Iw (nT (by simp))⟩
   simp [execOp, ho, Instr.alloc, hz1, hr, dO]
  ·cases h
 ·rename_i t x ho
  split at h
  ·rename_i u hu
   injection h with h
   injection h with h1 h2
   subst h1 h2
   obtain ⟨e1, e2⟩ := hE x (by rw [ho]; simp [Op.operands]) u hu
   obtain ⟨ρ', w', hr, hst⟩ := GI (P := P) hR t e2
   refine ⟨ρ', w', _, ?_, .inl rfl, hst, Iw (nT (by simp))⟩
   simp [execOp, ho, Instr.box, e1, hr, dO]
  ·cases h
 ·rename_i t ps ho
  split at h
  ·rename_i vs hvs
   obtain ⟨h1, rfl⟩ := eU h
   obtain ⟨e1, e2⟩ := zL (a := a) (ρ := ρ) (σ := σ') (fun x hx => hE x (by rw [ho]; simpa [Op.operands] using hx)) hvs
   obtain ⟨hr, hs⟩ := Ui (ρ := ρ) e2 h1 w
   have e3 : (ps.map fun (i, x) => (i, a.eval x)) = (vs.map fun p => (p.1, ren ρ p.2)).toArray := by
    apply Array.ext'; rw [Array.toList_map, e1]
   refine dn hR ?_ hs
   simp only [execOp, ho, e3, Sem.run_bind, hr, Result.andThen_ok, Sem.run_pure]
  ·cases h
 ·rename_i t len ps ho
  split at h
  ·rename_i vs hvs
   obtain ⟨e1, e2⟩ := zL (a := a) (ρ := ρ) (σ := σ) (fun x hx => hE x (by rw [ho]; simpa [Op.operands] using hx)) hvs
   obtain ⟨ρ', w', hr, hst, hs⟩ := Gf hR e2 h
   have e3 : (ps.map fun (i, x) => (i, a.eval x)) = (vs.map fun p => (p.1, ren ρ p.2)).toArray := by
    apply Array.ext'; rw [Array.toList_map, e1]
   refine ⟨ρ', w', _, ?_, .inl rfl, hst, hs⟩
   simp only [execOp, ho, e3, Sem.run_bind, hr, Result.andThen_ok, Sem.run_pure]
  ·cases h
 ·rename_i t x ho
  split at h
  ·rename_i ad hx
   obtain ⟨h1, rfl⟩ := eU h
   obtain ⟨e1, _⟩ := hE x (by rw [ho]; simp [Op.operands]) _ hx
   obtain ⟨hr, hs⟩ := En hR h1
   refine dn hR ?_ hs
   simp [execOp, ho, Instr.loadAt, e1, dO, Instr.sureAddr, hr]
  ·cases h
 ·rename_i t x y ho
  split at h
  ·rename_i ad hx
   split at h
   ·rename_i u hu
    obtain ⟨h1, rfl⟩ := GY h
    obtain ⟨e1, _⟩ := hE x (by rw [ho]; simp [Op.operands]) _ hx
    obtain ⟨e2, e3⟩ := hE y (by rw [ho]; simp [Op.operands]) _ hu
    obtain ⟨w', hr, hst⟩ := JR hR e3 h1
    refine ⟨ρ, w', _, ?_, .inr ⟨rfl, rfl⟩, hst, qW.sc _⟩
    simp [execOp, ho, Instr.storeAt, e1, e2, dO, Instr.sureAddr, hr]
   ·cases h
  ·cases h
 ·rename_i x ho
  split at h
  ·rename_i ad hx
   injection h with h
   injection h with h1 h2
   subst h1 h2
   obtain ⟨e1, e2⟩ := hE x (by rw [ho]; simp [Op.operands]) _ hx
   refine dn hR ?_ e2
   simp [execOp, ho, e1, dO]
  ·cases h
 ·rename_i op t x y yt ho
  split at h
  ·rename_i u u' hu hu'
   obtain ⟨e1, _⟩ := hE x (by rw [ho]; simp [Op.operands]) _ hu
   obtain ⟨e2, _⟩ := hE y (by rw [ho]; simp [Op.operands]) _ hu'
   split at h
   ·rename_i r hr
    injection h with h
    injection h with h1 h2
    subst h1 h2
    obtain ⟨hrun, f1, f2, f3⟩ := Ul (P := P) (t := t) (ox := x) (oy := y) hr w
    refine dn hR ?_ (f3.sc _)
    rw [f1 ρ] at e1
    rw [f2 ρ] at e2
    rw [f3 ρ]
    simp only [execOp, ho, e1, e2]
    rw [Sem.run_bind, hrun]
    rfl
   ·split at h
    ·split at h
     ·rename_i b hb
      injection h with h
      injection h with h1 h2
      subst h1 h2
      obtain ⟨hr, _⟩ := Uk (ρ := ρ) hb w x y
      refine dn hR ?_ (fun _ _ _ => rfl)
      simp only [execOp, ho, e1, e2]
      rw [Sem.run_bind, hr]
      rfl
     ·exact lI hR hE h
    ·split at h
     ·rename_i b hb
      injection h with h
      injection h with h1 h2
      subst h1 h2
      obtain ⟨_, hr⟩ := Uk (ρ := ρ) hb w x y
      refine dn hR ?_ (fun _ _ _ => rfl)
      simp only [execOp, ho, e1, e2]
      rw [Sem.run_bind, hr]
      rfl
     ·exact lI hR hE h
    ·exact lI hR hE h
  ·cases h
 ·rename_i op t x ho
  split at h
  ·rename_i b hb
   injection h with h
   injection h with h1 h2
   subst h1 h2
   obtain ⟨e1, _⟩ := hE x (by rw [ho]; simp [Op.operands]) _ hb
   refine dn hR ?_ (fun _ _ _ => rfl)
   simp [execOp, ho, e1, pW, Op.unary]
  ·exact lI hR hE h
 ·rename_i t x y ho
  split at h
  ·rename_i u u' hu hu'
   obtain ⟨e1, _⟩ := hE x (by rw [ho]; simp [Op.operands]) _ hu
   obtain ⟨e2, _⟩ := hE y (by rw [ho]; simp [Op.operands]) _ hu'
   split at h
   ·rename_i r hr
    injection h with h
    injection h with h1 h2
    subst h1 h2
    obtain ⟨hrun, f1, f2, f3⟩ := QH hr w
    refine dn hR ?_ (f3.sc _)
    rw [f1 ρ] at e1
    rw [f2 ρ] at e2
    rw [f3 ρ]
    simp [execOp, ho, e1, e2, hrun]
   ·exact lI hR hE h
  ·cases h
 ·rename_i s d x ho
  split at h
  ·rename_i u l c hu
   obtain ⟨h1, rfl⟩ := eU h
   obtain ⟨e1, _⟩ := hE x (by rw [ho]; simp [Op.operands]) _ hu
   obtain ⟨hr, hf⟩ := X0 hR h1
   refine dn hR ?_ (hf.sc _)
   rw [hf ρ]
   simp [execOp, ho, e1, hr]
  ·exact lI hR hE h
 ·rename_i s x f ho
  split at h
  ·rename_i u hu
   obtain ⟨h1, rfl⟩ := eU h
   obtain ⟨e1, e2⟩ := hE x (by rw [ho]; simp [Op.operands]) _ hu
   obtain ⟨hr, hs⟩ := Nl (ρ := ρ) e2 h1 w
   exact dn hR (by simp [execOp, ho, e1, hr]) hs
  ·cases h
 ·rename_i s x f ho
  split at h
  ·rename_i u hu
   obtain ⟨h1, rfl⟩ := eU h
   obtain ⟨e1, e2⟩ := hE x (by rw [ho]; simp [Op.operands]) _ hu
   obtain ⟨hr, hs⟩ := Uh (ρ := ρ) e2 h1 w
   exact dn hR (by simp [execOp, ho, e1, hr]) hs
  ·cases h
 ·rename_i t x y ho
  split at h
  ·rename_i u u' hu hu'
   obtain ⟨h1, rfl⟩ := eU h
   obtain ⟨e1, e2⟩ := hE x (by rw [ho]; simp [Op.operands]) _ hu
   obtain ⟨e3, _⟩ := hE y (by rw [ho]; simp [Op.operands]) _ hu'
   obtain ⟨hr, hs⟩ := Np (ρ := ρ) e2 h1 w
   exact dn hR (by simp [execOp, ho, e1, e3, hr]) hs
  ·cases h
 ·rename_i t x lo hi mx ho
  split at h
  ·exact lI hR hE h
  ·rename_i u _ hu
   split at h
   ·rename_i l hh m hl hhi hmx
    obtain ⟨h1, rfl⟩ := eU h
    obtain ⟨e1, e2⟩ := hE x (by rw [ho]; simp [Op.operands]) _ hu
    have f1 := Nw (a := a) (ρ := ρ) (σ := σ') (fun y hy v e => hE y (by rw [ho]; simp [Op.operands, hy]) v e) hl
    have f2 := Nw (a := a) (ρ := ρ) (σ := σ') (fun y hy v e => hE y (by rw [ho]; simp [Op.operands, hy]) v e) hhi
    have f3 := Nw (a := a) (ρ := ρ) (σ := σ') (fun y hy v e => hE y (by rw [ho]; simp [Op.operands, hy]) v e) hmx
    obtain ⟨hr, hs⟩ := Nq hR e2 h1
    refine dn hR ?_ hs
    simp only [execOp, ho, e1, f1, f2, f3, Sem.run_bind, hr, Result.andThen_ok, Sem.run_pure]
   ·cases h
  ·cases h
 ·rename_i x i ho
  split at h
  ·rename_i u hu
   obtain ⟨h1, rfl⟩ := eU h
   obtain ⟨e1, e2⟩ := hE x (by rw [ho]; simp [Op.operands]) _ hu
   obtain ⟨hr, hs⟩ := Ns (P := P) (ρ := ρ) e2 h1 w
   exact dn hR (by simp [execOp, ho, e1, hr]) hs
  ·cases h
 ·rename_i fn fs cs ho
  split at h
  ·rename_i u u' hu hu'
   injection h with h
   injection h with h1 h2
   subst h1 h2
   obtain ⟨e1, e2⟩ := Bg (a := a) (ρ := ρ) (σ := σ) (fun x hx => hE x (by rw [ho]; simp only [Op.operands, Array.toList_append, List.mem_append]; exact .inl hx)) hu
   obtain ⟨e3, e4⟩ := Bg (a := a) (ρ := ρ) (σ := σ) (fun x hx => hE x (by rw [ho]; simp only [Op.operands, Array.toList_append, List.mem_append]; exact .inr hx)) hu'
   refine dn hR ?_ (Iy e2 e4)
   have q1 : fs.map a.eval = (u.map (ren ρ)).toArray := by apply Array.ext'; rw [Array.toList_map, e1]
   have q2 : cs.map a.eval = (u'.map (ren ρ)).toArray := by apply Array.ext'; rw [Array.toList_map, e3]
   simp only [execOp, ho, q1, q2, Instr.makeFunc, jG, Sem.run_bind, Sem.run_pure, Result.andThen_ok, List.map_toArray]
  ·cases h
 ·rename_i t r ho
  split at h
  ·rename_i b hb
   injection h with h
   injection h with h1 h2
   subst h1 h2
   obtain ⟨ρ', w', hr, hst, hs⟩ := Nu (P := P) hR t
   refine ⟨ρ', w', _, ?_, .inl rfl, hst, hs⟩
   cases r with
   | none => simp [execOp, ho, hr]
   | some x =>
    simp only at hb
    split at hb
    ·rename_i k n hx
     split at hb
     ·rename_i kt et hu
      obtain ⟨e1, _⟩ := hE x (by rw [ho]; simp [Op.operands]) _ hx
      have : Instr.makeMap t none = (do pure (.map (some (← newObj (.map #[] 0))))) := rfl
      rw [this] at hr
      simp only [execOp, ho, Option.map_some, e1, kP]
      unfold Instr.makeMap
      simp only [Sem.run_bind, run_underlying hu, Result.andThen_ok, asInt, asIntOf, Sem.run_pure] at hr ⊢
      rw [hr]
      rfl
     ·cases hb
    ·cases hb
  ·cases h
 ·rename_i t l c ho
  split at h
  ·rename_i u u' hu hu'
   obtain ⟨e1, _⟩ := hE l (by rw [ho]; simp [Op.operands]) _ hu
   obtain ⟨e2, _⟩ := hE c (by rw [ho]; simp [Op.operands]) _ hu'
   obtain ⟨ρ', w', hr, hst, hs⟩ := II hR h
   refine ⟨ρ', w', _, ?_, .inl rfl, hst, hs⟩
   simp [execOp, ho, e1, e2, hr]
  ·cases h
 ·rename_i t x y ok ho
  split at h
  ·rename_i u u' hu hu'
   obtain ⟨h1, rfl⟩ := eU h
   obtain ⟨e1, _⟩ := hE x (by rw [ho]; simp [Op.operands]) _ hu
   obtain ⟨e2, _⟩ := hE y (by rw [ho]; simp [Op.operands]) _ hu'
   obtain ⟨hr, hs⟩ := QF hR h1
   exact dn hR (by simp [execOp, ho, e1, e2, hr]) hs
  ·cases h
 ·rename_i t m k x ho
  split at h
  ·rename_i u u' u'' hu hu' afS
   obtain ⟨h1, rfl⟩ := GY h
   obtain ⟨e1, _⟩ := hE m (by rw [ho]; simp [Op.operands]) _ hu
   obtain ⟨e2, _⟩ := hE k (by rw [ho]; simp [Op.operands]) _ hu'
   obtain ⟨e3, e4⟩ := hE x (by rw [ho]; simp [Op.operands]) _ afS
   obtain ⟨w', hr, hst⟩ := QG hR e4 h1
   refine ⟨ρ, w', _, ?_, .inr ⟨rfl, rfl⟩, hst, qW.sc _⟩
   simp [execOp, ho, e1, e2, e3, hr]
  ·cases h
 ·rename_i c ho
  split at h
  ·rename_i b hb
   exact IU ho hb hR hE h
  ·cases h
 ·exact lI hR hE h
end
def callArgs (A : Fr) (c : Call) : Option (Nat × List Value) := match c.callee with
 | .value f => match ev A f with
  | some (.func (.func g) fs cs) => match nR A c.args.toList with
   | some xs => some (g, fs.toList ++ xs ++ cs.toList)
   | none => none
  | _ => none
 | _ => none
abbrev J5 := Nat → List Value → AW → Option (Value × AW)
def kT (A : Fr) (dst : Option Tmp) (v : Value) : Fr := match dst with
 | some d => A.set d v
 | none => A
def eY (all : List Oper) (A : Fr) (o : Oper) : Option Bool := match o.guard with
 | none => some true
 | some (j, want) => match all[j]? with
  | none => none
  | some x => match x.dst with
   | none => none
   | some d => match A.get d with
    | some (.bool b) => some (b == want)
    | some _ => some false
    | none => none
def effect : Op → Bool
 | .alloc _ | .box _ _ | .buildSlice _ _ _ | .makeSlice _ _ _ | .makeMap _ _ | .store _ _ _ | .mapUpdate _ _ _ _ => true
 | .call c => match c.callee with
  | .builtin .append | .builtin .copy => true
  | .builtin _ => false
  | _ => true
 | _ => false
def aaH (acc : List Nat) (o : Oper) : Nat := o.after.toList.foldl (fun m e => if Region.binds .any e then m ||| (2 ^ e.on) ||| fA 0 acc e.on else m) 0
def iG : List Nat → List Oper → List Nat
 | acc, [] => acc
 | acc, o :: l => iG (acc ++ [aaH acc o]) l
def looks (all : List Oper) (o : Oper) : List Tmp := o.op.operands.toList.filterMap (fun | .tmp t => some t | _ => none) ++ (match o.guard with
 | some (g, _) => (match all[g]? with | some x => x.dst.toList | none => [])
 | none => [])
def wH (m i : Nat) : Bool := m.testBit i
def Pn (all : List Oper) (an : List Nat) (o : Oper) (i : Nat) (x : Oper) (j : Nat) : Bool := match x.dst with
 | none => true
 | some d => o.dst != some d && (!(looks all o).contains d || (decide (j < i) && wH (fA 0 an i) j) || wH (fA 0 an j) i)
def Uo (an : List Nat) (i0 : Nat) (o : Oper) (i : Nat) (x : Oper) (j : Nat) : Bool := !effect o.op || !effect x.op || decide (i < j) || i == i0 || wH (fA 0 an i) j
def Ez : Op → Bool
 | .alloc _ | .buildSlice _ _ _ => true
 | _ => false
def dP (all : List Oper) (an : List Nat) : Nat := match all.zipIdx.find? (fun (o, i) => Ez o.op && all.zipIdx.any fun (x, j) => decide (j < i) && effect x.op && !wH (fA 0 an i) j) with
 | some (_, i) => i
 | none => all.length
def Po (all : List Oper) (an : List Nat) (i0 : Nat) : Bool := match all[i0]? with
 | none => true
 | some o => Ez o.op && o.guard.isNone && (match o.dst with
  | none => false
  | some d => all.zipIdx.all fun (x, p) => effect x.op || !(looks all x).contains d || all.zipIdx.all fun (y, j) => !effect y.op || !decide (j < i0) || wH (fA 0 an p) j)
def yC (all : List Oper) : Bool :=
 let an := iG [] all
 (all.zipIdx.all fun (o, i) => (fA 0 an i == aaH an o) && o.after.toList.all fun e => !Region.binds .any e || decide (e.on < i)) &&
 (all.zipIdx.all fun (o, i) => all.zipIdx.all fun (x, j) => i == j || (Pn all an o i x j && Uo an (dP all an) o i x j)) &&
 Po all an (dP all an) &&
 (all.all fun o => match o.op with | .select _ _ => false | _ => true)
def ajf : Value → Value → Bool
 | .bool a, .bool b => a == b
 | .int k a, .int j b => k == j && a == b
 | .string a, .string b => a.data.toList == b.data.toList
 | .pointer none, .pointer none => true
 | .pointer (some a), .pointer (some b) => a.block == b.block && a.off == b.off && a.spot == b.spot
 | .slice none l c, .slice none m d => l == m && c == d
 | .slice (some a) l c, .slice (some b) m d => a.block == b.block && a.off == b.off && a.spot == b.spot && l == m && c == d
 | .map none, .map none => true
 | .map (some a), .map (some b) => a == b
 | .nilFunc, .nilFunc => true
 | .nilIface, .nilIface => true
 | _, _ => false
def acu (f : Value → Value → Bool) : List Value → List Value → Bool
 | [], [] => true
 | x :: l, y :: m => f x y && acu f l m
 | _, _ => false
def Pq (all : List Oper) (an : List Nat) (i0 : Nat) (i f : Nat) : Bool :=
 all.zipIdx.all fun (x, j) => !effect x.op || j == i0 || ((!wH (fA 0 an i) j || decide (j < f)) && (!wH (fA 0 an j) i || decide (f ≤ j)))
def places (all : List Oper) : List Nat := 0 :: (all.zipIdx.filterMap fun (o, i) => if effect o.op then some (i + 1) else none)
def yh (tr : List (Fr × AW × Value)) (σf : AW) (f : Nat) : AW := match tr[f]? with
 | some (_, σ, _) => σ
 | none => σf
def kX (all : List Oper) (i0 : Nat) (A : Fr) : Bool := match all[i0]? with
 | none => true
 | some o => match o.dst with
  | none => true
  | some d => (A.get d).isSome
def Ur (all : List Oper) (done : List Nat) (ok : Oper → Bool) (l : List Nat) : Option Nat := l.find? fun i => match all[i]? with
 | some o => !done.contains i && ok o && o.after.toList.all fun e => !Region.binds .any e || done.contains e.on
 | none => false
def Ny (all : List Oper) : Nat → List Nat → List Nat
 | 0, done => done
 | n + 1, done => match Ur all done (fun o => !Ez o.op) (List.range all.length) with
  | some i => Ny all n (done ++ [i])
  | none => match Ur all done (fun _ => true) (List.range all.length).reverse with
   | some i => Ny all n (done ++ [i])
   | none => done
def zO (all : List Oper) : List Nat := Ny all all.length []
def nX (ord : List Nat) : List Nat := (List.range ord.length).map fun i => ord.idxOf i
def uN (f : Nat → Nat) (o : Oper) : Oper := { o with guard := o.guard.map (fun p => (f p.1, p.2)), after := o.after.map fun e => { e with on := f e.on } }
def mV (all : List Oper) (ord : List Nat) : List Oper := ord.filterMap fun i => (all[i]?).map (uN fun j => fA 0 (nX ord) j)
def Bh (all : List Oper) (ord : List Nat) : Bool := Nat.beq ord.length all.length && (List.range all.length).all fun i => decide (fA 0 (nX ord) i < all.length) && Nat.beq (fA 0 ord (fA 0 (nX ord) i)) i && Nat.beq (fA 0 (nX ord) (fA 0 ord i)) i && decide (fA 0 ord i < all.length)
def within (all : List Oper) : Bool := all.all fun o => (o.after.toList.all fun e => decide (e.on < all.length)) && (match o.guard with | some p => decide (p.1 < all.length) | none => true)
def qO (P : Program) (A : Fr) (σ : AW) : ResultVar → Option Value
 | .tmp t => A.get t
 | .cell a t => match A.get a with
  | some (.pointer (some ad)) => Em P σ t ad
  | _ => none
def kY (P : Program) (A : Fr) (σ : AW) : List ResultVar → Option (List Value)
 | [] => some []
 | r :: l => match qO P A σ r with
  | none => none
  | some v => match kY P A σ l with
   | none => none
   | some vs => some (v :: vs)
def jH (vs : List Value) : Value := match vs with
 | [v] => v
 | l => .tuple l.toArray
def AW0 : AW := ⟨0, []⟩
def Ok (P : Program) (g : Nat) (xs : List Value) (σ : AW) (v : Value) (σ' : AW) : Prop := (∀ args w, (callFunc g args).run P w = .ok (.enter g args) w) ∧
 ∀ ρ w, Rel ρ σ w → (∀ x ∈ xs, Sc σ.dom x) → Calls P g (xs.map (ren ρ)).toArray w fun e w' => ∃ ρ', e = .returned (ren ρ' v) ∧ Step ρ σ w ρ' σ' w' ∧ Sc σ'.dom v
def X4 (P : Program) (A : Fr) (σ : AW) (o : Oper) (v : Value) (σ' : AW) : Prop := match o.op with
 | .call c => match c.callee with
  | .value _ => ∃ g xs, callArgs A c = some (g, xs) ∧ Ok P g xs σ v σ'
  | _ => kQ P A σ o = some (v, σ')
 | _ => kQ P A σ o = some (v, σ')
def Gd (P : Program) (all : List Oper) (A : Fr) (σ : AW) (o : Oper) (v : Value) (σ' : AW) : Prop := match eY all A o with
 | some true => X4 P A σ o v σ'
 | some false => v = undef ∧ σ' = σ
 | none => False
section
variable {P : Program} {call : J5} {ρ ρ' : Rn} {σ σ' : AW} {w w' : World} {A : Fr} {a : Act} {o : Oper} {v : Value} {K : Act → World → Prop} {Q : Exit → Act → World → Prop}
theorem Pv (h : Came P o a ρ σ w v σ') (hK : ∀ ρ' w', Step ρ σ w ρ' σ' w' → Sc σ'.dom v → K (a.put o.dst (ren ρ' v)) w') : o.wp P a w K Q := by
 obtain ⟨ρ', w', n, hr, hn, hst, hs⟩ := h
 unfold Oper.wp
 rw [hr]
 rcases hn with rfl | ⟨rfl, rfl⟩
 ·exact hK ρ' w' hst hs
 ·have := hK ρ' w' hst hs
  rw [qW ρ'] at this
  exact this
theorem aaI (hR : Rel ρ σ w) (hE : HE ρ σ A a o.op.operands.toList) (h : X4 P A σ o v σ') (hK : ∀ ρ' w', Step ρ σ w ρ' σ' w' → Sc σ'.dom v → K (a.put o.dst (ren ρ' v)) w') : o.wp P a w K Q := by
 unfold X4 at h
 split at h
 ·rename_i c ho
  split at h
  ·rename_i f hf
   ·obtain ⟨g, xs, hx, hok⟩ := h
    unfold callArgs at hx
    rw [hf] at hx
    simp only at hx
    split at hx
    ·rename_i g' fs cs hfv
     split at hx
     ·rename_i ys hys
      injection hx with hx
      injection hx with q1 q2
      subst q1 q2
      have hops : o.op.operands.toList = f :: c.args.toList := by rw [ho]; simp [Op.operands, Call.operands, hf]
      rw [hops] at hE
      obtain ⟨e1, e2⟩ := hE f (List.mem_cons_self ..) _ hfv
      obtain ⟨e3, e4⟩ := Bg (a := a) (ρ := ρ) (σ := σ) (fun x hx => hE x (List.mem_cons_of_mem _ hx)) hys
      obtain ⟨e5, e6⟩ := Nj e2
      obtain ⟨hent, hcall⟩ := hok
      have hargs : c.args.map a.eval = (ys.map (ren ρ)).toArray := by apply Array.ext'; rw [Array.toList_map, e3]
      have hrun : (execOp a.eval o).run P w = .ok (.enter g' ((fs.toList ++ ys ++ cs.toList).map (ren ρ)).toArray) w := by
       simp only [execOp, ho, resolve, hf, e1, jG, Deferred.ofValue, Sem.run_bind, Sem.run_pure, Result.andThen_ok, invoke, hent, hargs]
       congr 2
       apply Array.ext'
       simp
      unfold Oper.wp
      rw [hrun]
      refine Calls.mono (hcall ρ w hR (fun x hx => ?_)) ?_
      ·simp only [List.mem_append] at hx
       rcases hx with (hx | hx) | hx
       ·exact e5 x hx
       ·exact e4 x hx
       ·exact e6 x hx
      ·rintro e w'' ⟨ρ', rfl, hst, hs⟩
       exact hK ρ' w'' hst hs
     ·cases hx
    ·cases hx
  ·exact Pv (Ey hR hE h) hK
 ·exact Pv (Ey hR hE h) hK
theorem TR.step (h : TR ρ σ A a) (hs : Step ρ σ w ρ' σ' w') : TR ρ' σ' A a :=
 ⟨h.size, fun t v e => by rw [hs.ren (h.sc t v e)]; exact h.tmps t v e, fun t v e => hs.sc (h.sc t v e), h.defers⟩
theorem TR.put (h : TR ρ σ A a) (hv : Sc σ.dom v) (dst : Option Tmp) : TR ρ σ (kT A dst v) (a.put dst (ren ρ v)) := by
 cases dst with
 | none => exact h
 | some d =>
  have hsz : (A.set d v).size = A.size := rfl
  refine ⟨by simp [Act.put, kT, hsz, h.size], fun t u e => ?_, fun t u e => ?_, h.defers⟩
  ·simp only [kT, Fr.get_set] at e
   simp only [Act.put]
   by_cases ht : t = d
   ·rw [if_pos ht, Option.map_eq_some_iff] at e
    obtain ⟨x, hx, rfl⟩ := e
    subst ht
    have := h.tmps t x hx
    have hlt : t < a.tmps.size := (Array.getElem?_eq_some_iff.1 this).1
    simp [hlt]
   ·rw [if_neg ht] at e
    rw [Array.getElem?_setIfInBounds_ne (Ne.symm ht)]
    exact h.tmps t u e
  ·simp only [kT, Fr.get_set] at e
   by_cases ht : t = d
   ·rw [if_pos ht, Option.map_eq_some_iff] at e
    obtain ⟨x, _, rfl⟩ := e
    exact hv
   ·rw [if_neg ht] at e
    exact h.sc t u e
theorem GZ {all : List Oper} {ops : Array Oper} (hops : ops.toList = all) (hg : ∀ g b x d v, o.guard = some (g, b) → all[g]? = some x → x.dst = some d → A.get d = some v → a.tmps[d]? = some (ren ρ v)) {b : Bool} (h : eY all A o = some b) :
  Region.wanted o (yielded ops a.tmps) = b := by
 unfold eY at h
 unfold Region.wanted
 cases hgd : o.guard with
 | none => rw [hgd] at h; injection h
 | some p =>
  obtain ⟨g, want⟩ := p
  rw [hgd] at h
  simp only at h
  have hall : ops[g]? = all[g]? := by rw [← hops]; simp
  cases hx : all[g]? with
  | none => rw [hx] at h; cases h
  | some x =>
   rw [hx] at h
   simp only at h
   cases hd : x.dst with
   | none => rw [hd] at h; cases h
   | some d =>
    rw [hd] at h
    simp only at h
    cases hv : A.get d with
    | none => rw [hv] at h; cases h
    | some v =>
     have h2 := hg g want x d v hgd hx hd hv
     simp only [yielded, hall, hx, Option.bind_some, hd, h2]
     rw [hv] at h
     cases v with
     | bool c => simp only [Option.some.injEq] at h; subst h; rfl
     | agg c => rw [lG]; injection h
     | tuple c => rw [dU]; injection h
     | func f c d => rw [jG]; injection h
     | _ => injection h
theorem Z5 {all : List Oper} {ops : Array Oper} (hops : ops.toList = all) (hR : Rel ρ σ w) (hE : HE ρ σ A a o.op.operands.toList)
  (hg : ∀ g b x d v, o.guard = some (g, b) → all[g]? = some x → x.dst = some d → A.get d = some v → a.tmps[d]? = some (ren ρ v))
  (h : Gd P all A σ o v σ') (hK : ∀ ρ' w', Step ρ σ w ρ' σ' w' → Sc σ'.dom v → K (a.put o.dst (ren ρ' v)) w') :
  if Region.wanted o (yielded ops a.tmps) then o.wp P a w K Q ∨ (o.asks P a w ∧ LetsOut Q) else K (a.put o.dst undef) w := by
 unfold Gd at h
 split at h
 ·rename_i hw
  rw [GZ hops hg hw]
  exact .inl (aaI hR hE h hK)
 ·rename_i hw
  rw [GZ hops hg hw]
  obtain ⟨h1, h2⟩ := h
  subst h1 h2
  have := hK ρ w (Step.refl hR) (qW.sc _)
  rw [qW ρ] at this
  exact this
 ·exact h.elim
def Ops (P : Program) (all : List Oper) : List Oper → Fr → AW → (Fr → AW → Prop) → Prop
 | [], A, σ, K => K A σ
 | o :: l, A, σ, K => ∃ v σ', Gd P all A σ o v σ' ∧ Ops P all l (kT A o.dst v) σ' K
end
end Go.Proofs.YthogkmcahnkkoaaGreatDoor
