/- The program's reader: Word and Scan in the reckoning's memory. strings.Builder at the head of a block, in memory: copyCheck, String. The program's reader of scripts, in plain words. The program's reader: lists of variables, of procedures. The program's reader: variables, kinds of statements, blocks. Regions in which two operations that act are not ordered: each order is looked at alone. The program's reader: lists of names; what is assigned. -/
import Derived.Test.YthogkmcahnkkoaaGreatDoorJ11
import Derived.Test.YthogkmcahnkkoaaGreatDoorJ16
import Derived.Test.YthogkmcahnkkoaaGreatDoorJ17
import Derived.Lib.Builder
import Derived.Lib.UnsafeStr
namespace Go.Proofs.YthogkmcahnkkoaaGreatDoor
open Go.RowKit Go.Sort
theorem Sr {ρ : Rn} {σ : AW} {w w' : World} (h : Rel ρ σ w) (hb : Below w.heap.size w w') {B cap : Nat} {b : fZ} (hB : w.heap.size ≤ B)
  (hs : ∀ v ∈ b.cells, Sc σ.dom v) (ho : ∀ ρ', Holds ρ' w' ⟨B, cap, 0⟩ b) (h5 : b.kind ≠ 5 := by simp) : ∃ ρ', ρ' σ.next = ⟨B, cap, 0⟩ ∧ Step ρ σ w ρ' (σ.push b) w' := by
 refine ⟨fun j => if j = σ.next then (⟨B, cap, 0⟩ : Pl) else ρ j, if_pos rfl, ?_⟩
 have hag : ∀ j, j < σ.next → (if j = σ.next then (⟨B, cap, 0⟩ : Pl) else ρ j) = ρ j := fun j hj => if_neg (by omega)
 have hold : ∀ i, i < w.heap.size → w'.heap[i]? = w.heap[i]? := fun i hi => hb.block i hi
 have hg : ∀ j, (σ.push b).get j = if j = σ.next then b else σ.get j := fun j => by rw [AW.push, AW.get_up, AW.get_set]
 have hl : ∀ j, (σ.push b).live j → j ≠ σ.next → σ.live j := fun j hj hne => by
  unfold AW.live at *; rw [hg, if_neg hne] at hj; exact hj
 have hd : ∀ j, σ.dom j → (σ.push b).dom j := fun j hj => ⟨Nat.lt_succ_of_lt hj.1, by rw [hg, if_neg (Nat.ne_of_lt hj.1)]; exact hj.2⟩
 have wO : ∀ j, (σ.push b).live j → w.heap.size ≤ (if j = σ.next then (⟨B, cap, 0⟩ : Pl) else ρ j).1 ∨ ∃ i, σ.live i ∧ (ρ i).1 = (if j = σ.next then (⟨B, cap, 0⟩ : Pl) else ρ j).1 := fun j hj => by
  by_cases e : j = σ.next
  ·exact .inl (by simp [e]; exact hB)
  ·exact .inr ⟨j, hl j hj e, by simp [e]⟩
 refine ⟨⟨fun j hj => ?_, fun j hj => ?_, fun i j hi hj e => ?_, fun j hj v hv => ?_, fun j hj => ?_, h.glob.next hb.size wO (fun i hi _ => hold i hi), h.ro.next (fun j hj => ?_) (fun j hj => ?_) hag hd (Nat.le_succ _) hb.size wO (fun i hi _ => hold i hi)⟩, hag, Nat.le_succ _, fun j hj => ?_, wO, fun i hi _ => hold i hi, hb.os, hb.tape, hb.output, hb.size, fun j hj => by
  rw [hg] at hj ⊢
  by_cases e : j = σ.next
  ·rw [if_pos e] at hj; exact absurd hj h5
  ·rw [if_neg e]⟩
 ·by_cases e : j = σ.next
  ·rw [hg, if_pos e]
   simp only [if_pos e]
   exact ho _
  ·rw [hg, if_neg e]
   simp only [if_neg e]
   have hj' := hl j hj e
   exact (h.blk j hj').keep (hold _ (h.blk j hj').lt) (h.sc j hj') (fun i hi => (hag i hi.1).symm)
 ·by_cases e : j = σ.next
  ·subst e; exact Nat.lt_succ_self _
  ·exact Nat.lt_succ_of_lt (h.lt j (hl j hj e))
 ·by_cases e1 : i = σ.next
  ·by_cases e2 : j = σ.next
   ·rw [e1, e2]
   ·have := (h.blk j (hl j hj e2)).lt
    simp only [if_pos e1, if_neg e2] at e
    omega
  ·by_cases e2 : j = σ.next
   ·have := (h.blk i (hl i hi e1)).lt
    simp only [if_neg e1, if_pos e2] at e
    omega
   ·simp only [if_neg e1, if_neg e2] at e
    exact h.inj i j (hl i hi e1) (hl j hj e2) e
 ·rw [hg] at hv
  by_cases e : j = σ.next
  ·rw [if_pos e] at hv
   exact (hs v hv).mono hd
  ·rw [if_neg e] at hv
   exact (h.sc j (hl j hj e) v hv).mono hd
 ·rw [hg, if_neg (by have : σ.next + 1 ≤ j := hj; omega)]
  exact h.fit j (by have : σ.next + 1 ≤ j := hj; omega)
 ·by_cases e : j = σ.next
  ·simp [e]
  ·simp only [if_neg e]; exact h.ro.1 j (hl j hj e)
 ·rw [hg] at hj ⊢
  by_cases e : j = σ.next
  ·rw [if_pos e] at hj; exact absurd hj h5
  ·rw [if_neg e]
 ·rw [hg, if_neg (Nat.ne_of_lt hj)]
theorem enters {g : Nat} {fn : Func} (hf : Tryz.prog.funcs[g]? = some fn) (hN : (fn.name == "runtime.NumGoroutine") = false) (hb : fn.body.isSome = true) (args : Array Value) (w : World) : (callFunc g args).run Tryz.prog w = .ok (.enter g args) w := by
 unfold callFunc
 have h2 : fn.body.isNone = false := by cases hq : fn.body with | none => rw [hq] at hb; cases hb | some c => rfl
 simp only [Sem.run_bind, run_program, Result.andThen_ok, hf, hN, h2, Bool.false_eq_true, if_false, Sem.run_pure]
theorem VN (w : World) (s : ByteArray) : Calls Tryz.prog 89 #[.string s] w fun e w' => e = .returned (.bool (qg s)) ∧ Below w.heap.size w w' := by
 cases hw : qg s
 ·exact Sm w s fun L hL => by
   rw [beq_eq_false_iff_ne]
   intro e
   have := (Ht s).2 (by rw [e]; exact hL)
   rw [hw] at this
   cases this
 ·exact VL w s _ rfl ((Ht s).1 hw)
theorem Ot : uo := by
 intro σ x
 refine ⟨_, _, ⟨fun args w => enters Tryz.func89 rfl rfl args w, fun ρ w hR _ => ?_⟩, rfl, rfl⟩
 refine Calls.mono (VN w x) ?_
 rintro e w' ⟨rfl, hb⟩
 exact ⟨ρ, rfl, yU hR hb, (gJ (v := .bool (qg x)) rfl).sc _⟩
theorem vX : ∀ (f : Nat) (l : List UInt8) (o k : Nat), (jI f l o k).2.2 = 0 → k ≤ 6001 → (∃ T e, (jI f l o k).1 = T ++ [((0, ⟨#[]⟩, 0, e) : Tk)]) ∧ (jI f l o k).1.length + k ≤ 6001
 | 0, _, _, _, h, _ => by simp [jI] at h
 | f + 1, [], o, k, h, hk => by
  unfold jI at h ⊢
  split at h
  ·simp at h
  ·rename_i h6
   rw [if_neg h6]
   exact ⟨⟨[], (o : Int), rfl⟩, by simp; omega⟩
 | f + 1, c :: r, o, k, h, hk => by
  unfold jI at h ⊢
  split at h
  ·rename_i hb
   rw [if_pos hb]
   exact vX f r (o + 1) k h hk
  ·rename_i hb
   rw [if_neg hb]
   split at h
   ·rename_i hm
    rw [if_pos hm]
    exact vX f _ _ k h hk
   ·rename_i hm
    rw [if_neg hm]
    split at h
    ·simp at h
    ·rename_i kind t n len e
     split at h
     ·simp at h
     ·rename_i h6
      rw [if_neg h6]
      by_cases h0 : (jI f ((c :: r).drop len) (o + len) (k + 1)).2.2 = 0
      ·obtain ⟨⟨T, e', h1⟩, h2⟩ := vX f _ _ (k + 1) h0 (by omega)
       unfold iL
       rw [if_pos h0, h1]
       rw [h1] at h2
       refine ⟨⟨_ :: T, e', rfl⟩, ?_⟩
       simp only [List.length_append, List.length_cons, List.length_nil] at h2 ⊢
       omega
      ·unfold iL at h
       rw [if_neg h0] at h
       exact absurd h h0
theorem Sv : ∀ (f : Nat) (l : List UInt8) (o k : Nat), (jI f l o k).2.2 ≠ 0 → (jI f l o k).1 = [] := fun f l o k => (rW f l o k).2
theorem zo (s : ByteArray) (h : (dw s).2.2 = 0) : (∃ T e, (dw s).1 = T ++ [((0, ⟨#[]⟩, 0, e) : Tk)]) ∧ (dw s).1.length ≤ 6001 := by
 unfold dw at h ⊢
 split at h
 ·simp at h
 ·rename_i h6
  rw [if_neg h6]
  exact vX _ _ _ 0 h (by omega)
theorem Sz (s : ByteArray) (h : (dw s).2.2 ≠ 0) : (dw s).1 = [] := by
 unfold dw at h ⊢
 split at h
 ·rename_i h6
  rw [if_pos h6]
 ·rename_i h6
  rw [if_neg h6]
  exact Sv _ _ _ _ h
theorem Ql (T : List Tk) : (jS T).all uH = true := by
 induction T with
 | nil => rfl
 | cons t T ih =>
  show ((sZ t ++ jS T).all uH) = true
  rw [List.all_append, ih]
  rfl
theorem SA (T : List Tk) : ji RN T = jS T := rfl
theorem Fj {ρ : Rn} {σ : AW} {w : World} (hR : Rel ρ σ w) : uw w := by
 obtain ⟨_, _, h⟩ := hR.glob (1, none) (by unfold globs; repeat (first | exact List.mem_cons_self .. | apply List.mem_cons_of_mem))
 exact h
theorem VO (σ : AW) (s : ByteArray) (hs : s.size ≤ 1000000) : C Tryz.prog 38 [.string s] σ fun v σ' =>
  (((dw s).2.2 ≠ 0 ∧ v = .tuple ⟨[.slice none 0 0, .int .i64 ((dw s).2.1 : Int), .int .i64 (dw s).2.2]⟩ ∧ σ' = σ) ∨
   ((dw s).2.2 = 0 ∧ v = .tuple ⟨[.slice (some ⟨σ.next, 0, none⟩) (dw s).1.length 1, .int .i64 ((dw s).2.1 : Int), .int .i64 (dw s).2.2]⟩ ∧ σ' = σ.push ⟨2, 100, 4, jS (dw s).1⟩)) := by
 by_cases h0 : (dw s).2.2 = 0
 ·refine ⟨_, _, ⟨fun args w => enters Tryz.func38 rfl rfl args w, fun ρ w hR _ => ?_⟩, .inr ⟨h0, rfl, rfl⟩⟩
  refine Calls.mono (LJ w s hs (.inl (Fj hR))) ?_
  rintro e w' ⟨v, rfl, ho, _, hb⟩
  obtain ⟨⟨T, e', hT⟩, _⟩ := zo s h0
  rcases ho.2 with ⟨_, hn⟩ | ⟨g, cap, cur, rfl, hg, hc, hle, _, hsz, htk⟩
  · rw [hT] at hn
    simp at hn
  · rw [SA] at htk
    obtain ⟨ρ', h1, hst⟩ := Sr (cap := cap) (b := ⟨2, 100, 4, jS (dw s).1⟩) hR hb hg (fun v hv => (kW (List.all_eq_true.1 (Ql _) v hv)).sc _) (fun ρ' => by
     show ∃ rest, _
     refine ⟨cur.toList.drop ((dw s).1.length * 4), ?_, ?_⟩
     ·rw [Ei (Ql _), ← htk, List.take_append_drop]
      exact hc
     ·show (jS _).length + _ = cap * 4
      rw [Ac, List.length_drop, Array.length_toList, hsz]
      omega)
    refine ⟨ρ', ?_, hst, pY fun u hu => ?_⟩
    ·rw [dU]
     simp only [List.map_toArray, List.map_cons, List.map_nil, kP, aZ, jd, oH, h1]
     rfl
    ·simp only [List.mem_cons, List.not_mem_nil, or_false] at hu
     rcases hu with rfl | rfl | rfl
     ·refine pX ⟨Nat.lt_succ_self _, ?_⟩
      rw [aA]
      exact (by decide : (2 : Nat) ≠ 4)
     ·exact (kW rfl).sc _
     ·exact (kW rfl).sc _
 ·refine ⟨_, _, ⟨fun args w => enters Tryz.func38 rfl rfl args w, fun ρ w hR _ => ?_⟩, .inl ⟨h0, rfl, rfl⟩⟩
  refine Calls.mono (LJ w s hs (.inl (Fj hR))) ?_
  rintro e w' ⟨v, rfl, ho, hv, hb⟩
  have := hv (Sz s h0)
  subst this
  refine ⟨ρ, rfl, yU hR hb, pY fun u hu => ?_⟩
  simp only [List.mem_cons, List.not_mem_nil, or_false] at hu
  rcases hu with rfl | rfl | rfl <;> exact (kW rfl).sc _
set_option maxHeartbeats 1000000 in
set_option maxRecDepth 100000 in
theorem Ou (b : Nat) (w : World) (h0 : w.cell? ⟨b, 0, none⟩ = some (.pointer (some ⟨b, 0, none⟩))) :
  Calls Tryz.prog 165 #[.pointer (some ⟨b, 0, none⟩)] w fun e w' => e = .returned (.tuple #[]) ∧ w' = w := by
 obtain ⟨j, hj⟩ : ∃ j, Tryz.prog.info? 71 = some j := ⟨_, rfl⟩
 have hp : Tryz.prog.underlying 68 = some (.pointer 71) := by kernel_rfl
 go_enter Tryz.func165, Tryz.ntmps165
 go_wp2
 rw [Lib.run_neq_ptr_same _ _ hp hj]
 go_wp2
 go_end0
 exact ⟨rfl, rfl⟩
set_option maxHeartbeats 1000000 in
set_option maxRecDepth 100000 in
theorem LK (b E n : Nat) (w : World) (h0 : w.cell? ⟨b, 0, none⟩ = some (.pointer none)) (hsh : w.shape? b = some (E, n)) (hn : 0 < n) (hl : liesAt Tryz.prog Tryz.prog.depth E (n / Tryz.prog.cellsOf E) 0 71 1 = true) (hfz : w.frozen? ⟨b, 0, none⟩ = false) :
  Calls Tryz.prog 165 #[.pointer (some ⟨b, 0, none⟩)] w fun e w' => e = .returned (.tuple #[]) ∧ w' = w.setCell ⟨b, 0, none⟩ (.pointer (some ⟨b, 0, none⟩)) := by
 obtain ⟨j, hj, hjs⟩ : ∃ j, Tryz.prog.info? 71 = some j ∧ j.size ≠ 0 := ⟨_, rfl, by decide⟩
 have hp : Tryz.prog.underlying 68 = some (.pointer 71) := by kernel_rfl
 have hu : Tryz.prog.underlying 184 = some .unsafePointer := by kernel_rfl
 go_enter Tryz.func165, Tryz.ntmps165
 go_wp2
 rw [Lib.run_to_unsafe w ⟨b, 0, none⟩ hp hu hj hjs hsh hn]
 simp only [Result.andThen]
 rw [Oper.upon_value]
 go_wp2
 rw [run_callFunc_extern Tryz.func184 (by kernel_rfl) (by kernel_rfl) (by kernel_rfl) (e := Extern.AbiNoEscape.same) (by kernel_rfl)]
 rw [Lib.run_noEscape]
 simp only [Result.andThen]
 rw [Oper.upon_value]
 go_wp2
 rw [Lib.run_from_unsafe w ⟨b, 0, none⟩ hu hp hj hsh hl]
 simp only [Result.andThen]
 rw [Oper.upon_value]
 go_wp2
 go_end0
 exact ⟨rfl, rfl⟩
set_option maxHeartbeats 2000000 in
set_option maxRecDepth 100000 in
theorem LM (b g cap : Nat) (l : List UInt8) (cur : Array Value) (w : World) (h0 : l ≠ []) (c0 : w.cell? ⟨b, 1, none⟩ = some (.slice (some ⟨g, 0, none⟩) l.length cap)) (hg : w.heap[g]? = some (.cells cur 5 (0, 0)))
  (hc : l.length ≤ cap) (hm : l.length ≤ maxLen) (hsz : cur.size = cap) (ht : cur.toList.take l.length = Lib.byteCells l) :
  Calls Tryz.prog 26 #[.pointer (some ⟨b, 0, none⟩)] w fun e w' => e = .returned (.string ⟨l.toArray⟩) ∧ w' = w.drew.freeze ⟨g, 0, none⟩ l.length := by
 have hl0 : l.length ≠ 0 := by simpa using h0
 have c1 : w.drew.cell? ⟨b, 1, none⟩ = some (.slice (some ⟨g, 0, none⟩) l.length cap) := c0
 have hbp : Tryz.prog.underlying 116 = some (.pointer 5) := by kernel_rfl
 have hb1 : Tryz.prog.cellsOf 5 = 1 := by kernel_rfl
 have hSD : (Builtin.unsafeSliceData_ #[69] 116 #[.slice (some ⟨g, 0, none⟩) l.length cap]).run Tryz.prog w.drew = .ok (.pointer (some ⟨g, 0, none⟩)) w.drew :=
  Lib.run_unsafeSliceData_row _ _ _ _ _ _ (by omega)
 have hUS : (Builtin.unsafeString_ #[116, 3] 9 #[.pointer (some ⟨g, 0, none⟩), .int .i64 l.length]).run Tryz.prog w.drew = .ok (.string ⟨l.toArray⟩) (w.drew.freeze ⟨g, 0, none⟩ l.length) := by
  refine Lib.run_unsafeString_row w.drew 116 3 9 5 hbp hb1 g cur.size (by have hg' : w.drew.heap[g]? = some (.cells cur 5 (0, 0)) := hg; simp [World.shape?, hg']) l h0 (by omega) (by unfold maxLen at hm; omega) ?_
  intro j x hx
  have hj : j < l.length := (List.getElem?_eq_some_iff.1 hx).1
  have e1 : (cur.toList.take l.length)[j]? = some (.int .u8 x.toNat) := by rw [ht]; simp [Lib.byteCells, hx]
  rw [List.getElem?_take_of_lt hj] at e1
  have hg' : w.drew.heap[g]? = some (.cells cur 5 (0, 0)) := hg
  rw [show (⟨g, 0, none⟩ : Addr).add j = ⟨g, j, none⟩ by unfold Addr.add; split <;> simp_all, Lib.cell_of_heap hg']
  simpa using e1
 go_enter Tryz.func26, Tryz.ntmps26
 go_wp2
 go_region
 all_goals (go_wp2; go_ret; exact ⟨rfl, rfl⟩)
set_option maxHeartbeats 2000000 in
set_option maxRecDepth 100000 in
theorem LP (b : Nat) (w : World) (c0 : w.cell? ⟨b, 1, none⟩ = some (.slice none 0 0)) :
  Calls Tryz.prog 26 #[.pointer (some ⟨b, 0, none⟩)] w fun e w' => e = .returned (.string ⟨#[]⟩) ∧ w' = w.drew := by
 have c1 : w.drew.cell? ⟨b, 1, none⟩ = some (.slice none 0 0) := c0
 have hUS : (Builtin.unsafeString_ #[116, 3] 9 #[.pointer none, .int .i64 0]).run Tryz.prog w.drew = .ok (.string .empty) w.drew := Lib.run_unsafeString_none w.drew _ _ _ _
 have hSD : (Builtin.unsafeSliceData_ #[69] 116 #[.slice none 0 0]).run Tryz.prog w.drew = .ok (.pointer none) w.drew := rfl
 go_enter Tryz.func26, Tryz.ntmps26
 go_wp2
 go_region
 all_goals (go_wp2; go_ret; exact ⟨rfl, rfl⟩)
end Go.Proofs.YthogkmcahnkkoaaGreatDoor
namespace Go.Proofs.YthogkmcahnkkoaaGreatDoor
def zq (vars procs body : List Tr) : Tr := .agg ⟨[sl 2 vars, sl 4 procs, sl 9 body]⟩
theorem bQ.type : bQ acW := (bQ.takeAny _).bind fun o => by
 cases o with
 | some w => exact .pure _
 | none => exact (bQ.refuse _).bind fun _ => .pure _
end Go.Proofs.YthogkmcahnkkoaaGreatDoor
namespace Go.Proofs.YthogkmcahnkkoaaGreatDoor
open Go.RowKit
set_option maxRecDepth 10000
set_option linter.unusedSimpArgs false
set_option linter.unusedVariables false
section
variable {r b : Nat} {T : List Tk}
end
section
variable {r b : Nat} {T : List Tk}
end
end Go.Proofs.YthogkmcahnkkoaaGreatDoor
namespace Go.Proofs.YthogkmcahnkkoaaGreatDoor
open Go.RowKit
section
variable {P : Program}
structure Ext (ops DN : Array Oper) (j i : Nat) : Prop where
 size : DN.size = ops.size
 same : ∀ k, k ≠ j → DN[k]? = ops[k]?
 more : ∃ o, ops[j]? = some o ∧ DN[j]? = some { o with after := o.after.push ⟨i, .data⟩ }
theorem Ext.yields {ops DN : Array Oper} {j i : Nat} (h : Ext ops DN j i) (tm : Array Value) : yielded DN tm = yielded ops tm := by
 funext k
 unfold yielded
 by_cases hk : k = j
 ·obtain ⟨o, h1, h2⟩ := h.more
  rw [hk, h1, h2]
  rfl
 ·rw [h.same k hk]
theorem Ext.wp {ops DN : Array Oper} {j i : Nat} (h : Ext ops DN j i) {Q : Exit → Act → World → Prop} {k : Nat} {K : Act → World → Prop} {a : Act} {w : World} (hw : wpOp P DN Q k K a w) : wpOp P ops Q k K a w := by
 unfold wpOp at *
 rw [h.yields] at hw
 by_cases hk : k = j
 ·obtain ⟨o, h1, h2⟩ := h.more
  subst hk
  rw [h2] at hw
  rw [h1]
  exact hw
 ·rw [h.same k hk] at hw
  exact hw
theorem Ext.ready {ops DN : Array Oper} {j i : Nat} (h : Ext ops DN j i) {md : Region.Mode} {L : Array Bool} {k : Nat} (hk : k ∈ Region.ready md DN L) : k ∈ Region.ready md ops L := by
 rw [mem_ready] at hk ⊢
 obtain ⟨h0, o, ho, he⟩ := hk
 by_cases hj : k = j
 ·obtain ⟨o1, h1, h2⟩ := h.more
  subst hj
  rw [h2] at ho
  injection ho with ho
  subst ho
  exact ⟨h0, o1, h1, fun e hm hb => he e (by simp [hm]) hb⟩
 ·rw [h.same k hj] at ho
  exact ⟨h0, o, ho, he⟩
end
end Go.Proofs.YthogkmcahnkkoaaGreatDoor
namespace Go.Proofs.YthogkmcahnkkoaaGreatDoor
open Go.RowKit
set_option maxRecDepth 10000
set_option linter.unusedSimpArgs false
set_option linter.unusedVariables false
def Hu (σ : AW) (N e : Nat) (v : Value) (ws : List ByteArray) : Prop := ∃ B c k z, v = .slice (some ⟨B, 0, none⟩) ws.length c ∧ σ.get B = ⟨k, e, z, ws.map Value.string⟩ ∧ ((k = 1 ∧ c = 2 * ws.length ∧ z = 1) ∨ (k = 2 ∧ c = 1 ∧ z = 1)) ∧ N ≤ B ∧ B < σ.next
theorem Hw {σ : AW} {D : Nat → Prop} : ∀ ws : List ByteArray, nG σ D (ws.map Value.string) (ws.map Value.string)
 | [] => rfl
 | w :: ws => ⟨_, _, rfl, rfl, Hw ws⟩
theorem Ov (ws : List ByteArray) : (ws.map Value.string).flatMap aF = ws.map Value.string := by
 induction ws with
 | nil => rfl
 | cons w ws ih => rw [List.map_cons, List.flatMap_cons, ih]; rfl
theorem Hu.rd {σ : AW} {N e : Nat} {v : Value} {ws : List ByteArray} (h : Hu σ N e v ws) : Rd σ (fun k => N ≤ k) (sl 1 (ws.map Value.string)) v := by
 obtain ⟨B, c, k, z, rfl, h2, h3, h4, h5⟩ := h
 refine oO.2 ⟨ws.map Value.string, Hw ws, .inr ⟨B, 0, c, k, e, z, _, by rw [List.length_map], h2, h3.imp (·.1) (.inl ·.1), ?_, h5, h4, ?_, fun u hu => ?_⟩⟩
 ·rcases h3 with ⟨_, _, rfl⟩ | ⟨_, _, rfl⟩ <;> decide
 ·rw [List.drop_zero, List.take_of_length_le (by simp), Ov]
 ·obtain ⟨w, _, rfl⟩ := List.mem_map.1 hu
  rfl
theorem Hu.gr {r : Nat} {σ σ' : AW} {N e : Nat} {v : Value} {ws : List ByteArray} (h : Hu σ N e v ws) (g : Gr r σ σ') (hr : r < N) : Hu σ' N e v ws := by
 obtain ⟨B, c, k, z, h1, h2, h3, h4, h5⟩ := h
 exact ⟨B, c, k, z, h1, by rw [g.get B h5 (by omega)]; exact h2, h3, h4, Nat.lt_of_lt_of_le h5 g.next⟩
section
variable {r b : Nat} {T : List Tk}
end
end Go.Proofs.YthogkmcahnkkoaaGreatDoor
