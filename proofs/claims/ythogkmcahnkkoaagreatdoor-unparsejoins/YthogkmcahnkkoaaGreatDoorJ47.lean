/- From a contract to a row that lists variables: the library's variables that the program's library looks at. -/
import Derived.Test.YthogkmcahnkkoaaGreatDoorRows
import Derived.Test.YthogkmcahnkkoaaGreatDoorJ26
import Derived.Handed
import Derived.LaidSub
import Derived.MakeChecks
namespace Go.Proofs.YthogkmcahnkkoaaGreatDoor
open Go Go.RowKit
set_option maxRecDepth 100000 in
theorem JL {H : Type} {enc : TypeId × Value → H} {os : Os} {f : FuncId} {fn : Func} {s : ChangeSpec} {apart fresh handsOn again : Bool} {X : World → Prop}
  (own : ownKnob Tryz.prog.godebug = none) (started : os.Started) (noInit : Tryz.prog.inits.idxOf? f = none) (hfn : Tryz.prog.funcs[f]? = some fn)
  (witness : ∃ (w : World) (tape : Tape) (i : Input), w.os = os ∧ (w.forCall tape i).Shaped Tryz.prog ∧ i.vars = [] ∧ Input.okWide Tryz.prog (w.forCall tape i) .any w.heap.size f i ∧
   ((s.pre enc Tryz.prog fn [] apart (w.forCall tape i).memory i.args ∧ X (w.forCall tape i).memory) ∧ sizedMet enc Tryz.prog fn (OpenSpec.ofChange s) apart (w.forCall tape i).memory i.args) ∧ ({} : Assume).holds Tryz.prog (lone (Frame.enter Tryz.prog f i.args .normal) [] (w.forCall tape i)))
  (contract : ∀ (W : World) (base : Nat) (args : Array Value) (ds gs : List (DataW H)) (before : List MemPlace),
   (∀ (j : Nat) t v, fn.params[j]? = some t → args[j]? = some v → Value.okWide Tryz.prog W .any base t v) → DataW.Whole enc Tryz.prog fn.params.toList s.vars apart W args.toList ds gs before → W.ShapedOpen Tryz.prog → X W.memory →
   Calls Tryz.prog f args W fun e W' => ∃ v, e = .returned v ∧ s.post enc Tryz.prog fn apart fresh handsOn again W args v W') :
  ReturnsInHanded {} Tryz.checked os f .any (fun w args => (s.pre enc Tryz.prog fn [] apart w args ∧ X w) ∧ sizedMet enc Tryz.prog fn (OpenSpec.ofChange s) apart w args) (s.post enc Tryz.prog fn apart fresh handsOn again) := by
 refine returnsInHanded_of_calls (C := Tryz.checked) own started noInit witness ?_
 intro w tape i _ hsh _ hok hpre _
 obtain ⟨_, _, _, fn', hfn', _, _, _, _, hval⟩ := hok
 obtain rfl : fn' = fn := Option.some.inj (hfn'.symm.trans hfn)
 obtain ⟨⟨⟨ds, gs, before, hw, _⟩, hX⟩, _⟩ := hpre
 refine (contract (w.forCall tape i) w.heap.size i.args ds gs before hval (DataW.Whole.of_heap (w' := w.forCall tape i) (by rfl) hw) hsh hX).mono fun e W' ⟨v, he, hp⟩ => ?_
 subst he
 exact ChangeSpec.post_blind hp
set_option maxRecDepth 100000 in
theorem XK {W : World} (h : laidMetH Tryz.prog Rows.unparseJoinsRow.laid W.memory) (hsh : W.ShapedOpen Tryz.prog) : Uu W := by
 unfold Rows.unparseJoinsRow at h
 rw [MakeChecks.laidMetH_plain _ _ _ (by kernel_rfl)] at h
 have h1 := laidMet.filter (fun x => x.1 == "internal/strconv.uint64pow10") h
 have h2 : laidMet Tryz.prog [("internal/strconv.uint64pow10", Lib.tabData .u64 Lib.pow10Tab)] W.memory := h1
 have h3 := Lib.tabIs_of_head (P := Tryz.prog) (g := 0) (t := 188) (e := 172) (n := 20) (by kernel_rfl) (by kernel_rfl) Tryz.underlying188 Tryz.underlying172 (by kernel_rfl) (by kernel_rfl) h2
 obtain ⟨m, hm⟩ := Tryz.laysM138.s1_3 W hsh
 have hlt : ∀ {b : Nat} {o : Obj}, W.heap[b]? = some o → b < W.heap.size := fun h => (Array.getElem?_eq_some_iff.1 h).1
 have h4 : ∃ t f, W.heap[0]? = some (.cells (Lib.pow10Tab.map fun z => Value.int .u64 z).toArray t f) := by
  have hg : Tryz.prog.globalNamed "internal/strconv.uint64pow10" = some 0 := by kernel_rfl
  unfold Lib.TabIs World.var? at h3
  rw [hg] at h3
  simp only [Option.bind_some] at h3
  split at h3
  ·rename_i cs t f hh
   injection h3 with h3
   exact ⟨t, f, (show W.heap[_]? = _ from hh).trans (by rw [h3])⟩
  ·cases h3
 intro g hgm
 unfold globs at hgm
 simp only [List.mem_cons, List.not_mem_nil, or_false] at hgm
 rcases hgm with rfl | rfl
 ·obtain ⟨t, f, hh⟩ := h4
  exact ⟨hlt hh, t, f, hh⟩
 ·refine ⟨?_, m, hm⟩
  unfold World.cell? at hm
  split at hm
  ·rename_i hh
   exact hlt hh
  ·cases hm
end Go.Proofs.YthogkmcahnkkoaaGreatDoor
