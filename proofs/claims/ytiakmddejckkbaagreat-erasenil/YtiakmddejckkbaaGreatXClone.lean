/- maps.Clone at the store's maps: a new map with the same entries. -/
import Derived.Test.YtiakmddejckkbaaGreatXTab
import Derived.Test.YtiakmddejckkbaaGreatChecked
import Derived.WalkKit
import Derived.WalkLawsBesides
import Derived.Laws.Externs
import Derived.MapKept
namespace Go.Proofs.YtiakmddejckkbaaGreat
open Go.RowKit

section
variable {P : Program} (w : World)
theorem run_equal_mapnil (d : Nat) (t k e : TypeId) (p : Option Nat) (h : P.underlying t = some (.map k e)) : (Op.equalIn (d + 1) t (.map p) (.map none)).run P w = .ok p.isNone w := by
  cases p <;> simp [Op.equalIn, run_underlying h]
theorem run_eql_mapnil (t k e : TypeId) (p : Option Nat) (h : P.underlying t = some (.map k e)) : (binOp .eql t (.map p) (.map none)).run P w = .ok (.bool p.isNone) w := by
  simp only [binOp]
  simp [show Op.equal t (.map p) (.map none) = Op.equalIn (9999 + 1) t (.map p) (.map none) from rfl, run_equal_mapnil w 9999 t k e p h]
theorem run_assert_map (t xT k e : TypeId) (v : Value) (h : P.underlying t = some (.map k e)) : (Instr.typeAssert (.iface t v) xT t false).run P w = .ok v w := by
  simp [Instr.typeAssert, run_underlying h, go_sem, Result.andThen]
theorem run_clone_map {r : Nat} {es : Array MapEntry} {clock : Nat} (t : TypeId) (hb : w.heap[r]? = some (.map es clock)) :
    (Extern.MapsClone.clone #[.iface t (.map (some r))]).run P w = .ok (.iface t (.map (some w.heap.size))) (w.alloc (.map es clock)) := by
  have e : Extern.MapsClone.clone #[.iface t (.map (some r))] = (getObj r >>= fun o => match o with
      | .map entries clock => (newObj (.map entries clock) >>= fun n => pure (.iface t (.map (some n))))
      | _ => stuck "maps.clone: a map expected") := rfl
  rw [e]
  simp [MapKept.run_getObj_map hb, Result.andThen, go_sem]
end

set_option maxRecDepth 100000 in
set_option maxHeartbeats 1000000 in
theorem clone_call (b : Nat) (es : Array MapEntry) (clock : Nat) (w : World) (hb : w.heap[b]? = some (.map es clock)) :
    Calls Tryz.prog 81 #[.map (some b)] w fun e w' => e = .returned (.map (some w.heap.size)) ∧ w' = w.alloc (.map es clock) := by
  have hq := fun w => run_eql_mapnil (P := Tryz.prog) w 82 _ _ (some b) Tryz.underlying82
  go_enter Tryz.func81, Tryz.ntmps81
  go_wp2
  rw [run_callFunc_extern Tryz.func122 (by kernel_rfl) (by kernel_rfl) (by kernel_rfl) (e := Extern.MapsClone.clone) (by kernel_rfl), run_clone_map w 82 hb]
  simp only [Result.andThen]
  rw [Oper.upon_value]
  go_wp2
  rw [run_assert_map _ 82 _ _ _ _ Tryz.underlying82]
  simp only [Result.andThen]
  rw [Oper.upon_value]
  go_wp2
  go_ret
  exact ⟨rfl, rfl⟩

/-- It, reckoned. -/
def cloneX : CallA := fun g xs σ => match Nat.beq g 81 with
  | true => (match xs with
    | [.map (some k)] => (match σ.get k with
      | ⟨3, _, _, cs⟩ => some (.map (some σ.next), σ.push ⟨3, 0, 0, cs⟩)
      | _ => none)
    | _ => none)
  | false => none
theorem cloneX_ok (hN : ∀ (g : Nat) (fn : Func), Tryz.prog.funcs[g]? = some fn → (fn.name == "runtime.NumGoroutine") = false) : CallOK Tryz.prog cloneX := by
  intro g xs σ v σ' h
  unfold cloneX at h
  split at h
  · rename_i hg
    have hg := Nat.eq_of_beq_eq_true hg
    subst hg
    split at h
    · rename_i k
      split at h
      · rename_i e z cs hk
        injection h with h
        injection h with h1 h2
        subst h1 h2
        refine ⟨enter_run hN Tryz.func81 rfl, fun ρ w hR _ => ?_⟩
        obtain ⟨hl, hb⟩ := map_blk hR hk
        have hsc := hR.sc _ hl
        rw [hk] at hsc
        obtain ⟨ρ', hn, hst⟩ := step_new (cap := 0) (b := ⟨3, 0, 0, cs⟩) (o := .map (entries 0 (cs.map (ren ρ))).toArray (cs.length / 2)) hR (by simp) hsc (fun ρ' ea w' hw => by
          show w'.heap[w.heap.size]? = _
          rw [hw, map_sc hsc (fun k hk => ea k hk.1)])
        refine Calls.mono (clone_call (ρ k).1 _ _ w hb) ?_
        rintro r w' ⟨rfl, rfl⟩
        exact ⟨ρ', by rw [ren_map, hn], hst, sc_map (push_dom (by simp))⟩
      · cases h
    · cases h
  · cases h

end Go.Proofs.YtiakmddejckkbaaGreat
