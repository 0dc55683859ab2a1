/- The statement UnparseJoins: for every input the law returns true, and each argument reads afterwards as it read before; two tables of the library's read as its text lays them, which the card ties. -/
import Derived.Test.YthogkmcahnkkoaaGreatDoorCards
import Derived.Test.YthogkmcahnkkoaaGreatDoorTie
import Derived.Test.YthogkmcahnkkoaaGreatDoorJ46
import Derived.Test.YthogkmcahnkkoaaGreatDoorJ47
import Derived.OpenShut
import Derived.ShutString
import Derived.ChangeOld
import Derived.Lib.SmallJoins
import Derived.Lay
import Derived.SevenTiedAt
namespace Go.Proofs.YthogkmcahnkkoaaGreatDoor.unparseJoins
open Go.ChangeShapes Go.WideShapes Go.ChangeAt Go.RowKit Go.Joins
open Go.ChangeMaps (open_string shut_string)
def FX : List TypeId := [26, 22, 52, 23, 36, 24, 54, 38, 9, 3, 4, 39, 42, 40, 61, 57, 87, 58, 92, 59, 89]
theorem QB : JI Tryz.prog FX = true := by kernel_rfl
theorem own : ownKnob Tryz.prog.godebug = none := by kernel_rfl
theorem laidOut : laidOutB Tryz.prog = true := by kernel_rfl
set_option maxRecDepth 100000 in
theorem lifted (os : Os) (started : os.Started) (H : Type) (enc : TypeId × Value → H) :
  ReturnsInHanded {} Tryz.checked os 3 .any (fun w args => (Rows.unparseJoinsSpec.pre enc Tryz.prog Tryz.f3 [] false w args ∧ laidMetH Tryz.prog Rows.unparseJoinsRow.laid w) ∧ sizedMet enc Tryz.prog Tryz.f3 (OpenSpec.ofChange Rows.unparseJoinsSpec) false w args)
   (Rows.unparseJoinsSpec.post enc Tryz.prog Tryz.f3 false true false false) := by
 refine JL (X := fun w => laidMetH Tryz.prog Rows.unparseJoinsRow.laid w) own started (by kernel_rfl) Tryz.func3
  (ChangeSpec.witness_shaped (enc := enc) (C := Tryz.checked) (os := os) (X := fun w _ => laidMetH Tryz.prog Rows.unparseJoinsRow.laid w) false (World.laidAll Tryz.prog os Rows.unparseJoinsRow.laid) #[.agg #[.slice none 0 0, .slice none 0 0, .slice none 0 0], .agg #[.slice none 0 0, .slice none 0 0, .slice none 0 0]] 8 (World.laidAll_os _ _ _)
   (World.shaped_of_ZipB (by kernel_rfl) (by kernel_rfl)) (by kernel_rfl) (by kernel_rfl) (by kernel_rfl)
   (by rw [MakeChecks.laidMetH_plain _ _ _ (by kernel_rfl)]; exact laidMet_laidAll _ (by kernel_rfl) (by kernel_rfl))) ?_
 intro W base args ds gs before hval0 hW hsh hX
 have hG := XK hX hsh
 have hval : ∀ (j : Nat) t v, Tryz.f3.params[j]? = some t → args[j]? = some v → Value.okWide Tryz.prog W .any base t v := hval0
 have hW' := hW
 obtain ⟨p, q, hA0, hV, rfl, hfz, hnd⟩ := hW
 have hA : DataW.TrodAll enc Tryz.prog W 0 (fun _ => true) true Tryz.f3.params.toList args.toList ds p := hA0
 rw [Tryz.params3] at hA hval
 obtain ⟨v0, vs0, d0, ds0, p0, q0, hargs, rfl, rfl, h0, r0⟩ := trodAll_cons hA
 obtain ⟨v1, vs1, d1, ds1, p1, q1, rfl, rfl, rfl, h1, r1⟩ := trodAll_cons r0
 obtain ⟨rfl, rfl, rfl⟩ := trodAll_nil r1
 obtain rfl : args = #[v0, v1] := by cases args; simp_all
 obtain ⟨rfl, rfl⟩ := trodVars_none hV
 have k0 := h0
 have lt0 : ∀ x ∈ p0, x.block < W.heap.size := by obtain ⟨m, hm⟩ := k0; exact DataW.trod_lt m _ _ _ hm
 have k1 := h1
 have lt1 : ∀ x ∈ p1, x.block < W.heap.size := by obtain ⟨m, hm⟩ := k1; exact DataW.trod_lt m _ _ _ hm
 obtain ⟨cs0, rfl, _⟩ := okWide_struct Tryz.underlying26 (hval 0 26 v0 rfl rfl)
 obtain ⟨cs1, rfl, _⟩ := okWide_struct Tryz.underlying26 (hval 1 26 v1 rfl rfl)
 obtain ⟨n0, ρ0, σ0, l0, t0, L0, e0, sc0, rd0, ty0, _, _⟩ := Dz (T := FX) QB (TV W hG) (t := 26) (by unfold FX; exact List.mem_cons_self) h0
 obtain ⟨n1, ρ1, σ1, l1, t1, L1, e1, sc1, rd1, ty1, _, _⟩ := Dz (T := FX) QB L0.toLaid (t := 26) (by unfold FX; exact List.mem_cons_self) h1
 obtain ⟨va, pa, ba, q0e, a1, a2, a3, a4, a5⟩ := Iq ty0
 obtain ⟨vb, pb, bb, q1e, b1, b2, b3, b4, b5⟩ := Iq ty1
 have R0 : bW (zq va pa ba) (.agg ⟨l0⟩) σ1 := q0e ▸ L1.rd rd0
 have R1 : bW (zq vb pb bb) (.agg ⟨l1⟩) σ1 := q1e ▸ rd1
 have E0 : (.agg cs0 : Value) = ren ρ1 (.agg ⟨l0⟩) := e0.trans (L1.sc sc0).2.symm
 have key := O6 (xs := [.agg ⟨l0⟩, .agg ⟨l1⟩]) L1.toLaid (by
  intro x hx
  simp only [List.mem_cons, List.not_mem_nil, or_false] at hx
  rcases hx with rfl | rfl
  ·exact (L1.sc sc0).1
  ·exact sc1) (ZW a1 a2 a3 a4 a5 b1 b2 b3 b4 b5 R0 R1)
 rw [List.map_cons, List.map_cons, List.map_nil, ← E0, ← e1] at key
 clear hA0 hval0
 refine key.mono fun e W' ⟨he, bel⟩ => ?_
 subst he
 exact ⟨_, rfl, _, _, _, [], _, [], hW', trodAll_mk1 (shut_bool Tryz.underlying4 _), (trodAll_cons_mk (Below.trod laidOut (by kernel_rfl) (of_decide_eq_true (by kernel_rfl)) k0 bel lt0) (trodAll_cons_mk (Below.trod laidOut (by kernel_rfl) (of_decide_eq_true (by kernel_rfl)) k1 bel lt1) trodAll_mk0)), rfl, bel.frame _, fun h => by cases h⟩
theorem over : Rows.unparseJoinsRow.holds Tryz.pinned (OpenSpec.ofChange Rows.unparseJoinsSpec) :=
 OpenClaim.holds_of_wide 3 Tryz.f3 rfl rfl rfl rfl rfl rfl rfl ⟨rfl, rfl, rfl, rfl, rfl⟩ rfl rfl rfl rfl rfl (by kernel_rfl) Tryz.func3 (by kernel_rfl)
  (of_decide_eq_true (by kernel_rfl)) (by unfold Func.isWrapper; first | (rw [if_pos (by decide +kernel)]; kernel_rfl) | (rw [if_neg (by decide +kernel)]; exact ⟨rfl, rfl⟩))
  (fun os started H enc _ => lifted os started H enc)
end Go.Proofs.YthogkmcahnkkoaaGreatDoor.unparseJoins
namespace Go.Proofs.YthogkmcahnkkoaaGreatDoor
theorem unparseJoins_holds : Rows.UnparseJoinsCardSaid :=
 Claim7.holds_tied_plain_at .later [] [.data, .data, .data, .data, .pinned] true Rows.unparseJoinsCard.stood.harness false unparseJoins.over (fun _ h => by cases h) (by kernel_rfl) (fun _ h => by cases h) unparseJoins_row_tie rfl ⟨rfl, rfl⟩ (by kernel_rfl) rfl
  (fun f fn hf hfn => by
   obtain rfl : f = 3 := Option.some.inj ((show Tryz.prog.funcNamed Rows.unparseJoinsRow.func = some 3 by kernel_rfl).symm.trans hf) |>.symm
   obtain rfl : fn = Tryz.f3 := (Option.some.inj (Tryz.func3.symm.trans hfn)).symm
   exact ⟨by kernel_rfl, fun j t ht => by
    rw [Tryz.params3] at ht
    have hall : ([26].all fun u => !Tryz.prog.wantsStandIn u) = true := by kernel_rfl
    have hm : t ∈ [26] := by
     have := Array.mem_of_getElem? ht
     simp at this
     simp
     omega
    exact (show Tryz.prog.wantsStandIn t = false by simpa using List.all_eq_true.1 hall t hm)⟩)
  (by kernel_rfl)
#print axioms unparseJoins_holds
end Go.Proofs.YthogkmcahnkkoaaGreatDoor
