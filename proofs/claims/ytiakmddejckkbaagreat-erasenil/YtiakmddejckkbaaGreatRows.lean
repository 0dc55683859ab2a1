/-
  No cell of these rows narrows 'for every input' (looked for: loops, veiled, ifaces, maps, wideKeys, modest, calm, conditions, laid).
  DERIVED. THE GIVEN ROWS OF THIS SEAT. 3 by the template 'for every input the law returns true; each argument reads behind the call as it read before'; 0 by the template 'total and deterministic' (their statements: YtiakmddejckkbaaGreatTotals.lean).
  GIVEN WITH THE SEED: the statements are not yours to turn. If you find one false, say at which input.
  Laid BY PROGRAM, IN A SANDBOX (cutbox-rows.mjs): the forced cells as the released guide's own fill.sh prints them over the translation 99fb6bdba498e384… (all of the seat's roots in one cut). By AI agents, Wed Nov 11 2026. No macro, syntax, notation, axiom, sorry.
-/
import Derived.Test.YtiakmddejckkbaaGreatChecked
import GoSem.Claim
import GoSem.ClaimJoined
import GoSem.ClaimMapViews
import Derived.JoinedTies
import Derived.KernelRfl
namespace Go.Proofs.YtiakmddejckkbaaGreat
/- THE CELL 'sum', in the pinned program and in every row, IS THE sha256 OF THE DUMP (.gsa) THAT YtiakmddejckkbaaGreatProg.lean LOADS. Nothing in Lean hashes anything: it is a label: what it is worth is what the hold of that sum in a sandbox is worth. -/
noncomputable def Tryz.pinned : Pinned := { name := "ytiakmddejckkbaagreat", sum := "99fb6bdba498e384c7aadfb5f95c0d12a98a7b6c2a20d82a2dfa3939abc0546d", checked := Tryz.checked }
namespace Rows
def none {H : Type} : Left H := { results := [], args := [] }

/-- 'cordonlaw08.SchemaNil': WHATEVER THE INPUT: true; the input reads as it did. -/
def schemaNilSpec : ChangeSpec := { name := "schemaNil", fn := fun _ => fun
  | [d] => { results := [.lit (.bool true)], args := [d] }
  | _ => none }
def schemaNilRow : OpenClaim := { program := "ytiakmddejckkbaagreat", sum := "99fb6bdba498e384c7aadfb5f95c0d12a98a7b6c2a20d82a2dfa3939abc0546d", func := "cordon/cordonlaw08.SchemaNil", spec := "schemaNil", unfollowed := true, recurses := true, plainKeys := false, apart := false }
def SchemaNilSaid : Prop := schemaNilRow.holds Tryz.pinned (OpenSpec.ofChange schemaNilSpec)

/-- ITS FALSE NEIGHBOUR: 'it returns false'. Refute it at one input. -/
def schemaNilWrong : ChangeSpec := { name := "schemaNil", fn := fun _ => fun
  | [d] => { results := [.lit (.bool false)], args := [d] }
  | _ => none }
def SchemaNilWrongFalsely : Prop := schemaNilRow.holds Tryz.pinned (OpenSpec.ofChange schemaNilWrong)

/-- 'cordonlaw12.StoreNil': WHATEVER THE INPUT: true; the input reads as it did. -/
def storeNilSpec : ChangeSpec := { name := "storeNil", fn := fun _ => fun
  | [d1, d2] => { results := [.lit (.bool true)], args := [d1, d2] }
  | _ => none }
def storeNilRow : OpenClaim := { program := "ytiakmddejckkbaagreat", sum := "99fb6bdba498e384c7aadfb5f95c0d12a98a7b6c2a20d82a2dfa3939abc0546d", func := "cordon/cordonlaw12.StoreNil", spec := "storeNil", inPlace := ["maps.clone"], unfollowed := true, recurses := true, plainKeys := false, apart := false }
def StoreNilSaid : Prop := storeNilRow.holds Tryz.pinned (OpenSpec.ofChange storeNilSpec)

/-- ITS FALSE NEIGHBOUR: 'it returns false'. Refute it at one input. -/
def storeNilWrong : ChangeSpec := { name := "storeNil", fn := fun _ => fun
  | [d1, d2] => { results := [.lit (.bool false)], args := [d1, d2] }
  | _ => none }
def StoreNilWrongFalsely : Prop := storeNilRow.holds Tryz.pinned (OpenSpec.ofChange storeNilWrong)

/-- 'cordonlaw20.EraseNil': WHATEVER THE INPUT: true; the input reads as it did. -/
def eraseNilSpec : ChangeSpec := { name := "eraseNil", fn := fun _ => fun
  | [d1, d2] => { results := [.lit (.bool true)], args := [d1, d2] }
  | _ => none }
def eraseNilRow : OpenClaim := { program := "ytiakmddejckkbaagreat", sum := "99fb6bdba498e384c7aadfb5f95c0d12a98a7b6c2a20d82a2dfa3939abc0546d", func := "cordon/cordonlaw20.EraseNil", spec := "eraseNil", inPlace := ["maps.clone"], unfollowed := true, recurses := true, plainKeys := false, apart := false }
def EraseNilSaid : Prop := eraseNilRow.holds Tryz.pinned (OpenSpec.ofChange eraseNilSpec)

/-- ITS FALSE NEIGHBOUR: 'it returns false'. Refute it at one input. -/
def eraseNilWrong : ChangeSpec := { name := "eraseNil", fn := fun _ => fun
  | [d1, d2] => { results := [.lit (.bool false)], args := [d1, d2] }
  | _ => none }
def EraseNilWrongFalsely : Prop := eraseNilRow.holds Tryz.pinned (OpenSpec.ofChange eraseNilWrong)

/- THE SECOND FORM. 'bulk': how many values and letters a reading holds, each counted each time it is reached (what is shared counts as often as it is met; a slice's spare places count too). A statement '..UptoSaid' is the law's where the arguments, and the package variables that the reading takes, are together of bulk at most 1048576: NARROWER than '..Said'. Prove '..Said' where nothing that the law and all that it calls make is longer than what came in: it says more and counts as full. Else prove '..UptoSaid'. A law counts once. -/
mutual
def uptoBulk {H : Type} : DataW H → Nat
  | .lit (.string bytes) => bytes.length + 1
  | .lit _ => 1
  | .nil => 1
  | .ptr d => uptoBulk d + 1
  | .slice elems spare => uptoBulkAll elems + uptoBulkAll spare + 1
  | .agg parts => uptoBulkAll parts + 1
  | .iface _ d => uptoBulk d + 1
  | .map entries => uptoBulkEntries entries + 1
  | .held _ => 1
def uptoBulkAll {H : Type} : List (DataW H) → Nat
  | [] => 0
  | d :: r => uptoBulk d + uptoBulkAll r
def uptoBulkEntries {H : Type} : List (Lit × DataW H) → Nat
  | [] => 0
  | x :: r => uptoBulkEntry x + uptoBulkEntries r
def uptoBulkEntry {H : Type} : Lit × DataW H → Nat
  | (.string bytes, d) => bytes.length + uptoBulk d + 1
  | (_, d) => uptoBulk d + 1
 end
def uptoSmall : (H : Type) → List (DataW H) → Bool := fun _ ds => decide (uptoBulkAll ds ≤ 1048576)
def OpenSpec.upto (s : _root_.Go.ChangeSpec) : _root_.Go.OpenSpec := { _root_.Go.OpenSpec.ofChange s with cond := some uptoSmall }

/-- 'cordonlaw08.SchemaNil', WHERE WHAT IT READS IS OF BULK AT MOST 1048576: true; the input reads as it did. -/
def schemaNilUptoRow : OpenClaim := { program := "ytiakmddejckkbaagreat", sum := "99fb6bdba498e384c7aadfb5f95c0d12a98a7b6c2a20d82a2dfa3939abc0546d", func := "cordon/cordonlaw08.SchemaNil", spec := "schemaNil", unfollowed := true, recurses := true, plainKeys := false, apart := false, narrowed := true }
def SchemaNilUptoSaid : Prop := schemaNilUptoRow.holds Tryz.pinned (OpenSpec.upto schemaNilSpec)

/-- 'cordonlaw12.StoreNil', WHERE WHAT IT READS IS OF BULK AT MOST 1048576: true; the input reads as it did. -/
def storeNilUptoRow : OpenClaim := { program := "ytiakmddejckkbaagreat", sum := "99fb6bdba498e384c7aadfb5f95c0d12a98a7b6c2a20d82a2dfa3939abc0546d", func := "cordon/cordonlaw12.StoreNil", spec := "storeNil", inPlace := ["maps.clone"], unfollowed := true, recurses := true, plainKeys := false, apart := false, narrowed := true }
def StoreNilUptoSaid : Prop := storeNilUptoRow.holds Tryz.pinned (OpenSpec.upto storeNilSpec)

/-- 'cordonlaw20.EraseNil', WHERE WHAT IT READS IS OF BULK AT MOST 1048576: true; the input reads as it did. -/
def eraseNilUptoRow : OpenClaim := { program := "ytiakmddejckkbaagreat", sum := "99fb6bdba498e384c7aadfb5f95c0d12a98a7b6c2a20d82a2dfa3939abc0546d", func := "cordon/cordonlaw20.EraseNil", spec := "eraseNil", inPlace := ["maps.clone"], unfollowed := true, recurses := true, plainKeys := false, apart := false, narrowed := true }
def EraseNilUptoSaid : Prop := eraseNilUptoRow.holds Tryz.pinned (OpenSpec.upto eraseNilSpec)

end Rows
end Go.Proofs.YtiakmddejckkbaaGreat
